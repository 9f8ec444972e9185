/-
  How names, acts and slices of them that came in are opened.
-/
import Derived.Test.YtfpdiafedoppnaaDoorFew6
import Derived.Test.YtfpdiafedoppnaaDoorFrame
import Derived.SizedLaws
import Derived.Deep.Slices
import Derived.Lib.SmallJoins
namespace Go.Proofs.YtfpdiafedoppnaaDoor
open Go.ChangeShapes Go.WideShapes Go.ChangeAt Go.RowKit

theorem Tryd.cellsI : Tryd.prog.cellsOf 3 = 1 := by kernel_rfl
theorem Tryd.cellsBs : Tryd.prog.cellsOf 38 = 1 := by kernel_rfl
theorem Tryd.cellsAct : Tryd.prog.cellsOf 40 = 5 := by kernel_rfl
theorem Tryd.bytesStr : Tryd.prog.bytesOf 9 = 16 := by kernel_rfl
theorem Tryd.bytesAct : Tryd.prog.bytesOf 40 = 88 := by kernel_rfl
theorem weightsAll_mem {H : Type} {P : Program} {e : TypeId} : ∀ {l : List (DataW H)} {d : DataW H}, d ∈ l → ∀ n ∈ d.weights P e, n ∈ DataW.weightsAll P e l
  | x :: r, d, hd, n, hn => by
    rw [DataW.weightsAll, List.mem_append]
    rcases List.mem_cons.1 hd with rfl | h
    · exact .inl hn
    · exact .inr (weightsAll_mem h n hn)
theorem five5 {l : List Value} (h : l.length = 5) : ∃ a b c d e, l = [a, b, c, d, e] := by
  match l, h with
  | [a, b, c, d, e], _ => exact ⟨a, b, c, d, e, rfl⟩
theorem str_of (s : ByteArray) : ∃ l : List UInt8, Value.string s = str l := by
  obtain ⟨⟨l⟩⟩ := s; exact ⟨l, rfl⟩

/-- a slice of records that came in -/
theorem cells_row {α : Type} (D : Kd α) (sl el : TypeId) (bytes : Nat) {H : Type} {enc : TypeId × Value → H} {W : World} (hu : Tryd.prog.underlying sl = some (.slice el)) (hc : Tryd.prog.cellsOf el = D.k) (hb : Tryd.prog.bytesOf el = bytes) (hby : 16 ≤ bytes) (Q : α → Prop)
    (he : ∀ {fuel : Nat} {cs : List Value} {x : DataW H × List MemPlace}, DataW.trod enc Tryd.prog W 0 (fun _ => true) true fuel el cs = some x → (∀ n ∈ x.1.weights Tryd.prog el, n ≤ reachBytes) → ∃ v, cs = D.enc v ∧ Q v)
    {fuel : Nat} {cs : List Value} {x : DataW H × List MemPlace} (h : DataW.trod enc Tryd.prog W 0 (fun _ => true) true fuel sl cs = some x) (hw : ∀ n ∈ x.1.weights Tryd.prog sl, n ≤ reachBytes) :
    ∃ a c xs, cs = [.slice a (List.length xs) c] ∧ Row D W a c xs ∧ c ≤ maxLen ∧ xs.length * bytes ≤ reachBytes ∧ ∀ v ∈ xs, Q v := by
  rcases Deep.open_slice hu h with ⟨rfl, _⟩ | ⟨ad, len, cap, m, n, Dd, Pl, rfl, _, hl, hm, hmm, rfl, hcl⟩
  · exact ⟨none, 0, [], rfl, Row.nil D W, by simp, by simp, fun _ h => by simp at h⟩
  · simp only [if_true] at hmm
    replace hmm := hmm.symm
    subst hmm
    rw [hc] at hcl
    have hbig : cap * bytes ≤ reachBytes := hw _ (by
      rw [DataW.weights]
      simp only [hu, hb, List.length_map, List.length_range]
      rw [show len + (cap - len) = cap by omega]
      exact List.mem_cons_self ..)
    by_cases h0 : len = 0
    · subst h0
      exact ⟨some ad, cap, [], rfl, ⟨by simp, by simp, (fun h => by cases h), fun ad' ha j u hu => by simp at hu⟩, hm, by simp, fun _ h => by simp at h⟩
    have hk : ∀ i, i < len → ∃ k : α, W.cells? 0 (ad.add (i * D.k)) D.k = some (D.enc k) ∧ Q k := fun i hi => by
      obtain ⟨cs', h1, h2⟩ := hcl i (by omega)
      obtain ⟨k, rfl, hq⟩ := he h2 (fun n hn => hw n (by
        rw [DataW.weights]
        simp only [hu]
        exact List.mem_cons_of_mem _ (List.mem_append_left _ (weightsAll_mem (d := Dd i) (List.mem_map.2 ⟨i, List.mem_range.2 hi, rfl⟩) n hn))))
      exact ⟨k, h1, hq⟩
    obtain ⟨dk, _⟩ := hk 0 (by omega)
    have hk' : ∀ i, ∃ k : α, i < len → W.cells? 0 (ad.add (i * D.k)) D.k = some (D.enc k) ∧ Q k := fun i => by
      by_cases hi : i < len
      · obtain ⟨k, h⟩ := hk i hi
        exact ⟨k, fun _ => h⟩
      · exact ⟨dk, fun h => absurd h hi⟩
    obtain ⟨kf, hkf⟩ : ∃ kf : Nat → α, ∀ i, i < len → W.cells? 0 (ad.add (i * D.k)) D.k = some (D.enc (kf i)) ∧ Q (kf i) := ⟨fun i => Classical.choose (hk' i), fun i => Classical.choose_spec (hk' i)⟩
    have hlen : ((List.range len).map kf).length = len := by simp
    have hle : len * bytes ≤ reachBytes := Nat.le_trans (Nat.mul_le_mul_right _ hl) hbig
    refine ⟨some ad, cap, (List.range len).map kf, by rw [hlen], ⟨by rw [hlen]; exact hl, ?_, (fun h => by cases h), fun ad' ha j u hu => ?_⟩, hm, by rw [hlen]; exact hle, fun v hv => ?_⟩
    · rw [hlen]
      have : len * 16 ≤ len * bytes := Nat.mul_le_mul_left _ hby
      unfold reachBytes at hle; omega
    · cases ha
      obtain ⟨i, c, hi, hc3, rfl, hv⟩ := flat_place D.enc D.k D.len _ j u hu
      rw [hlen] at hi
      have h1 := (World.cells?_some (hkf i hi).1).2.2 c hc3
      rw [Deep.add_add] at h1
      rw [h1]
      simpa using hv
    · obtain ⟨i, hi, rfl⟩ := List.mem_map.1 hv
      exact (hkf i (List.mem_range.1 hi)).2

/-- what is within reach, of one argument -/
theorem within {H : Type} {ts : List TypeId} {ds : List (DataW H)} (hsz : (DataW.weightsEach Tryd.prog ts ds).all (· ≤ reachBytes) = true) {j : Nat} {t : TypeId} {d : DataW H} (ht : ts[j]? = some t) (hd : ds[j]? = some d) : ∀ n ∈ d.weights Tryd.prog t, n ≤ reachBytes := fun n hn => by
  simpa using List.all_eq_true.1 hsz n (DataW.weights_mem_each ht hd n hn)

theorem trod_struct5 {H : Type} {enc : TypeId × Value → H} {P : Program} {w : World} {base : Nat} {spare : Nat → Bool} {held : Bool} {t : TypeId} {f0 f1 f2 f3 f4 : Field} {fuel : Nat} {cs : List Value} {x : DataW H × List MemPlace} (ht : P.underlying t = some (.struct #[f0, f1, f2, f3, f4])) (h : DataW.trod enc P w base spare held fuel t cs = some x) :
    ∃ y0 y1 y2 y3 y4 n, x.1 = .agg [y0.1, y1.1, y2.1, y3.1, y4.1] ∧ cs.length = P.cellsOf t ∧ DataW.trod enc P w base spare held n f0.type ((cs.drop f0.offset).take (P.cellsOf f0.type)) = some y0 ∧
      DataW.trod enc P w base spare held n f1.type ((cs.drop f1.offset).take (P.cellsOf f1.type)) = some y1 ∧ DataW.trod enc P w base spare held n f2.type ((cs.drop f2.offset).take (P.cellsOf f2.type)) = some y2 ∧
      DataW.trod enc P w base spare held n f3.type ((cs.drop f3.offset).take (P.cellsOf f3.type)) = some y3 ∧ DataW.trod enc P w base spare held n f4.type ((cs.drop f4.offset).take (P.cellsOf f4.type)) = some y4 := by
  obtain ⟨xs, n, _, rfl, hl, hlen, hf⟩ := DataW.trod_struct ht h
  match xs, hlen with
  | [y0, y1, y2, y3, y4], _ => exact ⟨y0, y1, y2, y3, y4, n, by simp, hl, by simpa using hf 0 f0 rfl, by simpa using hf 1 f1 rfl, by simpa using hf 2 f2 rfl, by simpa using hf 3 f3 rfl, by simpa using hf 4 f4 rfl⟩


theorem cells_str {H : Type} {enc : TypeId × Value → H} {W : World} {fuel : Nat} {cs : List Value} {x : DataW H × List MemPlace} (h : DataW.trod enc Tryd.prog W 0 (fun _ => true) true fuel 9 cs = some x) (hw : ∀ n ∈ x.1.weights Tryd.prog 9, n ≤ reachBytes) : ∃ l : List UInt8, cs = [str l] ∧ l.length ≤ 140737488351232 := by
  obtain ⟨s, e0, hx, hm⟩ := DataW.trod_string Tryd.underlying9 h
  obtain ⟨⟨l⟩⟩ := s
  refine ⟨l, by rw [e0], ?_⟩
  have := hw l.length (by rw [hx, DataW.weights]; simp)
  simpa [reachBytes] using this
theorem cells_bytes {H : Type} {enc : TypeId × Value → H} {W : World} {fuel : Nat} {cs0 : List Value} {x : DataW H × List MemPlace} (h : DataW.trod enc Tryd.prog W 0 (fun _ => true) true fuel 38 cs0 = some x) (hw : ∀ n ∈ x.1.weights Tryd.prog 38, n ≤ reachBytes) : ∃ a c l, cs0 = [.slice a (List.length l) c] ∧ Holds W a c l ∧ l.length ≤ 140737488351232 := by
  rcases open_ints Tryd.underlying38 Tryd.underlying5 Tryd.cellsU8 h with ⟨hcs, hx⟩ | ⟨ad, len, cap, zs, hcs, _, hl, hm, hz, hx, hcell, hwz⟩
  · exact ⟨none, 0, [], hcs, Holds.nil W, by simp⟩
  · simp only [if_true] at hz
    have hzl : ((zs.take len).map fun n => UInt8.ofNat n.toNat).length = len := by simp; omega
    refine ⟨some ad, cap, (zs.take len).map fun n => UInt8.ofNat n.toNat, by rw [hzl, hcs], ⟨by rw [hzl]; exact hl, fun h => (by cases h), fun ad' had j u hu => ?_⟩, ?_⟩
    · cases had
      have hj : j < len := by
        have := (List.getElem?_eq_some_iff.1 hu).1
        rwa [cs_length, hzl] at this
      rw [hcell j (by omega)]
      have hw := hwz zs[j] (List.getElem_mem _)
      have hb := bounds_u8 hw
      have e1 : zs.getD j 0 = zs[j] := by simp [show j < zs.length by omega]
      rw [e1]
      rw [cs_get _ j (by rw [hzl]; exact hj)] at hu
      rw [← hu]
      congr 2
      simp
      omega
    · have := hw cap (by
        rw [hx, DataW.weights]
        simp only [Tryd.underlying38, Tryd.bytesU8]
        exact List.mem_cons.2 (.inl (by simp [lits]; omega)))
      rw [hzl]
      unfold reachBytes at this
      omega
theorem cells_act {H : Type} {enc : TypeId × Value → H} {W : World} {fuel : Nat} {cs : List Value} {x : DataW H × List MemPlace} (h : DataW.trod enc Tryd.prog W 0 (fun _ => true) true fuel 40 cs = some x) (hw : ∀ n ∈ x.1.weights Tryd.prog 40, n ≤ reachBytes) : ∃ v : Av, cs = av v ∧ Av.At W v := by
  obtain ⟨y0, y1, y2, y3, y4, n, hx, hl, h0, h1, h2, h3, h4⟩ := trod_struct5 Tryd.underlying40 h
  rw [hx] at hw
  rw [Tryd.cellsAct] at hl
  obtain ⟨a0, a1, a2, a3, a4, rfl⟩ := five5 hl
  simp only [Tryd.cellsI, Tryd.cellsStr, Tryd.cellsBs, List.drop_zero, List.drop_succ_cons, List.take_succ_cons, List.take_zero] at h0 h1 h2 h3 h4
  have hw' : ∀ n, (n ∈ y1.1.weights Tryd.prog 9 ∨ n ∈ y2.1.weights Tryd.prog 9 ∨ n ∈ y3.1.weights Tryd.prog 38 ∨ n ∈ y4.1.weights Tryd.prog 38) → n ≤ reachBytes := fun n hn => hw n (by
    rw [DataW.weights]
    simp only [Tryd.underlying40, List.map_cons, List.map_nil, DataW.weightsEach, List.mem_append]
    rcases hn with hn | hn | hn | hn
    · exact .inr (.inl hn)
    · exact .inr (.inr (.inl hn))
    · exact .inr (.inr (.inr (.inl hn)))
    · exact .inr (.inr (.inr (.inr (.inl hn)))))
  obtain ⟨i, e0, _, hwf⟩ := DataW.trod_int Tryd.underlying3 h0
  obtain ⟨l1, e1, k1⟩ := cells_str h1 (fun n hn => hw' n (.inl hn))
  obtain ⟨l2, e2, k2⟩ := cells_str h2 (fun n hn => hw' n (.inr (.inl hn)))
  obtain ⟨b3, c3, l3, e3, H3, k3⟩ := cells_bytes h3 (fun n hn => hw' n (.inr (.inr (.inl hn))))
  obtain ⟨b4, c4, l4, e4, H4, k4⟩ := cells_bytes h4 (fun n hn => hw' n (.inr (.inr (.inr hn))))
  simp only [List.cons.injEq, and_true] at e0 e1 e2 e3 e4
  exact ⟨⟨i, l1, l2, b3, c3, l3, b4, c4, l4⟩, by rw [e0, e1, e2, e3, e4]; rfl, ⟨H3, H4, k1, k2, k3, k4, (bounds_i64 hwf).1, (bounds_i64 hwf).2⟩⟩

set_option maxRecDepth 100000 in
theorem open_act {H : Type} {enc : TypeId × Value → H} {W : World} {base : Nat} {v : Value} {d : DataW H} {p : List MemPlace} (hw : ∀ n ∈ d.weights Tryd.prog 40, n ≤ reachBytes) (hv : Value.okWide Tryd.prog W .any base 40 v) (ht : DataW.Trod enc Tryd.prog W 0 (fun _ => true) true 40 v d p) : ∃ x : Av, v = x.val ∧ Av.At W x := by
  obtain ⟨cs, rfl, _⟩ := okWide_struct Tryd.underlying40 hv
  obtain ⟨fuel, hf⟩ := ht
  obtain ⟨x, hx, hA⟩ := cells_act hf hw
  refine ⟨x, ?_, hA⟩
  rw [Value.cells] at hx
  rw [Av.val, show cs = (av x).toArray by rw [← hx]]
  rfl
set_option maxRecDepth 100000 in
theorem open_acts {H : Type} {enc : TypeId × Value → H} {W : World} {base : Nat} {v : Value} {d : DataW H} {p : List MemPlace} (hw : ∀ n ∈ d.weights Tryd.prog 36, n ≤ reachBytes) (hv : Value.okWide Tryd.prog W .any base 36 v) (ht : DataW.Trod enc Tryd.prog W 0 (fun _ => true) true 36 v d p) :
    ∃ a c xs, v = .slice a (List.length xs) c ∧ Row aK W a c xs ∧ ∀ x ∈ xs, Av.At W x := by
  obtain ⟨a, len, cap, rfl⟩ := okWide_slice Tryd.underlying36 hv
  obtain ⟨fuel, hf⟩ := ht
  obtain ⟨a', c', xs, h1, h2, _, _, h3⟩ := cells_row aK 36 40 88 Tryd.underlying36 Tryd.cellsAct Tryd.bytesAct (by omega) (fun v : Av => Av.At W v) (fun h hw => cells_act h hw) hf hw
  simp only [Value.cells, List.cons.injEq, and_true] at h1
  exact ⟨a', c', xs, h1, h2, h3⟩
set_option maxRecDepth 100000 in
theorem open_names {H : Type} {enc : TypeId × Value → H} {W : World} {base : Nat} {v : Value} {d : DataW H} {p : List MemPlace} (hw : ∀ n ∈ d.weights Tryd.prog 22, n ≤ reachBytes) (hv : Value.okWide Tryd.prog W .any base 22 v) (ht : DataW.Trod enc Tryd.prog W 0 (fun _ => true) true 22 v d p) :
    ∃ a c xs, v = .slice a (List.length xs) c ∧ Row sK W a c xs ∧ xs.length * 16 ≤ reachBytes := by
  obtain ⟨a, len, cap, rfl⟩ := okWide_slice Tryd.underlying22 hv
  obtain ⟨fuel, hf⟩ := ht
  obtain ⟨a', c', xs, h1, h2, _, h4, _⟩ := cells_row sK 22 9 16 Tryd.underlying22 Tryd.cellsStr Tryd.bytesStr (by omega) (fun v : List UInt8 => v.length ≤ 140737488351232) (fun h hw => cells_str h hw) hf hw
  simp only [Value.cells, List.cons.injEq, and_true] at h1
  exact ⟨a', c', xs, h1, h2, h4⟩
end Go.Proofs.YtfpdiafedoppnaaDoor
