/-
  Facts handed in.
-/
import Derived.Test.YtomiefhfkdfgbaaW4
import Derived.SizedLaws
import Derived.Deep.Slices
import Derived.Lib.SmallJoins
namespace Go.Proofs.Ytomiefhfkdfgbaa
open Go.ChangeShapes Go.WideShapes Go.ChangeAt Go.RowKit
def Fits (k : K) : Prop := (-9223372036854775808 ≤ k.n ∧ k.n ≤ 9223372036854775807) ∧ k.s.length ≤ 140737488351232
theorem Try.cellsB : Try.prog.cellsOf 4 = 1 := by kernel_rfl
theorem Try.cellsI : Try.prog.cellsOf 3 = 1 := by kernel_rfl
theorem Try.cellsS : Try.prog.cellsOf 9 = 1 := by kernel_rfl
theorem Try.cellsK : Try.prog.cellsOf 50 = 3 := by kernel_rfl
theorem flat_place {α β : Type} (f : α → List β) (k : Nat) (hk : ∀ x, (f x).length = k) (l : List α) (j : Nat) (u : β) (h : (l.flatMap f)[j]? = some u) : ∃ i c, ∃ hi : i < l.length, c < k ∧ j = i * k + c ∧ (f l[i])[c]? = some u := by
  have hj := (List.getElem?_eq_some_iff.1 h).1
  rw [flat_len f k hk] at hj
  have hk0 : 0 < k := by rcases Nat.eq_zero_or_pos k with rfl | h0; · simp at hj
                         · exact h0
  have hd := Nat.div_add_mod' j k
  have hi : j / k < l.length := Nat.div_lt_of_lt_mul (by rw [Nat.mul_comm]; exact hj)
  refine ⟨j / k, j % k, hi, Nat.mod_lt _ hk0, by omega, ?_⟩
  rw [← flat_get f k hk l (j / k) (j % k) hi (Nat.mod_lt _ hk0), hd, h]
theorem weightsAll_mem {H : Type} {P : Program} {e : TypeId} : ∀ {l : List (DataW H)} {d : DataW H}, d ∈ l → ∀ n ∈ d.weights P e, n ∈ DataW.weightsAll P e l
  | x :: r, d, hd, n, hn => by
    rw [DataW.weightsAll, List.mem_append]
    rcases List.mem_cons.1 hd with rfl | h
    · exact .inl hn
    · exact .inr (weightsAll_mem h n hn)
theorem three3 {l : List Value} (h : l.length = 3) : ∃ a b c, l = [a, b, c] := by
  match l, h with
  | [a, b, c], _ => exact ⟨a, b, c, rfl⟩
theorem four4 {l : List Value} (h : l.length = 4) : ∃ a b c d, l = [a, b, c, d] := by
  match l, h with
  | [a, b, c, d], _ => exact ⟨a, b, c, d, rfl⟩
theorem str_of (s : ByteArray) : ∃ l : List UInt8, Value.string s = str l := by
  obtain ⟨⟨l⟩⟩ := s; exact ⟨l, rfl⟩

/-- a slice of records that came in -/
theorem cells_row {α : Type} (D : Kd α) (sl el : TypeId) (bytes : Nat) {H : Type} {enc : TypeId × Value → H} {W : World} (hu : Try.prog.underlying sl = some (.slice el)) (hc : Try.prog.cellsOf el = D.k) (hb : Try.prog.bytesOf el = bytes) (hby : 32 ≤ bytes) (Q : α → Prop)
    (he : ∀ {fuel : Nat} {cs : List Value} {x : DataW H × List MemPlace}, DataW.trod enc Try.prog W 0 (fun _ => true) true fuel el cs = some x → (∀ n ∈ x.1.weights Try.prog el, n ≤ reachBytes) → ∃ v, cs = D.enc v ∧ Q v)
    {fuel : Nat} {cs : List Value} {x : DataW H × List MemPlace} (h : DataW.trod enc Try.prog W 0 (fun _ => true) true fuel sl cs = some x) (hw : ∀ n ∈ x.1.weights Try.prog sl, n ≤ reachBytes) :
    ∃ a c xs, cs = [.slice a (List.length xs) c] ∧ Row D W a c xs ∧ c ≤ maxLen ∧ xs.length * bytes ≤ reachBytes ∧ ∀ v ∈ xs, Q v := by
  rcases Deep.open_slice hu h with ⟨rfl, _⟩ | ⟨ad, len, cap, m, n, Dd, Pl, rfl, _, hl, hm, hmm, rfl, hcl⟩
  · exact ⟨none, 0, [], rfl, Row.nil D W, by simp, by simp, fun _ h => by simp at h⟩
  · simp only [if_true] at hmm
    replace hmm := hmm.symm
    subst hmm
    rw [hc] at hcl
    have hbig : cap * bytes ≤ reachBytes := hw _ (by
      rw [DataW.weights]
      simp only [hu, hb, List.length_map, List.length_range]
      rw [show len + (cap - len) = cap by omega]
      exact List.mem_cons_self ..)
    by_cases h0 : len = 0
    · subst h0
      exact ⟨some ad, cap, [], rfl, ⟨by simp, by simp, (fun h => by cases h), fun ad' ha j u hu => by simp at hu⟩, hm, by simp, fun _ h => by simp at h⟩
    have hk : ∀ i, i < len → ∃ k : α, W.cells? 0 (ad.add (i * D.k)) D.k = some (D.enc k) ∧ Q k := fun i hi => by
      obtain ⟨cs', h1, h2⟩ := hcl i (by omega)
      obtain ⟨k, rfl, hq⟩ := he h2 (fun n hn => hw n (by
        rw [DataW.weights]
        simp only [hu]
        exact List.mem_cons_of_mem _ (List.mem_append_left _ (weightsAll_mem (d := Dd i) (List.mem_map.2 ⟨i, List.mem_range.2 hi, rfl⟩) n hn))))
      exact ⟨k, h1, hq⟩
    obtain ⟨dk, _⟩ := hk 0 (by omega)
    have hk' : ∀ i, ∃ k : α, i < len → W.cells? 0 (ad.add (i * D.k)) D.k = some (D.enc k) ∧ Q k := fun i => by
      by_cases hi : i < len
      · obtain ⟨k, h⟩ := hk i hi
        exact ⟨k, fun _ => h⟩
      · exact ⟨dk, fun h => absurd h hi⟩
    obtain ⟨kf, hkf⟩ : ∃ kf : Nat → α, ∀ i, i < len → W.cells? 0 (ad.add (i * D.k)) D.k = some (D.enc (kf i)) ∧ Q (kf i) := ⟨fun i => Classical.choose (hk' i), fun i => Classical.choose_spec (hk' i)⟩
    have hlen : ((List.range len).map kf).length = len := by simp
    have hle : len * bytes ≤ reachBytes := Nat.le_trans (Nat.mul_le_mul_right _ hl) hbig
    refine ⟨some ad, cap, (List.range len).map kf, by rw [hlen], ⟨by rw [hlen]; exact hl, ?_, (fun h => by cases h), fun ad' ha j u hu => ?_⟩, hm, by rw [hlen]; exact hle, fun v hv => ?_⟩
    · rw [hlen]
      have : len * 32 ≤ len * bytes := Nat.mul_le_mul_left _ hby
      unfold reachBytes at hle; omega
    · cases ha
      obtain ⟨i, c, hi, hc3, rfl, hv⟩ := flat_place D.enc D.k D.len _ j u hu
      rw [hlen] at hi
      have h1 := (World.cells?_some (hkf i hi).1).2.2 c hc3
      rw [Deep.add_add] at h1
      rw [h1]
      simpa using hv
    · obtain ⟨i, hi, rfl⟩ := List.mem_map.1 hv
      exact (hkf i (List.mem_range.1 hi)).2

theorem cells_const {H : Type} {enc : TypeId × Value → H} {W : World} {fuel : Nat} {cs : List Value} {x : DataW H × List MemPlace} (h : DataW.trod enc Try.prog W 0 (fun _ => true) true fuel 50 cs = some x) (hw : ∀ n ∈ x.1.weights Try.prog 50, n ≤ reachBytes) : ∃ k : K, cs = kv k ∧ Fits k := by
  obtain ⟨y0, y1, y2, n, hx, hl, h0, h1, h2⟩ := Deep.trod_struct3 Try.underlying50 h
  rw [hx] at hw
  rw [Try.cellsK] at hl
  obtain ⟨c0, c1, c2, rfl⟩ := three3 hl
  simp only [Try.cellsB, Try.cellsI, Try.cellsS, List.drop_zero, List.drop_succ_cons, List.take_succ_cons, List.take_zero] at h0 h1 h2
  obtain ⟨b, e0, _⟩ := DataW.trod_bool Try.underlying4 h0
  obtain ⟨i, e1, _, hwf⟩ := DataW.trod_int Try.underlying3 h1
  obtain ⟨s, e2, e2', _⟩ := DataW.trod_string Try.underlying9 h2
  subst e2'
  obtain ⟨⟨l⟩⟩ := s
  have hs : l.length ≤ reachBytes := hw _ (by
    rw [DataW.weights]
    simp only [Try.underlying50, List.map_cons, List.map_nil, DataW.weightsEach, List.mem_append]
    refine .inr (.inr (.inl ?_))
    rw [DataW.weights]; exact List.mem_singleton.2 rfl)
  simp only [List.cons.injEq, and_true] at e0 e1 e2
  exact ⟨⟨b, i, l⟩, by rw [e0, e1, e2]; rfl, bounds_i64 hwf, hs⟩
/-- what is within reach, of one argument -/
theorem within {H : Type} {ts : List TypeId} {ds : List (DataW H)} (hsz : (DataW.weightsEach Try.prog ts ds).all (· ≤ reachBytes) = true) {j : Nat} {t : TypeId} {d : DataW H} (ht : ts[j]? = some t) (hd : ds[j]? = some d) : ∀ n ∈ d.weights Try.prog t, n ≤ reachBytes := fun n hn => by
  simpa using List.all_eq_true.1 hsz n (DataW.weights_mem_each ht hd n hn)

theorem Try.cellsA : Try.prog.cellsOf 32 = 1 := by kernel_rfl
theorem Try.cellsFs : Try.prog.cellsOf 41 = 1 := by kernel_rfl
theorem Try.cellsF : Try.prog.cellsOf 34 = 4 := by kernel_rfl
theorem Try.bytesK : Try.prog.bytesOf 50 = 32 := by kernel_rfl
theorem Try.bytesF : Try.prog.bytesOf 34 = 72 := by kernel_rfl
theorem cells_fact2 {H : Type} {enc : TypeId × Value → H} {W : World} {fuel : Nat} {cs : List Value} {x : DataW H × List MemPlace} (h : DataW.trod enc Try.prog W 0 (fun _ => true) true fuel 34 cs = some x) (hw : ∀ n ∈ x.1.weights Try.prog 34, n ≤ reachBytes) : ∃ f : Fv, cs = fv f ∧ (Fv.At W f ∧ TxF f) := by
  obtain ⟨y0, y1, y2, y3, n, rfl, hl, h0, h1, h2, h3⟩ := Joins.trod_struct4 Try.underlying34 h
  rw [Try.cellsF] at hl
  obtain ⟨c0, c1, c2, c3, rfl⟩ := four4 hl
  simp only [Try.cellsA, Try.cellsS, List.drop_zero, List.drop_succ_cons, List.take_succ_cons, List.take_zero] at h0 h1 h2 h3
  obtain ⟨s0, e0, f0', _⟩ := DataW.trod_string Try.underlying9 h0
  obtain ⟨s1, e1, f1', _⟩ := DataW.trod_string Try.underlying9 h1
  obtain ⟨s2, e2, f2', _⟩ := DataW.trod_string Try.underlying9 h2
  subst f0' f1' f2'
  obtain ⟨⟨l0⟩⟩ := s0; obtain ⟨⟨l1⟩⟩ := s1; obtain ⟨⟨l2⟩⟩ := s2
  have g0 : l0.length ≤ reachBytes := hw _ (by
    rw [DataW.weights]
    simp only [Try.underlying34, List.map_cons, List.map_nil, DataW.weightsEach, List.mem_append]
    refine .inl ?_
    rw [DataW.weights]; exact List.mem_singleton.2 rfl)
  have g1 : l1.length ≤ reachBytes := hw _ (by
    rw [DataW.weights]
    simp only [Try.underlying34, List.map_cons, List.map_nil, DataW.weightsEach, List.mem_append]
    refine .inr (.inl ?_)
    rw [DataW.weights]; exact List.mem_singleton.2 rfl)
  have g2 : l2.length ≤ reachBytes := hw _ (by
    rw [DataW.weights]
    simp only [Try.underlying34, List.map_cons, List.map_nil, DataW.weightsEach, List.mem_append]
    refine .inr (.inr (.inl ?_))
    rw [DataW.weights]; exact List.mem_singleton.2 rfl)
  obtain ⟨a, c, ks, e3, hA, _, _, hk⟩ := cells_row kK 32 50 32 Try.underlying32 Try.cellsK Try.bytesK (Nat.le_refl _) Fits (fun h hw => cells_const h hw) h3 (fun n hn => hw n (by
    rw [DataW.weights]
    simp only [Try.underlying34, List.map_cons, List.map_nil, DataW.weightsEach, List.mem_append]
    exact .inr (.inr (.inr (.inl hn)))))
  simp only [List.cons.injEq, and_true] at e0 e1 e2 e3
  exact ⟨⟨l0, l1, l2, a, c, ks⟩, by rw [e0, e1, e2, e3]; rfl, ⟨hA.room, hA.few, hA.void, hA.cells⟩, ⟨g0, g1, g2, fun k h => (hk k h).2⟩⟩


theorem cells_facts {H : Type} {enc : TypeId × Value → H} {W : World} {fuel : Nat} {cs : List Value} {x : DataW H × List MemPlace} (h : DataW.trod enc Try.prog W 0 (fun _ => true) true fuel 41 cs = some x) (hw : ∀ n ∈ x.1.weights Try.prog 41, n ≤ reachBytes) :
    ∃ a c xs, cs = [.slice a (List.length xs) c] ∧ Lies W a c xs ∧ ∀ x ∈ xs, Fv.At W x ∧ TxF x := by
  obtain ⟨a', c', xs, h1, h2, h3, h4, h5⟩ := cells_row fK 41 34 72 Try.underlying41 Try.cellsF Try.bytesF (by omega) (fun v : Fv => Fv.At W v ∧ TxF v) (fun h hw => cells_fact2 h hw) h hw
  exact ⟨a', c', xs, h1, ⟨h2.room, h3, by unfold reachBytes at h4; omega, h2.void, h2.cells⟩, h5⟩
set_option maxRecDepth 100000 in
theorem open_facts13 {H : Type} {enc : TypeId × Value → H} {W : World} {base : Nat} {v : Value} {d : DataW H} {p : List MemPlace} (hw : ∀ n ∈ d.weights Try.prog 41, n ≤ reachBytes) (hv : Value.okWide Try.prog W .any base 41 v) (ht : DataW.Trod enc Try.prog W 0 (fun _ => true) true 41 v d p) :
    ∃ a c xs, v = .slice a (List.length xs) c ∧ Lies W a c xs ∧ ∀ x ∈ xs, Fv.At W x ∧ TxF x := by
  obtain ⟨a, len, cap, rfl⟩ := okWide_slice Try.underlying41 hv
  obtain ⟨fuel, hf⟩ := ht
  obtain ⟨a', c', xs, h1, h2, h3⟩ := cells_facts hf hw
  simp only [Value.cells, List.cons.injEq, and_true] at h1
  exact ⟨a', c', xs, h1, h2, h3⟩

end Go.Proofs.Ytomiefhfkdfgbaa
