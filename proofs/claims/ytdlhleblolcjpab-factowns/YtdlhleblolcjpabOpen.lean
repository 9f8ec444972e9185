/-
  How constants, facts and slices of them that came in are opened.
-/
import Derived.Test.YtdlhleblolcjpabFb
import Derived.SizedLaws
import Derived.Deep.Slices
import Derived.Lib.SmallJoins
namespace Go.Proofs.Ytdlhleblolcjpab
open Go.ChangeShapes Go.WideShapes Go.ChangeAt Go.RowKit

theorem Try.cellsB : Try.prog.cellsOf 4 = 1 := by kernel_rfl
theorem Try.cellsI : Try.prog.cellsOf 3 = 1 := by kernel_rfl
theorem Try.cellsS : Try.prog.cellsOf 9 = 1 := by kernel_rfl
theorem Try.cellsA : Try.prog.cellsOf 22 = 1 := by kernel_rfl
theorem Try.cellsK : Try.prog.cellsOf 27 = 3 := by kernel_rfl
theorem Try.cellsF : Try.prog.cellsOf 24 = 4 := by kernel_rfl
theorem Try.bytesK : Try.prog.bytesOf 27 = 32 := by kernel_rfl
theorem Try.bytesF : Try.prog.bytesOf 24 = 72 := by kernel_rfl

theorem weightsAll_mem {H : Type} {P : Program} {e : TypeId} : ∀ {l : List (DataW H)} {d : DataW H}, d ∈ l → ∀ n ∈ d.weights P e, n ∈ DataW.weightsAll P e l
  | x :: r, d, hd, n, hn => by
    rw [DataW.weightsAll, List.mem_append]
    rcases List.mem_cons.1 hd with rfl | h
    · exact .inl hn
    · exact .inr (weightsAll_mem h n hn)


theorem three {l : List Value} (h : l.length = 3) : ∃ a b c, l = [a, b, c] := by
  match l, h with
  | [a, b, c], _ => exact ⟨a, b, c, rfl⟩
theorem four {l : List Value} (h : l.length = 4) : ∃ a b c d, l = [a, b, c, d] := by
  match l, h with
  | [a, b, c, d], _ => exact ⟨a, b, c, d, rfl⟩
theorem str_of (s : ByteArray) : ∃ l : List UInt8, Value.string s = str l := by
  obtain ⟨⟨l⟩⟩ := s; exact ⟨l, rfl⟩

theorem cells_const {H : Type} {enc : TypeId × Value → H} {W : World} {fuel : Nat} {cs : List Value} {x : DataW H × List MemPlace} (h : DataW.trod enc Try.prog W 0 (fun _ => true) true fuel 27 cs = some x) : ∃ k : K, cs = kv k := by
  obtain ⟨y0, y1, y2, n, _, hl, h0, h1, h2⟩ := Deep.trod_struct3 Try.underlying27 h
  rw [Try.cellsK] at hl
  obtain ⟨c0, c1, c2, rfl⟩ := three hl
  simp only [Try.cellsB, Try.cellsI, Try.cellsS, List.drop_zero, List.drop_succ_cons, List.take_succ_cons, List.take_zero] at h0 h1 h2
  obtain ⟨b, e0, _⟩ := DataW.trod_bool Try.underlying4 h0
  obtain ⟨i, e1, _, _⟩ := DataW.trod_int Try.underlying3 h1
  obtain ⟨s, e2, _, _⟩ := DataW.trod_string Try.underlying9 h2
  obtain ⟨l, hs⟩ := str_of s
  simp only [List.cons.injEq, and_true] at e0 e1 e2
  exact ⟨⟨b, i, l⟩, by rw [e0, e1, e2, hs]; rfl⟩

theorem cells_args {H : Type} {enc : TypeId × Value → H} {W : World} {fuel : Nat} {cs : List Value} {x : DataW H × List MemPlace} (h : DataW.trod enc Try.prog W 0 (fun _ => true) true fuel 22 cs = some x) (hw : ∀ n ∈ x.1.weights Try.prog 22, n ≤ reachBytes) :
    ∃ a c ks, cs = [.slice a (List.length ks) c] ∧ ArgsAt W a c ks := by
  rcases Deep.open_slice Try.underlying22 h with ⟨rfl, _⟩ | ⟨ad, len, cap, m, n, D, Pl, rfl, _, hl, hm, hmm, rfl, hc⟩
  · exact ⟨none, 0, [], rfl, ArgsAt.nil W⟩
  · simp only [if_true] at hmm
    replace hmm := hmm.symm
    subst hmm
    rw [Try.cellsK] at hc
    have hk : ∀ i, ∃ k : K, i < len → W.cells? 0 (ad.add (i * 3)) 3 = some (kv k) := fun i => by
      by_cases hi : i < len
      · obtain ⟨cs', h1, h2⟩ := hc i (by omega)
        obtain ⟨k, rfl⟩ := cells_const h2
        exact ⟨k, fun _ => h1⟩
      · exact ⟨⟨false, 0, []⟩, fun h => absurd h hi⟩
    obtain ⟨kf, hkf⟩ : ∃ kf : Nat → K, ∀ i, i < len → W.cells? 0 (ad.add (i * 3)) 3 = some (kv (kf i)) := ⟨fun i => Classical.choose (hk i), fun i => Classical.choose_spec (hk i)⟩
    have hbig : cap * 32 ≤ reachBytes := hw _ (by
      rw [DataW.weights]
      simp only [Try.underlying22, Try.bytesK, List.length_map, List.length_range]
      rw [show len + (cap - len) = cap by omega]
      exact List.mem_cons_self ..)
    have hlen : ((List.range len).map kf).length = len := by simp
    refine ⟨some ad, cap, (List.range len).map kf, by rw [hlen], ⟨by rw [hlen]; exact hl, by rw [hlen]; unfold reachBytes at hbig; omega, (fun h => by cases h), fun ad' ha j u hu => ?_⟩⟩
    cases ha
    obtain ⟨i, c, hi, hc3, rfl, hv⟩ := flat_place kv 3 kv_len _ j u hu
    rw [hlen] at hi
    have h1 := (World.cells?_some (hkf i hi)).2.2 c hc3
    rw [Deep.add_add] at h1
    rw [h1]
    simpa using hv

theorem cells_fact {H : Type} {enc : TypeId × Value → H} {W : World} {fuel : Nat} {cs : List Value} {x : DataW H × List MemPlace} (h : DataW.trod enc Try.prog W 0 (fun _ => true) true fuel 24 cs = some x) (hw : ∀ n ∈ x.1.weights Try.prog 24, n ≤ reachBytes) : ∃ f : Fv, cs = fv f ∧ Fv.At W f := by
  obtain ⟨y0, y1, y2, y3, n, rfl, hl, h0, h1, h2, h3⟩ := Joins.trod_struct4 Try.underlying24 h
  rw [Try.cellsF] at hl
  obtain ⟨c0, c1, c2, c3, rfl⟩ := four hl
  simp only [Try.cellsA, Try.cellsS, List.drop_zero, List.drop_succ_cons, List.take_succ_cons, List.take_zero] at h0 h1 h2 h3
  obtain ⟨s0, e0, _⟩ := DataW.trod_string Try.underlying9 h0
  obtain ⟨s1, e1, _⟩ := DataW.trod_string Try.underlying9 h1
  obtain ⟨s2, e2, _⟩ := DataW.trod_string Try.underlying9 h2
  obtain ⟨a, c, ks, e3, hA⟩ := cells_args h3 (fun n hn => hw n (by
    rw [DataW.weights]
    simp only [Try.underlying24, List.map_cons, List.map_nil, DataW.weightsEach, List.mem_append]
    exact .inr (.inr (.inr (.inl hn)))))
  obtain ⟨l0, hs0⟩ := str_of s0; obtain ⟨l1, hs1⟩ := str_of s1; obtain ⟨l2, hs2⟩ := str_of s2
  simp only [List.cons.injEq, and_true] at e0 e1 e2 e3
  exact ⟨⟨l0, l1, l2, a, c, ks⟩, by rw [e0, e1, e2, e3, hs0, hs1, hs2]; rfl, hA⟩

theorem cells_facts {H : Type} {enc : TypeId × Value → H} {W : World} {fuel : Nat} {cs : List Value} {x : DataW H × List MemPlace} (h : DataW.trod enc Try.prog W 0 (fun _ => true) true fuel 35 cs = some x) (hw : ∀ n ∈ x.1.weights Try.prog 35, n ≤ reachBytes) :
    ∃ a c xs, cs = [.slice a (List.length xs) c] ∧ Lies W a c xs ∧ ∀ x ∈ xs, Fv.At W x := by
  rcases Deep.open_slice Try.underlying35 h with ⟨rfl, _⟩ | ⟨ad, len, cap, m, n, D, Pl, rfl, _, hl, hm, hmm, rfl, hc⟩
  · exact ⟨none, 0, [], rfl, Lies.nil W, fun _ h => by simp at h⟩
  · simp only [if_true] at hmm
    replace hmm := hmm.symm
    subst hmm
    rw [Try.cellsF] at hc
    have hk : ∀ i, ∃ k : Fv, i < len → W.cells? 0 (ad.add (i * 4)) 4 = some (fv k) ∧ Fv.At W k := fun i => by
      by_cases hi : i < len
      · obtain ⟨cs', h1, h2⟩ := hc i (by omega)
        obtain ⟨k, rfl, hA⟩ := cells_fact h2 (fun n hn => hw n (by
          rw [DataW.weights]
          simp only [Try.underlying35]
          exact List.mem_cons_of_mem _ (List.mem_append_left _ (weightsAll_mem (d := D i) (List.mem_map.2 ⟨i, List.mem_range.2 hi, rfl⟩) n hn))))
        exact ⟨k, fun _ => ⟨h1, hA⟩⟩
      · exact ⟨nof, fun h => absurd h hi⟩
    obtain ⟨kf, hkf⟩ : ∃ kf : Nat → Fv, ∀ i, i < len → W.cells? 0 (ad.add (i * 4)) 4 = some (fv (kf i)) ∧ Fv.At W (kf i) := ⟨fun i => Classical.choose (hk i), fun i => Classical.choose_spec (hk i)⟩
    have hbig : cap * 72 ≤ reachBytes := hw _ (by
      rw [DataW.weights]
      simp only [Try.underlying35, Try.bytesF, List.length_map, List.length_range]
      rw [show len + (cap - len) = cap by omega]
      exact List.mem_cons_self ..)
    have hlen : ((List.range len).map kf).length = len := by simp
    refine ⟨some ad, cap, (List.range len).map kf, by rw [hlen], ⟨by rw [hlen]; exact hl, hm, by rw [hlen]; unfold reachBytes at hbig; omega, (fun h => by cases h), fun ad' ha j u hu => ?_⟩, fun y hy => ?_⟩
    · cases ha
      obtain ⟨i, c, hi, hc3, rfl, hv⟩ := flat_place fv 4 fv_len _ j u hu
      rw [hlen] at hi
      have h1 := (World.cells?_some (hkf i hi).1).2.2 c hc3
      rw [Deep.add_add] at h1
      rw [h1]
      simpa using hv
    · obtain ⟨i, hi, rfl⟩ := List.mem_map.1 hy
      exact (hkf i (List.mem_range.1 hi)).2

/-- what is within reach, of one argument -/
theorem within {H : Type} {ts : List TypeId} {ds : List (DataW H)} (hsz : (DataW.weightsEach Try.prog ts ds).all (· ≤ reachBytes) = true) {j : Nat} {t : TypeId} {d : DataW H} (ht : ts[j]? = some t) (hd : ds[j]? = some d) : ∀ n ∈ d.weights Try.prog t, n ≤ reachBytes := fun n hn => by
  simpa using List.all_eq_true.1 hsz n (DataW.weights_mem_each ht hd n hn)

theorem open_const {H : Type} {enc : TypeId × Value → H} {W : World} {base : Nat} {v : Value} {d : DataW H} {p : List MemPlace} (hv : Value.okWide Try.prog W .any base 27 v) (ht : DataW.Trod enc Try.prog W 0 (fun _ => true) true 27 v d p) : ∃ k : K, v = kval k := by
  obtain ⟨cs, rfl, _⟩ := okWide_struct Try.underlying27 hv
  obtain ⟨fuel, hf⟩ := ht
  obtain ⟨k, hk⟩ := cells_const hf
  refine ⟨k, ?_⟩
  rw [Value.cells] at hk
  rw [kval, show cs = (kv k).toArray by rw [← hk]]
  rfl
theorem open_fact {H : Type} {enc : TypeId × Value → H} {W : World} {base : Nat} {v : Value} {d : DataW H} {p : List MemPlace} (hw : ∀ n ∈ d.weights Try.prog 24, n ≤ reachBytes) (hv : Value.okWide Try.prog W .any base 24 v) (ht : DataW.Trod enc Try.prog W 0 (fun _ => true) true 24 v d p) : ∃ x : Fv, v = x.val ∧ Fv.At W x := by
  obtain ⟨cs, rfl, _⟩ := okWide_struct Try.underlying24 hv
  obtain ⟨fuel, hf⟩ := ht
  obtain ⟨x, hx, hA⟩ := cells_fact hf hw
  refine ⟨x, ?_, hA⟩
  rw [Value.cells] at hx
  rw [Fv.val, show cs = (fv x).toArray by rw [← hx]]
  rfl
theorem open_facts {H : Type} {enc : TypeId × Value → H} {W : World} {base : Nat} {v : Value} {d : DataW H} {p : List MemPlace} (hw : ∀ n ∈ d.weights Try.prog 35, n ≤ reachBytes) (hv : Value.okWide Try.prog W .any base 35 v) (ht : DataW.Trod enc Try.prog W 0 (fun _ => true) true 35 v d p) :
    ∃ a c xs, v = .slice a (List.length xs) c ∧ Lies W a c xs ∧ ∀ x ∈ xs, Fv.At W x := by
  obtain ⟨a, len, cap, rfl⟩ := okWide_slice Try.underlying35 hv
  obtain ⟨fuel, hf⟩ := ht
  obtain ⟨a', c', xs, h1, h2, h3⟩ := cells_facts hf hw
  simp only [Value.cells, List.cons.injEq, and_true] at h1
  exact ⟨a', c', xs, h1, h2, h3⟩
theorem open_args {H : Type} {enc : TypeId × Value → H} {W : World} {base : Nat} {v : Value} {d : DataW H} {p : List MemPlace} (hw : ∀ n ∈ d.weights Try.prog 22, n ≤ reachBytes) (hv : Value.okWide Try.prog W .any base 22 v) (ht : DataW.Trod enc Try.prog W 0 (fun _ => true) true 22 v d p) :
    ∃ a c ks, v = .slice a (List.length ks) c ∧ ArgsAt W a c ks := by
  obtain ⟨a, len, cap, rfl⟩ := okWide_slice Try.underlying22 hv
  obtain ⟨fuel, hf⟩ := ht
  obtain ⟨a', c', ks, h1, h2⟩ := cells_args hf hw
  simp only [Value.cells, List.cons.injEq, and_true] at h1
  exact ⟨a', c', ks, h1, h2⟩
end Go.Proofs.Ytdlhleblolcjpab
