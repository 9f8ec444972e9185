/-
  How a slice of slices of bytes that came in is opened.
-/
import Derived.Test.YtekhenglepeaaaaDoorFrame
import Derived.Deep.Matrix
namespace Go.Proofs.YtekhenglepeaaaaDoor
open Go.ChangeShapes Go.WideShapes Go.ChangeAt Go.RowKit

theorem Tryd.cellsBytes : Tryd.prog.cellsOf 22 = 1 := by kernel_rfl

/-- rows of bytes -/
def RowsAt (W : World) (a : Option Addr) (n : Nat) (R : Nat → List UInt8) (A : Nat → Option Addr) (C : Nat → Nat) : Prop :=
  n ≤ 281474976710656 ∧ ∀ r, r < n → ∃ ad, a = some ad ∧ W.cell? (ad.add r) = some (.slice (A r) (R r).length (C r)) ∧ Holds W (A r) (C r) (R r) ∧ (R r).length ≤ 281474976710656

theorem weightsAll_mem {H : Type} {P : Program} {e : TypeId} : ∀ {l : List (DataW H)} {d : DataW H}, d ∈ l → ∀ n ∈ d.weights P e, n ∈ DataW.weightsAll P e l
  | x :: r, d, hd, n, hn => by
    rw [DataW.weightsAll, List.mem_append]
    rcases List.mem_cons.1 hd with rfl | h
    · exact .inl hn
    · exact .inr (weightsAll_mem h n hn)

theorem open_rows {H : Type} {enc : TypeId × Value → H} {W : World} {base : Nat} {v : Value} {d : DataW H} {p : List MemPlace} {ts : List TypeId} {ds : List (DataW H)} {k : Nat} (hsz : (DataW.weightsEach Tryd.prog ts ds).all (· ≤ reachBytes) = true) (hts : ts[k]? = some 30) (hds : ds[k]? = some d) (hv : Value.okWide Tryd.prog W .any base 30 v)
    (ht : DataW.Trod enc Tryd.prog W 0 (fun _ => true) true 30 v d p) : ∃ a n c R A C, v = .slice a n c ∧ RowsAt W a n R A C := by
  obtain ⟨a, len, cap, rfl⟩ := okWide_slice Tryd.underlying30 hv
  obtain ⟨fuel, hf⟩ := ht
  rcases Go.Deep.open_int_rows Tryd.underlying30 Tryd.underlying22 Tryd.underlying5 Tryd.cellsBytes Tryd.cellsU8 hf with ⟨hcs, _⟩ | ⟨x, len', cap', A, L, C, Z, hcs, _, hl, hm, hx, hr⟩
  · simp [Value.cells] at hcs
    obtain ⟨rfl, rfl, rfl⟩ := hcs
    exact ⟨none, 0, 0, fun _ => [], fun _ => none, fun _ => 0, rfl, by omega, fun r hr => by omega⟩
  · simp [Value.cells] at hcs
    obtain ⟨rfl, rfl, rfl⟩ := hcs
    simp only [Prod.mk.injEq] at hx
    rw [hx.1] at hds
    have hbig := sized_slice hsz hts hds Tryd.underlying30
    rw [show Tryd.prog.bytesOf 22 = 24 by kernel_rfl] at hbig
    simp only [List.length_map, List.length_range, reachBytes] at hbig
    have hsmall : ∀ r, r < len → A r ≠ none → (Z r).length ≤ reachBytes := fun r hr' hA => by
      have hmem : (Z r).length ∈ DataW.weightsEach Tryd.prog ts ds := by
        refine DataW.weights_mem_each hts hds _ ?_
        rw [DataW.weights]
        simp only [Tryd.underlying30]
        refine List.mem_cons_of_mem _ (List.mem_append_left _ ?_)
        refine weightsAll_mem (d := Deep.intRow .u8 (A r) (L r) (Z r)) (List.mem_map.2 ⟨r, List.mem_range.2 hr', rfl⟩) _ ?_
        obtain ⟨a', ha'⟩ := Option.ne_none_iff_exists'.1 hA
        rw [ha', Deep.intRow, DataW.weights]
        simp only [Tryd.underlying22, Tryd.bytesU8]
        refine List.mem_cons.2 (.inl ?_)
        simp [lits]
        omega
      simpa using List.all_eq_true.1 hsz _ hmem
    refine ⟨some x, len, cap, fun r => ((Z r).take (L r)).map fun n => UInt8.ofNat n.toNat, A, C, rfl, by omega, fun r hlt => ?_⟩
    obtain ⟨h1, h2, h3, h4, h5, h6, h7⟩ := hr r (by omega)
    have hzl : (((Z r).take (L r)).map fun n => UInt8.ofNat n.toNat).length = L r := by simp; omega
    refine ⟨x, rfl, by rw [hzl]; exact h1, ⟨by rw [hzl]; exact h2, fun hn => ?_, fun ad had j u hu => ?_⟩, by
      rw [hzl]
      by_cases hA : A r = none
      · have := h6 hA; omega
      · have := hsmall r hlt hA; unfold reachBytes at this; omega⟩
    · have h0 := h6 hn
      have : L r = 0 := by omega
      exact ⟨List.eq_nil_of_length_eq_zero (by rw [hzl]; exact this), h0⟩
    · have hj : j < L r := by
        have := (List.getElem?_eq_some_iff.1 hu).1
        rwa [cs_length, hzl] at this
      rw [(h7 ad had).2 j (by omega)]
      have hw := h5 (Z r)[j] (List.getElem_mem _)
      have hb := bounds_u8 hw
      have e1 : (Z r).getD j 0 = (Z r)[j] := by simp [show j < (Z r).length by omega]
      rw [e1]
      rw [cs_get _ j (by rw [hzl]; exact hj)] at hu
      rw [← hu]
      congr 2
      simp
      omega
end Go.Proofs.YtekhenglepeaaaaDoor
