/-
  How the data of a call are opened: a slice of bytes that came in holds some bytes; its length is within the form's own reach.
-/
import Derived.Test.YtcncmpgababfjaaDoorQMv
import Derived.SizedLaws
namespace Go.Proofs.YtcncmpgababfjaaDoor
open Go.ChangeShapes Go.WideShapes Go.ChangeAt Go.RowKit

theorem Tryd.cellsU8 : Tryd.prog.cellsOf 5 = 1 := by kernel_rfl
theorem Tryd.bytesU8 : Tryd.prog.bytesOf 5 = 1 := by kernel_rfl

/-- what is known of the datum of a slice of bytes -/
def SliceDatum {H : Type} (d : DataW H) (c : Nat) (l : List UInt8) : Prop := (d = .nil ∧ l = []) ∨ ∃ e s, d = .slice e s ∧ e.length + s.length = c

set_option maxRecDepth 100000 in
theorem open_bytes {H : Type} {enc : TypeId × Value → H} {W : World} {base : Nat} {v : Value} {d : DataW H} {p : List MemPlace} (hv : Value.okWide Tryd.prog W .any base 96 v)
    (ht : DataW.Trod enc Tryd.prog W 0 (fun _ => true) true 96 v d p) : ∃ a c l, v = .slice a l.length c ∧ Holds W a c l ∧ SliceDatum d c l := by
  obtain ⟨a, len, cap, rfl⟩ := okWide_slice Tryd.underlying96 hv
  obtain ⟨fuel, hf⟩ := ht
  rcases open_ints Tryd.underlying96 Tryd.underlying5 Tryd.cellsU8 hf with ⟨hcs, hx⟩ | ⟨x, len', cap', zs, hcs, _, hl, hm, hz, hx, hcell, hwz⟩
  · simp [Value.cells] at hcs
    obtain ⟨rfl, rfl, rfl⟩ := hcs
    simp at hx
    exact ⟨none, 0, [], rfl, Holds.nil W, .inl ⟨hx.1, rfl⟩⟩
  · simp [Value.cells] at hcs
    obtain ⟨rfl, rfl, rfl⟩ := hcs
    simp only [if_true] at hz
    simp only [Prod.mk.injEq] at hx
    have hzl : ((zs.take len).map fun n => UInt8.ofNat n.toNat).length = len := by simp; omega
    refine ⟨some x, cap, (zs.take len).map fun n => UInt8.ofNat n.toNat, by rw [hzl], ⟨by rw [hzl]; exact hl, fun h => (by cases h), fun ad had j u hu => ?_⟩, .inr ⟨_, _, hx.1, by simp [lits]; omega⟩⟩
    cases had
    have hj : j < len := by
      have := (List.getElem?_eq_some_iff.1 hu).1
      rwa [cs_length, hzl] at this
    rw [hcell j (by omega)]
    have hw := hwz zs[j] (List.getElem_mem _)
    have hb := bounds_u8 hw
    have e1 : zs.getD j 0 = zs[j] := by simp [show j < zs.length by omega]
    rw [e1]
    rw [cs_get _ j (by rw [hzl]; exact hj)] at hu
    rw [← hu]
    congr 2
    simp
    omega

set_option maxRecDepth 100000 in
theorem reach_bytes {H : Type} {ts : List TypeId} {ds : List (DataW H)} (hsz : (DataW.weightsEach Tryd.prog ts ds).all (· ≤ reachBytes) = true) {j c : Nat} {l : List UInt8} {d : DataW H} {W : World} {a : Option Addr}
    (ht : ts[j]? = some 96) (hd : ds[j]? = some d) (h : SliceDatum d c l) (hl : Holds W a c l) : l.length ≤ 140737488351232 := by
  rcases h with ⟨_, rfl⟩ | ⟨e, s, rfl, hc⟩
  · simp
  · have := sized_slice hsz ht hd Tryd.underlying96
    rw [Tryd.bytesU8, hc] at this
    simp only [reachBytes] at this
    have := hl.1
    omega
end Go.Proofs.YtcncmpgababfjaaDoor
