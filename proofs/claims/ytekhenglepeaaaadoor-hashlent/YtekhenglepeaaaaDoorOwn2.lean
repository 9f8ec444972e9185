/-
  A row of the call's own, after what turns other memory.
-/
import Derived.Test.YtekhenglepeaaaaDoorAt
namespace Go.Proofs.YtekhenglepeaaaaDoor
open Go.RowKit

theorem Own.range {w : World} {base g n cap : Nat} {l : List UInt8} (h : Own w base g n cap l) : w.rangeAt g 0 (cs l) ∧ w.there g 0 n := by
  refine ⟨fun j v hv => by rw [Nat.zero_add]; exact h.parts.2.2.2 j v hv, ?_⟩
  rcases h.2 with ⟨h0, _⟩ | ⟨g', cap', cur, hv, hbg, hg, hnc, hcm, hcs, htake⟩
  · cases h0
  · cases hv
    intro j hj
    rw [Nat.zero_add]
    refine ⟨?_, ?_⟩
    · rw [cell_of_row _ _ _ cur _ _ hg]
      simp
      omega
    · unfold World.frozen?
      rw [hg]
      simp
theorem Own.but {h : Nat} {w w' : World} {base g n cap : Nat} {l : List UInt8} (x : But h w w') (hg : g ≠ h) (o : Own w base g n cap l) : Own w' base g n cap l := by
  refine ⟨o.1, ?_⟩
  rcases o.2 with h0 | ⟨g', cap', cur, hv, hbg, hg', hnc, hcm, hcs, htake⟩
  · exact .inl h0
  · cases hv
    have hs : g < w.heap.size := o.parts.2.1
    exact .inr ⟨g, cap, cur, rfl, hbg, by rw [x.block g hs hg]; exact hg', hnc, hcm, hcs, htake⟩
theorem Own.after {w w' : World} {base g n cap : Nat} {l : List UInt8} (o : Own w base g n cap l) (hb : Below w.heap.size w w') : Own w' base g n cap l :=
  o.but (h := w'.heap.size) (But.below (But.refl _ _) hb) (by have := o.parts.2.1; have := hb.size; omega)

end Go.Proofs.YtekhenglepeaaaaDoor
