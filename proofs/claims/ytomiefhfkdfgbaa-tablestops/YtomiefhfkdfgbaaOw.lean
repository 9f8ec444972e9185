/-
  A row of the call's own that grew: what lay below it stands.
-/
import Derived.Test.YtomiefhfkdfgbaaMv
namespace Go.Proofs.Ytomiefhfkdfgbaa
open Go.RowKit Go.Sort

theorem own_below {w w' : World} {base : Nat} {e : TypeId} {k : Nat} {v : Value} {n : Nat} {xs : List Value} (hown : w.ownsRow base e k v n xs) (hg : w.grownBy w' v.ownBlock) (hb : base ≤ w.heap.size) : Below base w w' :=
  (Below.refl _ _).grown hg hb (fun j hj => by
    rcases hown.2 with ⟨h0, _⟩ | ⟨g', c', cur, hv, hgg, _⟩
    · rw [h0] at hj; cases hj
    · rw [hv] at hj; cases hj; exact hgg)
end Go.Proofs.Ytomiefhfkdfgbaa
