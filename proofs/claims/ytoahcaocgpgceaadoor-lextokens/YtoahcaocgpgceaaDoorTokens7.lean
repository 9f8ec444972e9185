/-
  LexTokens: its walk.
-/
import Derived.Test.YtoahcaocgpgceaaDoorLv
import Derived.Test.YtoahcaocgpgceaaDoorRTk
namespace Go.Proofs.YtoahcaocgpgceaaDoor
open Go.RowKit Go.Lib Go.Shelf

set_option maxRecDepth 100000 in
set_option maxHeartbeats 2000000 in
theorem lexTokens_walk (l : List UInt8) (w : World) (hL : Laid w) (hr : l.length ≤ 140737488351232) :
    Calls Tryd.prog 3 #[str l] w fun e w' => e = .returned (.bool true) ∧ Below w.heap.size w w' := by
  have T1 := hideP (ltokens_at l w (by omega) hL)
  have T2 := hideP (fun w => rtokens_at l w (by omega))
  go_enter Tryd.func3, Tryd.ntmps3
  go_wp2_with fail
  refine T1.out.mono ?_
  rintro e w1 ⟨⟨a1, c1, rfl, r1, _⟩, b1⟩
  go_wp2_with fail
  refine (T2.out _).mono ?_
  rintro e w2 ⟨⟨a2, c2, rfl, r2, _⟩, b2⟩
  have LK := hideP (like_at a1 a2 c1 c2 _ w2 (r1.row.below b2 (Nat.le_refl _)) r2.row)
  have LV := hideP live_at
  have L2 := hL.below (Below.then b1 b2)
  generalize Lx.ans l = r at *
  go_wp2_with (first
    | (go_at_call 11; refine LK.out.mono ?_; rintro e w3 ⟨rfl, b3⟩)
    | (go_at_call 12; refine (LV.out _ (L2.below b3)).mono ?_; rintro e w4 ⟨rfl, b4⟩))
  go_ret
  exact ⟨rfl, Below.then (Below.then b1 b2) (Below.then b3 b4)⟩
end Go.Proofs.YtoahcaocgpgceaaDoor
