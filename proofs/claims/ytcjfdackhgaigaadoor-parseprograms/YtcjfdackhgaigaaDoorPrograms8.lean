/-
  ParsePrograms: its walk.
-/
import Derived.Test.YtcjfdackhgaigaaDoorQf
import Derived.Test.YtcjfdackhgaigaaDoorLv8
import Derived.Test.YtcjfdackhgaigaaDoorLs8
namespace Go.Proofs.YtcjfdackhgaigaaDoor
open Go.RowKit Go.Lib Go.Shelf

set_option maxRecDepth 100000 in
set_option maxHeartbeats 2000000 in
theorem parsePrograms_walk (l : List UInt8) (w : World) (hL : Laid w) (hr : l.length ≤ 140737488351232) :
    Calls Tryd.prog 3 #[str l] w fun e w' => e = .returned (.bool true) ∧ Below w.heap.size w w' := by
  have T1 := hideP (pprogram_at l w (by omega) hL)
  have T2 := hideP (fun w => rprogram_at l w (by omega))
  have LV := hideP live_at
  go_enter Tryd.func3, Tryd.ntmps3
  go_wp2_with fail
  refine T1.out.mono ?_
  rintro e w1 ⟨⟨u1, rfl, r1⟩, b1⟩
  go_wp2_with fail
  refine (T2.out _).mono ?_
  rintro e w2 ⟨⟨u2, rfl, r2⟩, b2⟩
  have LK := hideP (rlike_rows (r1.below b2) r2)
  have L2 := hL.below (Below.then b1 b2)
  generalize Ps.prog l = r at *
  go_wp2_with (first
    | (go_at_call 10; refine LK.out.mono ?_; rintro e w3 ⟨rfl, b3⟩)
    | (go_at_call 11; refine (LV.out _ (L2.below b3)).mono ?_; rintro e w4 ⟨rfl, b4⟩))
  go_ret
  exact ⟨rfl, Below.then (Below.then b1 b2) (Below.then b3 b4)⟩
end Go.Proofs.YtcjfdackhgaigaaDoor
