/-
  The document's examples.
-/
import Derived.KernelRfl
import Derived.Test.YtcogjphoceaejaaDoorSw
namespace Go.Proofs.YtcogjphoceaejaaDoor
open Go.RowKit Go.Lib Go.Shelf

abbrev exT : Tm := ⟨[], ⟨false, 0, [84, 111]⟩⟩
abbrev exU : Tm := ⟨[], ⟨false, 0, [98]⟩⟩
abbrev exN : Tm := ⟨[], ⟨false, 0, []⟩⟩
theorem ex_t : Sh.termS exT = some [34, 84, 111, 34] := by kernel_rfl
theorem ex_u : Sh.termS exU = some [98] := by kernel_rfl
theorem ex_n : Sh.termS exN = none := by kernel_rfl

set_option maxRecDepth 100000 in
set_option maxHeartbeats 1000000 in
theorem live9_at (w : World) (hL : Laid w) : Calls Tryd.prog 8 #[] w fun e w' => e = .returned (.bool true) ∧ Below w.heap.size w w' := by
  have T1 := hideP (showTerm_at exT w hL ⟨by decide, by decide⟩)
  have T2 := hideP (fun W h => showTerm_at exU W h ⟨by decide, by decide⟩)
  have T3 := hideP (fun W h => showTerm_at exN W h ⟨by decide, by decide⟩)
  rw [ex_t] at T1
  rw [ex_u] at T2
  rw [ex_n] at T3
  simp only [sv] at T1 T2 T3
  go_enter Tryd.func8, Tryd.ntmps8
  go_wp2_with fail
  refine T1.out.mono ?_
  rintro e w1 ⟨rfl, b1⟩
  go_wp2_with fail
  refine (T2.out _ (hL.below b1)).mono ?_
  rintro e w2 ⟨rfl, b2⟩
  go_wp2_with fail
  refine (T3.out _ (hL.below (Below.then b1 b2))).mono ?_
  rintro e w3 ⟨rfl, b3⟩
  go_wp2_with fail
  go_ret
  exact ⟨rfl, Below.then (Below.then b1 b2) b3⟩
end Go.Proofs.YtcogjphoceaejaaDoor
