/-
  A text's check; the document's examples.
-/
import Derived.Test.YtefajadolgmpdaaGreatDoorQVk
import Derived.Test.YtefajadolgmpdaaGreatDoorQPr
namespace Go.Proofs.YtefajadolgmpdaaGreatDoor
open Go.RowKit Go.Lib Go.Shelf

theorem parsed_rules {l : List UInt8} {r : List Ru} (hp : Ps.prog l = .ok r) (W : World) (a : Option Addr) (n c : Nat) (h : Laid W) (hr : RowsAt W r (.slice a n c)) :
    Calls Tryz.prog 12 #[.slice a n c] W fun e w' => e = .returned (ansV (Ck.prog r)) ∧ Below W.heap.size W w' := by
  obtain ⟨xs, rfl, h2, h3⟩ := hr.rws
  rw [← h2]
  exact checkProg_at a c xs W h h3 (map_in h2 (Sh.prog_good hp).1)

set_option maxRecDepth 100000 in
set_option maxHeartbeats 400000 in
theorem ask_at {l : List UInt8} {r : List Ru} (hp : Ps.prog l = .ok r) (w : World) (hL : Laid w) (hl : l.length ≤ 281474976710656) :
    Calls Tryz.prog 23 #[str l] w fun e w' => e = .returned (ansV (Ck.prog r)) ∧ Below w.heap.size w w' := by
  have T1 := hideP (pprog_ok hp w hl hL)
  have T2 := hideP (fun W a n c h hr => parsed_rules hp W a n c h hr)
  go_enter Tryz.func23, Tryz.ntmps23
  go_wp2_with fail
  refine T1.out.mono ?_
  rintro e w1 ⟨⟨a1, c1, rfl, r1⟩, b1⟩
  go_wp2_with fail
  refine (T2.out w1 a1 r.length c1 (hL.below b1) r1).mono ?_
  rintro e w2 ⟨rfl, b2⟩
  simp only [ansV]
  go_wp2_with fail
  go_ret3
  exact ⟨rfl, Below.then b1 b2⟩

abbrev lx1 : List UInt8 := [65, 58, 32, 112, 40, 88, 41, 32, 58, 45, 32, 113, 40, 89, 41, 46]
abbrev lx2 : List UInt8 := [65, 58, 32, 112, 40, 41, 32, 58, 45, 32, 113, 40, 88, 41, 32, 97, 116, 32, 88, 46]
abbrev lx3 : List UInt8 := [65, 58, 32, 112, 40, 41, 32, 58, 45, 32, 114, 40, 88, 41, 44, 32, 113, 40, 88, 41, 32, 97, 116, 32, 88, 46]
abbrev tvA (c : UInt8) : Tm := ⟨[c], ⟨false, 0, []⟩⟩
abbrev tn0 : Tm := ⟨[], ⟨false, 0, []⟩⟩
abbrev rx1 : List Ru := [⟨tvA 65, [112], [tvA 88], tn0, [⟨tn0, [113], [tvA 89], tn0⟩]⟩]
abbrev rx2 : List Ru := [⟨tvA 65, [112], [], tn0, [⟨tn0, [113], [tvA 88], tvA 88⟩]⟩]
abbrev rx3 : List Ru := [⟨tvA 65, [112], [], tn0, [⟨tn0, [114], [tvA 88], tn0⟩, ⟨tn0, [113], [tvA 88], tvA 88⟩]⟩]
set_option maxRecDepth 100000 in
theorem px1 : Ps.prog lx1 = .ok rx1 := by kernel_rfl
set_option maxRecDepth 100000 in
theorem px2 : Ps.prog lx2 = .ok rx2 := by kernel_rfl
set_option maxRecDepth 100000 in
theorem px3 : Ps.prog lx3 = .ok rx3 := by kernel_rfl
theorem cx1 : Ck.prog rx1 = (104, 0, -1) := by kernel_rfl
theorem cx2 : Ck.prog rx2 = (103, 0, 0) := by kernel_rfl
theorem cx3 : Ck.prog rx3 = (0, -1, -1) := by kernel_rfl

set_option maxRecDepth 100000 in
set_option maxHeartbeats 1000000 in
theorem live10_at (w : World) (hL : Laid w) : Calls Tryz.prog 10 #[] w fun e w' => e = .returned (.bool true) ∧ Below w.heap.size w w' := by
  have T1 := hideP (ask_at px1 w hL (by decide))
  have T2 := hideP (fun W h => ask_at px2 W h (by decide))
  have T3 := hideP (fun W h => ask_at px3 W h (by decide))
  rw [cx1] at T1
  rw [cx2] at T2
  rw [cx3] at T3
  simp only [ansV] at T1 T2 T3
  go_enter Tryz.func10, Tryz.ntmps10
  go_wp2_with fail
  refine T1.out.mono ?_
  rintro e w1 ⟨rfl, b1⟩
  go_wp2_with fail
  refine (T2.out _ (hL.below b1)).mono ?_
  rintro e w2 ⟨rfl, b2⟩
  go_wp2_with fail
  refine (T3.out _ (hL.below (Below.then b1 b2))).mono ?_
  rintro e w3 ⟨rfl, b3⟩
  go_wp2_with fail
  go_ret
  exact ⟨rfl, Below.then (Below.then b1 b2) b3⟩
end Go.Proofs.YtefajadolgmpdaaGreatDoor
