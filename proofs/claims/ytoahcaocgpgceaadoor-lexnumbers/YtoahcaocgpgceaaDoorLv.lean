/-
  The document's examples.
-/
import Derived.KernelRfl
import Derived.Test.YtoahcaocgpgceaaDoorLk
import Derived.Test.YtoahcaocgpgceaaDoorWh
namespace Go.Proofs.YtoahcaocgpgceaaDoor
open Go.RowKit Go.Lib Go.Shelf

abbrev exL : List UInt8 := [112, 40, 88, 41, 32, 58, 45, 32, 113, 46]
theorem ex_ans : Lx.ans exL = .ok [⟨1, [112], 0, 0⟩, ⟨5, [40], 0, 1⟩, ⟨2, [88], 0, 2⟩, ⟨5, [41], 0, 3⟩, ⟨5, [58, 45], 0, 5⟩, ⟨1, [113], 0, 8⟩, ⟨5, [46], 0, 9⟩] := by kernel_rfl
theorem ex_bad : Lx.ans [48, 48, 55] = .error (0, 70) := by kernel_rfl
theorem ex_where : whereR [97, 10, 98] 2 = .returned (.tuple #[.int .i64 2, .int .i64 1]) := by kernel_rfl

set_option maxRecDepth 100000 in
set_option maxHeartbeats 2000000 in
theorem live_at (w : World) (hL : Laid w) : Calls Tryd.prog 12 #[] w fun e w' => e = .returned (.bool true) ∧ Below w.heap.size w w' := by
  have T1 := hideP (ltokens_at exL w (by decide) hL)
  have T2 := hideP (fun w hL => ltokens_at [48, 48, 55] w (by decide) hL)
  have W3 := hideP (fun w => lwhere_at [97, 10, 98] 2 w (by decide) (by decide) (by decide))
  go_enter Tryd.func12, Tryd.ntmps12
  go_wp2_with fail
  refine T1.out.mono ?_
  rintro e w1 ⟨⟨a1, c1, rfl, r1, _⟩, b1⟩
  rw [ex_ans] at r1 ⊢
  simp only [Lx.toks, Lx.place, Lx.err] at r1 ⊢
  obtain ⟨P1, O1, rfl⟩ := r1.row.addr (by decide)
  go_wp2_with fail
  refine (T2.out _ (hL.below b1)).mono ?_
  rintro e w2 ⟨⟨a2, c2, rfl, r2, _⟩, b2⟩
  rw [ex_bad]
  simp only [Lx.toks, Lx.place, Lx.err]
  have q1 := (tok_cells (r1.row.below b2 (Nat.le_refl _)) 4 (by decide)).2.1
  have q2 := (tok_cells (r1.row.below b2 (Nat.le_refl _)) 6 (by decide)).2.2.2
  have hroom := r1.row.room
  simp only [List.length_cons, List.length_nil] at hroom ⊢
  simp only [List.getElem_cons_succ, List.getElem_cons_zero] at q1 q2
  go_wp2_with (first
    | (go_at_call 13; refine (W3.out _).mono ?_; rintro e w3 ⟨he, rfl⟩; rw [ex_where] at he; subst he))
  go_ret
  exact ⟨rfl, Below.then b1 b2⟩
end Go.Proofs.YtoahcaocgpgceaaDoor
