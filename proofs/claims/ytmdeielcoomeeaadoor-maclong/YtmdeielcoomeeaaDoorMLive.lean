/-
  The contract of the statements' own look at the document's examples: it is true, in whatever memory; nothing that was there turns.
-/
import Derived.Test.YtmdeielcoomeeaaDoorTag
import Derived.Test.YtmdeielcoomeeaaDoorRTag
import Derived.Test.YtmdeielcoomeeaaDoorEqual
import Derived.Test.YtmdeielcoomeeaaDoorSame
import Derived.Test.YtmdeielcoomeeaaDoorEql
namespace Go.Proofs.YtmdeielcoomeeaaDoor
open Go.RowKit

theorem ex_text : Mm.text [97] [1, 2] = [2, 97, 1, 2] := by
  rw [Mm.text_def, show Pm.tb (([97] : List UInt8).length : Int) = 2 from rfl, Pm.vb_lt (by omega)]; rfl

set_option maxRecDepth 100000 in
set_option maxHeartbeats 1600000 in
theorem live_any (w : World) (hL : Laid w) :
    Calls Tryd.prog 8 #[] w fun e w' => e = .returned (.bool true) ∧ Below w.heap.size w w' := by
  have hE := equalIn32 (Mm.tag [] [97] []) (Mm.tag [] [97] []) (Mm.tag_length _ _ _) (Mm.tag_length _ _ _)
  rw [beq_self_eq_true] at hE
  go_enter Tryd.func8, Tryd.ntmps8
  go_wp2_with fail
  have B0 := below_alloc w (.cells #[.int .u8 1, .int .u8 2] 5)
  refine (text_ex [97] (some ⟨w.heap.size, 0, none⟩) 2 2 4 [1, 2] [2, 97, 1, 2] _ rfl (holds_new w [1, 2] #[.int .u8 1, .int .u8 2] 5 rfl) (by decide) ex_text rfl).mono ?_
  rintro _ w1 ⟨g1, c1, rfl, o1, b1⟩
  have B1 := Below.then B0 b1
  clear B0 b1
  go_wp2_with fail
  have A1 := below_alloc w1 (.cells #[.int .u8 2, .int .u8 97, .int .u8 1, .int .u8 2] 5)
  refine (same_at (some ⟨g1, 0, none⟩) (some ⟨w1.heap.size, 0, none⟩) 4 4 c1 4 [2, 97, 1, 2] [2, 97, 1, 2] _ rfl rfl (o1.holds.below A1) (holds_new w1 [2, 97, 1, 2] #[.int .u8 2, .int .u8 97, .int .u8 1, .int .u8 2] 5 rfl)).mono ?_
  rintro _ w2 ⟨rfl, h2⟩
  have B2 := Below.then B1 A1
  rw [h2] at B2
  clear B1 A1 o1 h2
  rw [beq_self_eq_true]
  go_wp2_with fail
  have A2 := below_alloc w2 (.cells #[] 5)
  refine (equal_at none (some ⟨w2.heap.size, 0, none⟩) 0 0 0 0 [] [] _ rfl rfl (Holds.nil _) (holds_new w2 [] #[] 5 rfl) (by decide)).mono ?_
  rintro _ w3 ⟨rfl, b3⟩
  have B3 := Below.then (Below.then B2 A2) b3
  rw [beq_self_eq_true]
  clear B2 A2 b3
  go_wp2_with fail
  have A3 := below_alloc w3 (.cells #[.int .u8 1] 5)
  have h3 := holds_new w3 [1] #[.int .u8 1] 5 rfl
  have s3 : (w3.alloc (.cells #[.int .u8 1] 5)).heap.size = w3.heap.size + 1 := by simp
  generalize w3.alloc (.cells #[.int .u8 1] 5) = w4 at A3 h3 s3 ⊢
  have A4 := below_alloc w4 (.cells #[.int .u8 2] 5)
  have h4 := holds_new w4 [2] #[.int .u8 2] 5 rfl
  rw [s3] at h4
  refine (equal_at (some ⟨w3.heap.size, 0, none⟩) (some ⟨w3.heap.size + 1, 0, none⟩) 1 1 1 1 [1] [2] _ rfl rfl (h3.below A4) h4 (by decide)).mono ?_
  rintro _ w5 ⟨rfl, b5⟩
  have B5 := Below.then (Below.then (Below.then B3 A3) A4) b5
  rw [show (([1] : List UInt8) == [2]) = false from rfl]
  clear B3 A3 h3 s3 A4 h4 b5
  go_wp2_with fail
  refine (tag_at [] [97] [] none none 0 0 0 0 w5 rfl rfl (Holds.nil _) (Holds.nil _) (hL.below B5) (by decide) (by decide) (by decide)).mono ?_
  rintro _ w6 ⟨rfl, b6⟩
  have B6 := Below.then B5 b6
  clear B5 b6
  go_wp2_with fail
  refine (rtag_at [] [97] [] none none 0 0 0 0 w6 rfl rfl (Holds.nil _) (Holds.nil _) (by decide) (by decide) (by decide)).mono ?_
  rintro _ w7 ⟨rfl, b7⟩
  have B7 := Below.then B6 b7
  clear B6 b7
  generalize Mm.tag [] [97] [] = D at hE ⊢
  go_wp2_with fail
  go_ret
  exact ⟨rfl, B7⟩
end Go.Proofs.YtmdeielcoomeeaaDoor
