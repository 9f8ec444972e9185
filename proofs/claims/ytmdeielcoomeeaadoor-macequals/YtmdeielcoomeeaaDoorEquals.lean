/-
  The walk of MacEquals: two are equal just if they are the same bytes.
-/
import Derived.Test.YtmdeielcoomeeaaDoorMLive
import Derived.Test.YtmdeielcoomeeaaDoorStepAppend
import Derived.Deep.RegionHeld3
namespace Go.Proofs.YtmdeielcoomeeaaDoor
open Go.RowKit

theorem own_new2 (w : World) (ob : Obj) : Own ((w.alloc ob).alloc (.cells #[] 5)) (w.heap.size + 1) (w.heap.size + 1) 0 0 [] := by
  have := own_new (w.alloc ob) [] #[] rfl (Nat.zero_le _)
  simpa using this
theorem zero_new2 (w : World) (ob : Obj) : Holds ((w.alloc ob).alloc (.cells #[.int .u8 0] 5)) (some ⟨w.heap.size + 1, 0, none⟩) 1 [0] := by
  have := holds_new (w.alloc ob) [0] #[.int .u8 0] 5 rfl
  simpa using this
theorem longer_unlike (l : List UInt8) (x : UInt8) : (l == l ++ [x]) = false := Mm.beq_unlike _ _ (by simp)

set_option maxRecDepth 100000 in
set_option maxHeartbeats 3200000 in
theorem macEquals_walk (a : Option Addr) (c : Nat) (l : List UInt8) (b : Option Addr) (d : Nat) (m : List UInt8) (w : World) (hL : Laid w)
    (ha : Holds w a c l) (ra : l.length ≤ 140737488351232) (hb : Holds w b d m) (_ : m.length ≤ 140737488351232) :
    Calls Tryd.prog 5 #[.slice a l.length c, .slice b m.length d] w fun e w' => e = .returned (.bool true) ∧ Below w.heap.size w w' := by
  go_enter Tryd.func5, Tryd.ntmps5
  go_wp2_with fail
  have bD : Below w.heap.size w w.drew := (Below.refl w.heap.size w).drew
  have kp : ∀ W, Below w.heap.size w W → (convert 22 9 (.slice a l.length c)).run Tryd.prog W = .ok (str l) W ∧ (convert 22 9 (.slice b m.length d)).run Tryd.prog W = .ok (str m) W := fun W h => ⟨conv (ha.below h), conv (hb.below h)⟩
  have r0 : (l.length : Int) ≤ 140737488351232 := by omega
  have ml : (0 : Nat) ≤ maxLen := Nat.zero_le _
  go_region_held3 (fun w' => (convert 22 9 (.slice a l.length c)).run Tryd.prog w' = .ok (str l) w' ∧ (convert 22 9 (.slice b m.length d)).run Tryd.prog w' = .ok (str m) w')
    (first | exact kp _ B7 | exact kp _ B6 | exact kp _ B5 | exact kp _ B4 | exact kp _ B3 | exact kp _ B2 | exact kp _ B1 | exact kp _ bD | exact kp _ (Below.then B1 (below_alloc _ _)) | exact kp _ (Below.then B3 (below_alloc _ _)) | exact kp _ (Below.then (Below.then B3 (below_alloc _ _)) (below_alloc _ _)) | exact kp _ (Below.then B4 (below_alloc _ _)))
    (first
      | (go_at_call_of 18 (Value.slice b m.length d); refine (equal_any a b c d l m w.drew ha.drew hb.drew (by omega)).mono ?_; rintro _ w1 ⟨rfl, b1⟩; have B1 := Below.then bD b1)
      | (refine step_append_bytes (by rfl) _ _ rfl w1.heap.size w1.heap.size 0 0 [] l a l.length c l.length l rfl (own_new w1 [] #[] rfl ml) rfl rfl ((ha.below B1).below (below_alloc _ _)) (by omega) rfl (by omega) ?_; intro g2 c2 w2 ho2 hg2; have B2 : Below w.heap.size w w2 := (Below.then B1 (below_alloc w1 _)).trans ((grown_below hg2 (Nat.le_refl _) (alloc_le _ _)).mono B1.size))
      | (go_at_call_of 18 (Value.slice (some ⟨g2, 0, none⟩) l.length c2); refine (equal_any a (some ⟨g2, 0, none⟩) c c2 l l w2 (ha.below B2) ho2.holds (by omega)).mono ?_; rintro _ w3 ⟨rfl, b3⟩; have B3 := Below.then B2 b3; have z3 := B3.size; rw [beq_self_eq_true])
      | (refine step_append_bytes (by rfl) _ _ rfl w3.heap.size w3.heap.size 0 0 [] l a l.length c l.length l rfl (own_new w3 [] #[] rfl ml) rfl rfl ((ha.below B3).below (below_alloc _ _)) (by omega) rfl (by omega) ?_; intro g4 c4 w4 ho4 hg4; have y4 : w.heap.size ≤ g4 := Nat.le_trans z3 ho4.parts.1; have B4 : Below w.heap.size w w4 := (Below.then B3 (below_alloc w3 _)).trans (grown_below hg4 z3 (Nat.le_trans z3 (alloc_le _ _))))
      | (refine step_append_bytes (by rfl) _ _ rfl w3.heap.size w3.heap.size 0 0 [] l a l.length c l.length l rfl ((own_new w3 [] #[] rfl ml).alloc _) rfl rfl (((ha.below B3).below (below_alloc _ _)).below (below_alloc _ _)) (by omega) rfl (by omega) ?_; intro g4 c4 w4 ho4 hg4; have y4 : w.heap.size ≤ g4 := Nat.le_trans z3 ho4.parts.1; have B4 : Below w.heap.size w w4 := (Below.then (Below.then B3 (below_alloc w3 _)) (below_alloc _ _)).trans (grown_below hg4 z3 (Nat.le_trans z3 (Nat.le_trans (alloc_le _ _) (alloc_le _ _)))); have hz4 := grown_holds hg4 (zero_new2 w3 _) (by omega))
      | (refine step_append_bytes (by rfl) _ _ rfl (w3.heap.size + 1) (w3.heap.size + 1) 0 0 [] l a l.length c l.length l rfl (own_new2 w3 _) rfl rfl (((ha.below B3).below (below_alloc _ _)).below (below_alloc _ _)) (by omega) rfl (by omega) ?_; intro g4 c4 w4 ho4 hg4; have y4 : w.heap.size ≤ g4 := Nat.le_trans (Nat.le_succ_of_le z3) ho4.parts.1; have B4 : Below w.heap.size w w4 := (Below.then (Below.then B3 (below_alloc w3 _)) (below_alloc _ _)).trans (grown_below hg4 (Nat.le_succ_of_le z3) (Nat.le_trans z3 (Nat.le_trans (alloc_le _ _) (alloc_le _ _)))); have hz4 := grown_holds hg4 ((holds_new w3 [0] #[.int .u8 0] 5 rfl).below (below_alloc _ _)) (by omega))
      | (refine step_append_bytes (by rfl) _ _ rfl w.heap.size g4 l.length c4 l [0] (some ⟨w4.heap.size, 0, none⟩) 1 1 (l.length + 1) (l ++ [0]) rfl ((OwnV.lower ho4 (by omega)).alloc _) rfl rfl (holds_new w4 [0] #[.int .u8 0] 5 rfl) rfl rfl (by omega) ?_; intro g5 c5 w5 ho5 hg5; have B5 : Below w.heap.size w w5 := (Below.then B4 (below_alloc w4 _)).trans (grown_below hg5 y4 (Nat.le_trans B4.size (alloc_le _ _))))
      | (refine step_append_bytes (by rfl) _ _ rfl w.heap.size g4 l.length c4 l [0] (some ⟨w3.heap.size + 1, 0, none⟩) 1 1 (l.length + 1) (l ++ [0]) rfl (OwnV.lower ho4 (by omega)) rfl rfl hz4 rfl rfl (by omega) ?_; intro g5 c5 w5 ho5 hg5; have B5 : Below w.heap.size w w5 := B4.trans (grown_below hg5 y4 B4.size))
      | (refine step_append_bytes (by rfl) _ _ rfl w.heap.size g4 l.length c4 l [0] (some ⟨w3.heap.size, 0, none⟩) 1 1 (l.length + 1) (l ++ [0]) rfl (OwnV.lower ho4 (by omega)) rfl rfl hz4 rfl rfl (by omega) ?_; intro g5 c5 w5 ho5 hg5; have B5 : Below w.heap.size w w5 := B4.trans (grown_below hg5 y4 B4.size))
      | (go_at_call 18; refine (equal_at a (some ⟨g5, 0, none⟩) l.length (l.length + 1) c c5 l (l ++ [0]) w5 rfl (by simp) (ha.below B5) ho5.holds (by omega)).mono ?_; rintro _ w6 ⟨rfl, b6⟩; have B6 := Below.then B5 b6; rw [longer_unlike])
      | (go_at_call 8; refine (live_any w6 (hL.below B6)).mono ?_; rintro _ w7 ⟨rfl, b7⟩; have B7 := Below.then B6 b7))
  all_goals go_wp2_with fail
  all_goals go_ret
  all_goals exact ⟨rfl, B7⟩
end Go.Proofs.YtmdeielcoomeeaaDoor
