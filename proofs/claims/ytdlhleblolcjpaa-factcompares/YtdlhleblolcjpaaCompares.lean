/-
  The statement FactCompares, walked.
-/
import Derived.Test.YtdlhleblolcjpaaLive
import Derived.Test.YtdlhleblolcjpaaQb
namespace Go.Proofs.Ytdlhleblolcjpaa
open Go.RowKit Go.Sort

set_option maxHeartbeats 2000000 in
theorem factCompares_walk (x y : K) (w : World) : Calls Try.prog 3 #[kval x, kval y] w fun e w' => e = .returned (.bool true) ∧ Below w.heap.size w w' := by
  have mixed : Try.prog.follows .mixedOrders = true := by kernel_rfl
  have hV := fun (W : World) => live_at W
  obtain ⟨x1, x2, x3⟩ := x; obtain ⟨y1, y2, y3⟩ := y
  have hG : ∀ (W : World), Calls Try.prog 9 #[.agg #[.bool x1, .int .i64 x2, str x3]] W fun e w' => e = .returned (.bool (goodB ⟨x1, x2, x3⟩)) ∧ Grew W w' := fun W => good_at ⟨x1, x2, x3⟩ W
  have hR : ∀ (W : World), Calls Try.prog 10 #[.agg #[.bool x1, .int .i64 x2, str x3]] W fun e w' => e = .returned (.bool (goodB ⟨x1, x2, x3⟩)) ∧ Grew W w' := fun W => refgood_at ⟨x1, x2, x3⟩ W
  have hC : ∀ (a : Bool) (b : Int) (c : List UInt8) (a' : Bool) (b' : Int) (c' : List UInt8) (W : World), Calls Try.prog 11 #[.agg #[.bool a, .int .i64 b, str c], .agg #[.bool a', .int .i64 b', str c']] W fun e w' => e = .returned (.int .i64 (cK ⟨a, b, c⟩ ⟨a', b', c'⟩)) ∧ Grew W w' := fun a b c a' b' c' W => compare_at ⟨a, b, c⟩ ⟨a', b', c'⟩ W
  have hD : ∀ (a : Bool) (b : Int) (c : List UInt8) (a' : Bool) (b' : Int) (c' : List UInt8) (W : World), Calls Try.prog 12 #[.agg #[.bool a, .int .i64 b, str c], .agg #[.bool a', .int .i64 b', str c']] W fun e w' => e = .returned (.int .i64 (cK ⟨a, b, c⟩ ⟨a', b', c'⟩)) ∧ Grew W w' := fun a b c a' b' c' W => refcompare_at ⟨a, b, c⟩ ⟨a', b', c'⟩ W
  generalize goodB ⟨x1, x2, x3⟩ = b1 at hG hR
  go_enter Try.func3, Try.ntmps3
  go_wp2_with fail
  obtain ⟨w2, hw2⟩ : ∃ w2, w2 = (w.alloc (.cells #[.bool x1, .int .i64 x2, str x3] 23)).alloc (.cells #[.bool y1, .int .i64 y2, str y3] 23) := ⟨_, rfl⟩
  have B2 : Below w.heap.size w w2 := by rw [hw2]; exact Below.then (below_alloc _ _) (below_alloc _ _)
  have H := heap_alloc2 w (.cells #[.bool x1, .int .i64 x2, str x3] 23) (.cells #[.bool y1, .int .i64 y2, str y3] 23)
  rw [← hw2] at H ⊢
  clear hw2
  have a0 := heap_cell H.1 0; have a1 := heap_cell H.1 1; have a2 := heap_cell H.1 2
  have d0 := heap_cell H.2 0; have d1 := heap_cell H.2 1; have d2 := heap_cell H.2 2
  simp at a0 a1 a2 d0 d1 d2
  have A0 := cell_kept a0; have A1 := cell_kept a1; have A2 := cell_kept a2
  have D0 := cell_kept d0; have D1 := cell_kept d1; have D2 := cell_kept d2
  clear a0 a1 a2 d0 d1 d2 H
  haveI : Inhabited (BelowBy w2) := ⟨⟨w2, Below.refl _ _⟩⟩
  refine wp_region_quiet_below (by assumption) (by kernel_rfl) ?_
  repeat (quiet_step (first
    | (go_at_call 9; refine Calls.below_of_grew (hG _))
    | (go_at_call 10; refine Calls.below_of_grew (hR _))
    | (go_at_call 11; refine Calls.below_of_grew (hC _ _ _ _ _ _ _))
    | (go_at_call 12; refine Calls.below_of_grew (hD _ _ _ _ _ _ _))
    | (go_at_call 13; refine Calls.below_of (hV _))))
  refine wpQuiet_nil ?_
  intro _ hw'
  obtain ⟨⟨w3, hb3⟩, rfl⟩ := hw'
  go_wp2_with fail
  go_ret
  exact ⟨rfl, Below.then B2 hb3⟩

end Go.Proofs.Ytdlhleblolcjpaa
