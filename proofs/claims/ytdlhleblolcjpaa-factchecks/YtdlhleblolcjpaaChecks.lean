/-
  The statement FactChecks, walked.
-/
import Derived.Test.YtdlhleblolcjpaaLive
import Derived.Test.YtdlhleblolcjpaaChk
import Derived.Test.YtdlhleblolcjpaaROrd
import Derived.Test.YtdlhleblolcjpaaQb
import Derived.Deep.RegionWith
namespace Go.Proofs.Ytdlhleblolcjpaa
open Go.RowKit Go.Sort

set_option maxHeartbeats 2000000 in
theorem factChecks_walk (x y : Fv) (w : World) (hx : Fv.At w x) (hy : Fv.At w y) : Calls Try.prog 4 #[x.val, y.val] w fun e w' => e = .returned (.bool true) ∧ Below w.heap.size w w' := by
  have mixed : Try.prog.follows .mixedOrders = true := by kernel_rfl
  have hV := fun (W : World) => live_at W
  obtain ⟨x1, x2, x3, xa, xc, xk⟩ := x; obtain ⟨y1, y2, y3, ya, yc, yk⟩ := y
  go_enter Try.func4, Try.ntmps4
  go_wp2_with fail
  obtain ⟨w2, hw2⟩ : ∃ w2, w2 = (w.alloc (.cells #[str x1, str x2, str x3, .slice xa xk.length xc] 30)).alloc (.cells #[str y1, str y2, str y3, .slice ya yk.length yc] 30) := ⟨_, rfl⟩
  have B2 : Below w.heap.size w w2 := by rw [hw2]; exact Below.then (below_alloc _ _) (below_alloc _ _)
  have H := heap_alloc2 w (.cells #[str x1, str x2, str x3, .slice xa xk.length xc] 30) (.cells #[str y1, str y2, str y3, .slice ya yk.length yc] 30)
  rw [← hw2] at H ⊢
  clear hw2
  have a0 := heap_cell H.1 0; have a1 := heap_cell H.1 1; have a2 := heap_cell H.1 2; have a3 := heap_cell H.1 3
  have d0 := heap_cell H.2 0; have d1 := heap_cell H.2 1; have d2 := heap_cell H.2 2; have d3 := heap_cell H.2 3
  simp at a0 a1 a2 a3 d0 d1 d2 d3
  have A0 := cell_kept a0; have A1 := cell_kept a1; have A2 := cell_kept a2; have A3 := cell_kept a3
  have D0 := cell_kept d0; have D1 := cell_kept d1; have D2 := cell_kept d2; have D3 := cell_kept d3
  clear a0 a1 a2 a3 d0 d1 d2 d3 H
  have hX : ∀ p : BelowBy w2, Fv.At p.w ⟨x1, x2, x3, xa, xc, xk⟩ := fun p => hx.below (Below.then B2 p.h) (Nat.le_refl _)
  have hY : ∀ p : BelowBy w2, Fv.At p.w ⟨y1, y2, y3, ya, yc, yk⟩ := fun p => hy.below (Below.then B2 p.h) (Nat.le_refl _)
  have hK := fun p : BelowBy w2 => check_at ⟨x1, x2, x3, xa, xc, xk⟩ p.w (hX p)
  have hL := fun p : BelowBy w2 => refcheck_at ⟨x1, x2, x3, xa, xc, xk⟩ p.w (hX p)
  have hO := fun p : BelowBy w2 => order_at ⟨x1, x2, x3, xa, xc, xk⟩ ⟨y1, y2, y3, ya, yc, yk⟩ p.w (hX p) (hY p)
  have hO' := fun p : BelowBy w2 => order_at ⟨y1, y2, y3, ya, yc, yk⟩ ⟨x1, x2, x3, xa, xc, xk⟩ p.w (hY p) (hX p)
  have hR := fun p : BelowBy w2 => reforder_at ⟨x1, x2, x3, xa, xc, xk⟩ ⟨y1, y2, y3, ya, yc, yk⟩ p.w (hX p) (hY p)
  have hR' := fun p : BelowBy w2 => reforder_at ⟨y1, y2, y3, ya, yc, yk⟩ ⟨x1, x2, x3, xa, xc, xk⟩ p.w (hY p) (hX p)
  simp only [errno] at hK hL
  generalize (bif okB (Fv.f ⟨x1, x2, x3, xa, xc, xk⟩) then 0 else 40 : Int) = r0 at hK hL
  generalize cF (Fv.f ⟨x1, x2, x3, xa, xc, xk⟩) (Fv.f ⟨y1, y2, y3, ya, yc, yk⟩) = r1 at hO hR
  generalize cF (Fv.f ⟨y1, y2, y3, ya, yc, yk⟩) (Fv.f ⟨x1, x2, x3, xa, xc, xk⟩) = r2 at hO' hR'
  clear hx hy hX hY
  haveI : Inhabited (BelowBy w2) := ⟨⟨w2, Below.refl _ _⟩⟩
  refine wp_region_quiet_below (by assumption) (by kernel_rfl) ?_
  repeat (quiet_step (first
    | (go_at_call 14; refine Calls.below_of (hK _))
    | (go_at_call 15; refine Calls.below_of (hL _))
    | (go_at_call_of 16 [Value.agg #[str y1, str y2, str y3, Value.slice ya yk.length yc]]; refine Calls.below_of_grew (hO _))
    | (go_at_call_of 16 [Value.agg #[str x1, str x2, str x3, Value.slice xa xk.length xc]]; refine Calls.below_of_grew (hO' _))
    | (go_at_call_of 17 [Value.agg #[str y1, str y2, str y3, Value.slice ya yk.length yc]]; refine Calls.below_of_grew (hR _))
    | (go_at_call_of 17 [Value.agg #[str x1, str x2, str x3, Value.slice xa xk.length xc]]; refine Calls.below_of_grew (hR' _))
    | (go_at_call 13; refine Calls.below_of (hV _))))
  refine wpQuiet_nil ?_
  intro _ hw'
  obtain ⟨⟨w3, hb3⟩, rfl⟩ := hw'
  go_wp2_with fail
  go_ret
  exact ⟨rfl, Below.then B2 hb3⟩

end Go.Proofs.Ytdlhleblolcjpaa
