/-
  CheckVars: its walk.
-/
import Derived.Test.YtefajadolgmpdaaGreatDoorQLv0
import Derived.Test.YtefajadolgmpdaaGreatDoorQRb
import Derived.Test.YtefajadolgmpdaaGreatDoorQOp0
import Derived.Test.YtefajadolgmpdaaGreatDoorQBs
namespace Go.Proofs.YtefajadolgmpdaaGreatDoor
open Go.RowKit Go.Lib Go.Shelf

theorem Tryz.iRz : (Tryz.prog.info? 42).map (fun i => (i.zero, i.size, i.bytes)) = some (some (.agg #[.string .empty, .bool false, .int .i64 0, .string .empty, .string .empty, .slice none 0 0, .string .empty, .bool false, .int .i64 0, .string .empty, .slice none 0 0]), 11, 160) := by kernel_rfl

set_option maxRecDepth 100000 in
set_option maxHeartbeats 1000000 in
theorem checkVars_walk (x : Rv) (k : Int) (w : World) (hL : Laid w) (hx : Rv.Aw w x) (nx : Sh.RIn x.r ∧ TxR x ∧ TxV x.r) (_ : -9223372036854775808 ≤ k) (_ : k ≤ 9223372036854775807) :
    Calls Tryz.prog 5 #[rval x, .int .i64 k] w fun e w' => e = .returned (.bool true) ∧ Below w.heap.size w w' := by
  have LV := hideP live10_at
  have A0 := below_alloc w (.cells (rv x).toArray 42)
  have H0 := heap_alloc_new w (.cells (rv x).toArray 42)
  have W1 := below_alloc (w.alloc (.cells (rv x).toArray 42)) (.cells (rv x).toArray 42)
  have B0 := Below.then A0 W1
  have H1 := below_heap W1 H0
  have R1 : Row rK ((w.alloc (.cells (rv x).toArray 42)).alloc (.cells (rv x).toArray 42)) (some ⟨w.heap.size + 1, 0, none⟩) 1 [x] := by
    have := row_new rK (w.alloc (.cells (rv x).toArray 42)) (rv x).toArray 42 x rfl
    rwa [World.size_alloc] at this
  have T0 := hideP (rweight_few _ 1 [x] _ R1 (fun y hy => by rw [List.mem_singleton] at hy; subst hy; exact hx.below B0 (Nat.le_refl _)) (fun y hy => by rw [List.mem_singleton] at hy; subst hy; exact nx.2.1))
  rw [List.length_singleton] at T0
  go_enter Tryz.func5, Tryz.ntmps5
  go_wp2_with (first
    | (refine wpList_load_all rfl 42 _ rfl w.heap.size 11 42 (rv x) _ rfl H0 rfl Tryz.underlying42 rfl Tryz.iR11 ?_)
    | (refine wpList_build_one rfl 22 42 _ rfl (rv x) _ 11 160 rfl rfl (by decide) (by decide) Tryz.underlying22 Tryz.iRz ?_))
  refine T0.out.mono ?_
  rintro e w1 ⟨⟨r, rfl, hfew⟩, g1⟩
  have B1 : Below w.heap.size w w1 := Below.then B0 g1.below
  have H2 := below_heap g1.below H1
  have HF := hideP hfew
  clear hfew T0 R1 W1 H1 A0 B0 g1
  by_cases hr : r > 300
  · go_wp2_with fail
    refine (LV.out _ (hL.below B1)).mono ?_
    rintro e w2 ⟨rfl, b2⟩
    go_wp2_with fail
    go_ret
    exact ⟨rfl, Below.then B1 b2⟩
  obtain ⟨_, hfx⟩ := HF.out (by omega)
  have hv := vok_of nx.2.2 (hfx x (List.mem_singleton.2 rfl))
  clear HF hfx
  have KK := hideP (fun (W : World) (h : Below w1.heap.size w1 W) => (show W.cell? ⟨w.heap.size, 0, none⟩ = some (str x.home.v) ∧ W.cell? ⟨w.heap.size, 1, none⟩ = some (.bool x.home.k.num) ∧ W.cell? ⟨w.heap.size, 2, none⟩ = some (.int .i64 x.home.k.n) ∧ W.cell? ⟨w.heap.size, 3, none⟩ = some (str x.home.k.s) ∧ W.cell? ⟨w.heap.size, 4, none⟩ = some (str x.pred) ∧ W.cell? ⟨w.heap.size, 5, none⟩ = some (.slice x.a x.args.length x.cap) ∧ W.cell? ⟨w.heap.size, 6, none⟩ = some (str x.to_.v) ∧ W.cell? ⟨w.heap.size, 7, none⟩ = some (.bool x.to_.k.num) ∧ W.cell? ⟨w.heap.size, 8, none⟩ = some (.int .i64 x.to_.k.n) ∧ W.cell? ⟨w.heap.size, 9, none⟩ = some (str x.to_.k.s) ∧ W.cell? ⟨w.heap.size, 10, none⟩ = some (.slice x.ba x.body.length x.bcap) by
    have e1 := below_heap h H2
    refine ⟨?_, ?_, ?_, ?_, ?_, ?_, ?_, ?_, ?_, ?_, ?_⟩
    all_goals (rw [heap_cell e1]; rfl)))
  have X1 := hideP (fun (W : World) (h : Below w1.heap.size w1 W) => hx.below (Below.then B1 h) (Nat.le_refl _))
  have TV := hideP (fun (W : World) (h : Below w1.heap.size w1 W) => vars_at x W (X1.out W h) hv)
  have TR := hideP (fun (W : World) (h : Below w1.heap.size w1 W) => rvars_at x W (X1.out W h) hv)
  have BV := hideP (fun (W : World) (h : Below w1.heap.size w1 W) => bound_at x k W (X1.out W h) hv)
  have BR := hideP (fun (W : World) (h : Below w1.heap.size w1 W) => rbound_at x k W (X1.out W h) hv)
  generalize Ck.vars x.r = N at *
  generalize Ck.bnd x.r k.toNat = M at *
  have TX := hideP texts_at
  have gD := (Below.refl w1.heap.size w1).drew
  go_wp2_with fail
  go_region_held3 (fun W => W.cell? ⟨w.heap.size, 0, none⟩ = some (str x.home.v) ∧ W.cell? ⟨w.heap.size, 1, none⟩ = some (.bool x.home.k.num) ∧ W.cell? ⟨w.heap.size, 2, none⟩ = some (.int .i64 x.home.k.n) ∧ W.cell? ⟨w.heap.size, 3, none⟩ = some (str x.home.k.s) ∧ W.cell? ⟨w.heap.size, 4, none⟩ = some (str x.pred) ∧ W.cell? ⟨w.heap.size, 5, none⟩ = some (.slice x.a x.args.length x.cap) ∧ W.cell? ⟨w.heap.size, 6, none⟩ = some (str x.to_.v) ∧ W.cell? ⟨w.heap.size, 7, none⟩ = some (.bool x.to_.k.num) ∧ W.cell? ⟨w.heap.size, 8, none⟩ = some (.int .i64 x.to_.k.n) ∧ W.cell? ⟨w.heap.size, 9, none⟩ = some (str x.to_.k.s) ∧ W.cell? ⟨w.heap.size, 10, none⟩ = some (.slice x.ba x.body.length x.bcap)) (first | exact KK.out _ gD | exact KK.out _ g2 | exact KK.out _ g3 | exact KK.out _ g4 | exact KK.out _ g5 | exact KK.out _ g6 | exact KK.out _ g7 | exact KK.out _ g8) (first
    | (go_at_call 17; refine (TV.out _ gD).mono ?_; rintro e w2 ⟨⟨a2, c2, rfl, R2⟩, b2⟩; have g2 := Below.then gD b2)
    | (go_at_call 18; refine (TR.out w2 g2).mono ?_; rintro e w3 ⟨⟨a3, c3, rfl, R3⟩, b3⟩; have g3 := Below.then g2 b3)
    | (go_at_call_of 16 (Value.slice a2 N.length c2); refine (TX.out w3 a2 a3 c2 c3 N (R2.below b3 (Nat.le_refl _)) R3).mono ?_; rintro e w4 ⟨rfl, b4⟩; have g4 := Below.then g3 b4)
    | (go_at_call 19; refine (BV.out w4 g4).mono ?_; rintro e w5 ⟨⟨a5, c5, rfl, R5⟩, b5⟩; have g5 := Below.then g4 b5)
    | (go_at_call 20; refine (BR.out w5 g5).mono ?_; rintro e w6 ⟨⟨a6, c6, rfl, R6⟩, b6⟩; have g6 := Below.then g5 b6)
    | (go_at_call_of 16 (Value.slice a5 M.length c5); refine (TX.out w6 a5 a6 c5 c6 M (R5.below b6 (Nat.le_refl _)) R6).mono ?_; rintro e w7 ⟨rfl, b7⟩; have g7 := Below.then g6 b7)
    | (go_at_call 10; refine (LV.out w7 (hL.below (Below.then B1 g7))).mono ?_; rintro e w8 ⟨rfl, b8⟩; have g8 := Below.then g7 b8))
  all_goals go_wp2_with fail
  all_goals go_ret
  all_goals exact ⟨rfl, Below.then B1 g8⟩
end Go.Proofs.YtefajadolgmpdaaGreatDoor
