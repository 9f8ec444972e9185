/-
  PlanOrders: its walk.
-/
import Derived.Test.YtcncmpgababfjaaDoorQJm14
import Derived.Test.YtcncmpgababfjaaDoorQOp0
import Derived.Test.YtcncmpgababfjaaDoorQBs
namespace Go.Proofs.YtcncmpgababfjaaDoor
open Go.RowKit Go.Lib Go.Shelf

theorem Tryd.iRz14 : (Tryd.prog.info? 29).map (fun i => (i.zero, i.size, i.bytes)) = some (some (.agg #[.string .empty, .bool false, .int .i64 0, .string .empty, .string .empty, .slice none 0 0, .string .empty, .bool false, .int .i64 0, .string .empty, .slice none 0 0]), 11, 160) := by kernel_rfl
theorem tot_le14 (x : Rv) (hv : Ck.Vok x.r) : Pn.tot x.r x.body.length ≤ 900000 := by
  have h : ∀ n, Pn.tot x.r n ≤ n * 301 := fun n => by
    induction n with
    | zero => exact Nat.le_refl _
    | succ n ih =>
      rw [Pn.tot]
      have : (Pn.tk x.r n).length ≤ 301 := by
        unfold Pn.tk
        cases hy : x.r.body[n]? with
        | none => simp
        | some y =>
          have := hv.each y (List.mem_of_getElem? hy)
          simp only [Pn.tms, List.length_cons]
          omega
      omega
  have h2 := h x.body.length
  have h3 : x.body.length ≤ 300 := by have := hv.few; rwa [show x.r.body.length = x.body.length from List.length_map ..] at this
  omega
theorem vok_texts14 (x : Rv) (hv : Ck.Vok x.r) : ∀ y ∈ x.body, ∀ v ∈ Pn.lvs y.l, v.length ≤ maxLen := fun y hy v hm => by
  obtain ⟨h1, h2, h3⟩ := hv.body y.l (List.mem_map_of_mem hy)
  rcases List.mem_cons.1 hm with rfl | hm
  · exact h1
  · rcases List.mem_cons.1 hm with rfl | hm
    · exact h3
    · obtain ⟨t, ht, rfl⟩ := List.mem_map.1 hm
      exact h2 t ht

set_option maxRecDepth 100000 in
set_option maxHeartbeats 1600000 in
theorem planOrders_walk (x : Rv) (k : Int) (w : World) (hL : Laid w) (hx : Rv.Aw w x) (nx : Sh.RIn x.r ∧ TxR x ∧ TxV x.r) (_ : -9223372036854775808 ≤ k) (_ : k ≤ 9223372036854775807) :
    Calls Tryd.prog 3 #[rval x, .int .i64 k] w fun e w' => e = .returned (.bool true) ∧ Below w.heap.size w w' := by
  have LV := hideP live14_at
  have A0 := below_alloc w (.cells (rv x).toArray 29)
  have H0 := heap_alloc_new w (.cells (rv x).toArray 29)
  have W1 := below_alloc (w.alloc (.cells (rv x).toArray 29)) (.cells (rv x).toArray 29)
  have B0 := Below.then A0 W1
  have H1 := below_heap W1 H0
  have R1 : Row rK ((w.alloc (.cells (rv x).toArray 29)).alloc (.cells (rv x).toArray 29)) (some ⟨w.heap.size + 1, 0, none⟩) 1 [x] := by
    have := row_new rK (w.alloc (.cells (rv x).toArray 29)) (rv x).toArray 29 x rfl
    rwa [World.size_alloc] at this
  have T0 := hideP (rweight_few _ 1 [x] _ R1 (fun y hy => by rw [List.mem_singleton] at hy; subst hy; exact hx.below B0 (Nat.le_refl _)) (fun y hy => by rw [List.mem_singleton] at hy; subst hy; exact nx.2.1))
  rw [List.length_singleton] at T0
  go_enter Tryd.func3, Tryd.ntmps3
  go_wp2_with (first
    | (refine wpList_load_all rfl 29 _ rfl w.heap.size 11 29 (rv x) _ rfl H0 rfl Tryd.underlying29 rfl Tryd.iR11 ?_)
    | (refine wpList_build_one rfl 31 29 _ rfl (rv x) _ 11 160 rfl rfl (by decide) (by decide) Tryd.underlying31 Tryd.iRz14 ?_))
  refine T0.out.mono ?_
  rintro e w1 ⟨⟨r, rfl, hfew⟩, g1⟩
  have B1 : Below w.heap.size w w1 := Below.then B0 g1.below
  have H2 := below_heap g1.below H1
  have HF := hideP hfew
  clear hfew T0 R1 W1 H1 A0 B0 g1
  by_cases hr : r > 300
  · go_wp2_with fail
    refine (LV.out _ (hL.below B1)).mono ?_
    rintro e w2 ⟨rfl, b2⟩
    go_wp2_with fail
    go_ret
    exact ⟨rfl, Below.then B1 b2⟩
  obtain ⟨_, hfx⟩ := HF.out (by omega)
  have hv := vok_of nx.2.2 (hfx x (List.mem_singleton.2 rfl))
  have hrl : x.r.body.length = x.body.length := List.length_map ..
  have hbn : x.body.length ≤ 300 := by have := hv.few; rwa [hrl] at this
  have hT := tot_le14 x hv
  have hs := vok_texts14 x hv
  clear HF hfx
  have KK := hideP (fun (W : World) (h : Below w1.heap.size w1 W) => (show W.cell? ⟨w.heap.size, 0, none⟩ = some (str x.home.v) ∧ W.cell? ⟨w.heap.size, 1, none⟩ = some (.bool x.home.k.num) ∧ W.cell? ⟨w.heap.size, 2, none⟩ = some (.int .i64 x.home.k.n) ∧ W.cell? ⟨w.heap.size, 3, none⟩ = some (str x.home.k.s) ∧ W.cell? ⟨w.heap.size, 4, none⟩ = some (str x.pred) ∧ W.cell? ⟨w.heap.size, 5, none⟩ = some (.slice x.a x.args.length x.cap) ∧ W.cell? ⟨w.heap.size, 6, none⟩ = some (str x.to_.v) ∧ W.cell? ⟨w.heap.size, 7, none⟩ = some (.bool x.to_.k.num) ∧ W.cell? ⟨w.heap.size, 8, none⟩ = some (.int .i64 x.to_.k.n) ∧ W.cell? ⟨w.heap.size, 9, none⟩ = some (str x.to_.k.s) ∧ W.cell? ⟨w.heap.size, 10, none⟩ = some (.slice x.ba x.body.length x.bcap) from by
    have e1 := below_heap h H2
    refine ⟨?_, ?_, ?_, ?_, ?_, ?_, ?_, ?_, ?_, ?_, ?_⟩
    all_goals (rw [heap_cell e1]; rfl)))
  have X1 := hideP (fun (W : World) (h : Below w1.heap.size w1 W) => hx.below (Below.then B1 h) (Nat.le_refl _))
  have TP := hideP (fun (W : World) (h : Below w1.heap.size w1 W) => order_at x k W (X1.out W h) (by omega) hT hs hv.home)
  have TR := hideP (fun (W : World) (h : Below w1.heap.size w1 W) => rorder14_at x k W (X1.out W h) hv)
  generalize Pn.ord x.r k = N at *
  have gD := (Below.refl w1.heap.size w1).drew
  clear hT hs hrl hbn
  go_wp2_with fail
  go_region_held3 (fun W => W.cell? ⟨w.heap.size, 0, none⟩ = some (str x.home.v) ∧ W.cell? ⟨w.heap.size, 1, none⟩ = some (.bool x.home.k.num) ∧ W.cell? ⟨w.heap.size, 2, none⟩ = some (.int .i64 x.home.k.n) ∧ W.cell? ⟨w.heap.size, 3, none⟩ = some (str x.home.k.s) ∧ W.cell? ⟨w.heap.size, 4, none⟩ = some (str x.pred) ∧ W.cell? ⟨w.heap.size, 5, none⟩ = some (.slice x.a x.args.length x.cap) ∧ W.cell? ⟨w.heap.size, 6, none⟩ = some (str x.to_.v) ∧ W.cell? ⟨w.heap.size, 7, none⟩ = some (.bool x.to_.k.num) ∧ W.cell? ⟨w.heap.size, 8, none⟩ = some (.int .i64 x.to_.k.n) ∧ W.cell? ⟨w.heap.size, 9, none⟩ = some (str x.to_.k.s) ∧ W.cell? ⟨w.heap.size, 10, none⟩ = some (.slice x.ba x.body.length x.bcap)) (first | exact KK.out _ gD | exact KK.out _ g2 | exact KK.out _ g3 | exact KK.out _ g4 | exact KK.out _ g5) (first
    | (go_at_call 8; refine (TP.out _ gD).mono ?_; rintro e w2 ⟨⟨a2, c2, rfl, R2⟩, b2⟩; have g2 := Below.then gD b2)
    | (go_at_call 9; refine (TR.out w2 g2).mono ?_; rintro e w3 ⟨⟨a3, c3, rfl, R3⟩, b3⟩; have g3 := Below.then g2 b3)
    | (go_at_call 7; refine (rints14_at w3 a2 a3 c2 c3 N N (R2.below b3 (Nat.le_refl _)) R3).mono ?_; rw [decide_eq_true (rfl : N = N)]; rintro e w4 ⟨rfl, b4⟩; have g4 := Below.then g3 b4)
    | (go_at_call 6; refine (LV.out w4 (hL.below (Below.then B1 g4))).mono ?_; rintro e w5 ⟨rfl, b5⟩; have g5 := Below.then g4 b5))
  all_goals go_wp2_with fail
  all_goals go_ret
  all_goals exact ⟨rfl, Below.then B1 g5⟩
end Go.Proofs.YtcncmpgababfjaaDoor
