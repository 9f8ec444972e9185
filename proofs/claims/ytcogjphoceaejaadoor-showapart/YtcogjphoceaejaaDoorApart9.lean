/-
  ShowApart: its walk.
-/
import Derived.Test.YtcogjphoceaejaaDoorLv9
import Derived.Test.YtcogjphoceaejaaDoorRf1
import Derived.Test.YtcogjphoceaejaaDoorOp9
import Derived.Test.YtcogjphoceaejaaDoorRs9
import Derived.Test.YtcogjphoceaejaaDoorBt
namespace Go.Proofs.YtcogjphoceaejaaDoor
open Go.RowKit Go.Lib Go.Shelf

/-- a whole record read, guarded -/
theorem wpList_load_g {P : Program} {ops : Array Oper} {rest : List Oper} {op : Oper} {a : Act} {w : World} {Q : Exit → Act → World → Prop} (hgw : Region.wanted op (yielded ops a.tmps) = true) (ty : TypeId) (x : Operand) (ho : op.op = .load ty x)
    (b o : Nat) (hx : a.eval x = .pointer (some ⟨b, o, none⟩)) (cs : List Value) (d : TypeDesc) (hc : w.rangeAt b o cs)
    (hu : P.underlying ty = some d) (hd : d.isRow = true) (hi : (P.info? ty).map (·.size) = some cs.length)
    (h : wpList P ops Q rest (a.put op.dst (.agg cs.toArray)) w) : wpList P ops Q (op :: rest) a w := by
  refine wpList_step fun K hK => ?_
  rw [if_pos hgw]
  unfold Oper.wp execOp
  simp only [ho, hx, Instr.loadAt, Instr.sureAddr, Sem.run_bind, Sem.run_pure, Result.andThen_ok, run_loadVar_mid w b o ty cs d hc hu hd hi]
  exact hK _ _ h
theorem Tryd.iRz : (Tryd.prog.info? 41).map (fun i => (i.zero, i.size, i.bytes)) = some (some (.agg #[.string .empty, .bool false, .int .i64 0, .string .empty, .string .empty, .slice none 0 0, .string .empty, .bool false, .int .i64 0, .string .empty, .slice none 0 0]), 11, 160) := by kernel_rfl
theorem row_range {w : World} {b : Nat} {vs : List Value} {T : TypeId} (h : w.heap[b]? = some (.cells vs.toArray T)) : w.rangeAt b 0 vs := by
  have := World.rangeAt_of_block h 0 vs.length
  simpa using this
theorem two_cells {W : World} {V : Nat} {T : TypeId} (x y : Tm) (h : W.heap[V]? = some (.cells (tv x ++ tv y).toArray T)) :
    W.cell? ⟨V, 0, none⟩ = some (str x.v) ∧ W.cell? ⟨V, 1, none⟩ = some (.bool x.k.num) ∧ W.cell? ⟨V, 2, none⟩ = some (.int .i64 x.k.n) ∧ W.cell? ⟨V, 3, none⟩ = some (str x.k.s) ∧ W.cell? ⟨V, 4, none⟩ = some (str y.v) ∧ W.cell? ⟨V, 5, none⟩ = some (.bool y.k.num) ∧ W.cell? ⟨V, 6, none⟩ = some (.int .i64 y.k.n) ∧ W.cell? ⟨V, 7, none⟩ = some (str y.k.s) := by
  refine ⟨?_, ?_, ?_, ?_, ?_, ?_, ?_, ?_⟩ <;> (rw [heap_cell h]; rfl)
/-- three ways of two things that are shown -/
theorem three_terms (x y : Tm) (hx : Sh.KIn x) (hy : Sh.KIn y) : ∃ (s : List UInt8) (e : Int) (t : List UInt8) (f : Int), sv (Sh.termS x) = .tuple #[str s, .int .i64 e] ∧ sv (Sh.termS y) = .tuple #[str t, .int .i64 f] ∧ (e = 100 ∨ (e = 0 ∧ f = 100) ∨ (e = 0 ∧ f = 0 ∧ (s == t) = sameT x y)) := by
  cases h : Sh.termS x with
  | none =>
    cases k : Sh.termS y with
    | none => exact ⟨[], 100, [], 100, rfl, rfl, .inl rfl⟩
    | some t => exact ⟨[], 100, t, 0, rfl, rfl, .inl rfl⟩
  | some s =>
    cases k : Sh.termS y with
    | none => exact ⟨s, 0, [], 100, rfl, rfl, .inr (.inl ⟨rfl, rfl⟩)⟩
    | some t =>
      refine ⟨s, 0, t, 0, rfl, rfl, .inr (.inr ⟨rfl, rfl, ?_⟩)⟩
      refine Sh.bool_eq (fun h1 => ?_) (fun h1 => ?_)
      · have : s = t := by simpa using h1
        subst this
        exact (sameT_iff _ _).2 (Sh.term_apart hx hy h k)
      · have := (sameT_iff _ _).1 h1
        subst this
        rw [h] at k; cases k; simp
theorem three_rules (x y : Ru) (hx : Sh.RIn x) (hy : Sh.RIn y) : ∃ (s : List UInt8) (e : Int) (t : List UInt8) (f : Int), sv (Sh.ruleS x) = .tuple #[str s, .int .i64 e] ∧ sv (Sh.ruleS y) = .tuple #[str t, .int .i64 f] ∧ (e = 100 ∨ (e = 0 ∧ f = 100) ∨ (e = 0 ∧ f = 0 ∧ (s == t) = sameR x y)) := by
  cases h : Sh.ruleS x with
  | none =>
    cases k : Sh.ruleS y with
    | none => exact ⟨[], 100, [], 100, rfl, rfl, .inl rfl⟩
    | some t => exact ⟨[], 100, t, 0, rfl, rfl, .inl rfl⟩
  | some s =>
    cases k : Sh.ruleS y with
    | none => exact ⟨s, 0, [], 100, rfl, rfl, .inr (.inl ⟨rfl, rfl⟩)⟩
    | some t =>
      refine ⟨s, 0, t, 0, rfl, rfl, .inr (.inr ⟨rfl, rfl, ?_⟩)⟩
      refine Sh.bool_eq (fun h1 => ?_) (fun h1 => ?_)
      · have : s = t := by simpa using h1
        subst this
        exact (sameR_iff _ _).2 (Sh.rule_apart hx hy h k)
      · have := (sameR_iff _ _).1 h1
        subst this
        rw [h] at k; cases k; simp

set_option maxRecDepth 100000 in
set_option maxHeartbeats 8000000 in
theorem showApart_walk (x y : Tm) (p q : Rv) (w : World) (hL : Laid w) (hx : Reach9 x) (hy : Reach9 y) (hp : Rv.Aw w p) (ip : Sh.RIn p.r) (hq : Rv.Aw w q) (iq : Sh.RIn q.r) :
    Calls Tryd.prog 7 #[.agg (tv x ++ tv y).toArray, rval p, rval q] w fun e w' => e = .returned (.bool true) ∧ Below w.heap.size w w' := by
  have LV := hideP live9_at
  have KP := hideP (fun W => rkept_at [97] W)
  rw [show Ps.kept [97] = false from by decide] at KP
  have T1 := hideP (fun W (h : Below w.heap.size w W) => showTerm_at x W (hL.below h) hx.k)
  have T2 := hideP (fun W (h : Below w.heap.size w W) => showTerm_at y W (hL.below h) hy.k)
  have T3 := hideP (fun W (h : Below w.heap.size w W) => showRule_at p W (hL.below h) (hp.below h (Nat.le_refl _)) ip)
  have T4 := hideP (fun W (h : Below w.heap.size w W) => showRule_at q W (hL.below h) (hq.below h (Nat.le_refl _)) iq)
  have T5 := hideP (fun W (h : Below w.heap.size w W) => rsameRule_at p q W (hp.below h (Nat.le_refl _)) (hq.below h (Nat.le_refl _)))
  have E := fun W => eqTerm x y W
  obtain ⟨s, e, t, f, hs, ht, h3⟩ := three_terms x y hx.k hy.k
  obtain ⟨u, g, v, h, hu, hv, k3⟩ := three_rules p.r q.r ip iq
  have H3 := hideP h3
  have K3 := hideP k3
  rw [hs] at T1
  rw [ht] at T2
  rw [hu] at T3
  rw [hv] at T4
  clear hs ht hu hv h3 k3
  generalize sameT x y = sx at *
  generalize sameR p.r q.r = sp at *
  have A0 := below_alloc w (.cells (tv x ++ tv y).toArray 46)
  have H0 := heap_alloc_new w (.cells (tv x ++ tv y).toArray 46)
  have A1 := below_alloc (w.alloc (.cells (tv x ++ tv y).toArray 46)) (.cells #[str p.home.v, .bool p.home.k.num, .int .i64 p.home.k.n, str p.home.k.s, str p.pred, .slice p.a p.args.length p.cap, str p.to_.v, .bool p.to_.k.num, .int .i64 p.to_.k.n, str p.to_.k.s, .slice p.ba p.body.length p.bcap] 41)
  have H1 := heap_alloc_new (w.alloc (.cells (tv x ++ tv y).toArray 46)) (.cells #[str p.home.v, .bool p.home.k.num, .int .i64 p.home.k.n, str p.home.k.s, str p.pred, .slice p.a p.args.length p.cap, str p.to_.v, .bool p.to_.k.num, .int .i64 p.to_.k.n, str p.to_.k.s, .slice p.ba p.body.length p.bcap] 41)
  have A2 := below_alloc ((w.alloc (.cells (tv x ++ tv y).toArray 46)).alloc (.cells #[str p.home.v, .bool p.home.k.num, .int .i64 p.home.k.n, str p.home.k.s, str p.pred, .slice p.a p.args.length p.cap, str p.to_.v, .bool p.to_.k.num, .int .i64 p.to_.k.n, str p.to_.k.s, .slice p.ba p.body.length p.bcap] 41)) (.cells #[str q.home.v, .bool q.home.k.num, .int .i64 q.home.k.n, str q.home.k.s, str q.pred, .slice q.a q.args.length q.cap, str q.to_.v, .bool q.to_.k.num, .int .i64 q.to_.k.n, str q.to_.k.s, .slice q.ba q.body.length q.bcap] 41)
  have H2 := heap_alloc_new ((w.alloc (.cells (tv x ++ tv y).toArray 46)).alloc (.cells #[str p.home.v, .bool p.home.k.num, .int .i64 p.home.k.n, str p.home.k.s, str p.pred, .slice p.a p.args.length p.cap, str p.to_.v, .bool p.to_.k.num, .int .i64 p.to_.k.n, str p.to_.k.s, .slice p.ba p.body.length p.bcap] 41)) (.cells #[str q.home.v, .bool q.home.k.num, .int .i64 q.home.k.n, str q.home.k.s, str q.pred, .slice q.a q.args.length q.cap, str q.to_.v, .bool q.to_.k.num, .int .i64 q.to_.k.n, str q.to_.k.s, .slice q.ba q.body.length q.bcap] 41)
  have z1 : (w.alloc (.cells (tv x ++ tv y).toArray 46)).heap.size = w.heap.size + 1 := by simp
  have z2 : ((w.alloc (.cells (tv x ++ tv y).toArray 46)).alloc (.cells #[str p.home.v, .bool p.home.k.num, .int .i64 p.home.k.n, str p.home.k.s, str p.pred, .slice p.a p.args.length p.cap, str p.to_.v, .bool p.to_.k.num, .int .i64 p.to_.k.n, str p.to_.k.s, .slice p.ba p.body.length p.bcap] 41)).heap.size = w.heap.size + 1 + 1 := by simp
  have G0 := below_heap A2 (below_heap A1 H0)
  have G1 := below_heap A2 H1
  rw [z1] at G1
  rw [z2] at H2
  have B0 := Below.then (Below.then A0 A1) A2
  clear A0 A1 A2 H0 H1 z1 z2
  go_enter Tryd.func7, Tryd.ntmps7
  go_upto_region 1 with fail
  generalize ((w.alloc (.cells (tv x ++ tv y).toArray 46)).alloc (.cells #[str p.home.v, .bool p.home.k.num, .int .i64 p.home.k.n, str p.home.k.s, str p.pred, .slice p.a p.args.length p.cap, str p.to_.v, .bool p.to_.k.num, .int .i64 p.to_.k.n, str p.to_.k.s, .slice p.ba p.body.length p.bcap] 41)).alloc (.cells #[str q.home.v, .bool q.home.k.num, .int .i64 q.home.k.n, str q.home.k.s, str q.pred, .slice q.a q.args.length q.cap, str q.to_.v, .bool q.to_.k.num, .int .i64 q.to_.k.n, str q.to_.k.s, .slice q.ba q.body.length q.bcap] 41) = w0 at *
  have G1 : w0.heap[w.heap.size + 1]? = some (.cells (rv p).toArray 41) := G1
  have H2 : w0.heap[w.heap.size + 1 + 1]? = some (.cells (rv q).toArray 41) := H2
  have S0 := B0.size
  obtain ⟨CC, hCC⟩ : ∃ CC, (rv p ++ rv q).toArray = CC := ⟨_, rfl⟩
  have A4 := below_alloc w0 (.cells CC 41)
  have B4 := Below.then B0 A4
  have R4 := row_two rK w0 CC 41 p q (by rw [← hCC]; rfl)
  have HCC := hideP hCC
  clear hCC
  have WT : Hid (Calls Tryd.prog 11 #[.slice (some ⟨w0.heap.size, 0, none⟩) 2 2, .int .i64 200] (w0.alloc (.cells CC 41)) fun e w' => (∃ r : Int, e = .returned (.int .i64 r)) ∧ Grew (w0.alloc (.cells CC 41)) w') := (rweight_at (some ⟨w0.heap.size, 0, none⟩) 2 [p, q] 200 _ R4 (fun z hz => by
    rcases List.mem_cons.1 hz with rfl | hz
    · exact hp.below B4 (Nat.le_refl _)
    · rw [List.mem_singleton] at hz; subst hz; exact hq.below B4 (Nat.le_refl _)))
  go_wp2_with (first
    | (refine wpList_load_all rfl 41 _ rfl (w.heap.size + 1) 11 41 (rv p) _ rfl G1 rfl Tryd.underlying41 rfl Tryd.iR11 ?_)
    | (refine wpList_load_all rfl 41 _ rfl (w.heap.size + 1 + 1) 11 41 (rv q) _ rfl H2 rfl Tryd.underlying41 rfl Tryd.iR11 ?_)
    | (refine wpList_build_two rfl 31 41 _ _ rfl (rv p) (rv q) _ 11 160 rfl rfl rfl rfl (by decide) (by decide) Tryd.underlying31 Tryd.iRz CC HCC.out ?_))
  refine WT.out.mono ?_
  rintro e' w1 ⟨⟨r, rfl⟩, g1⟩
  have b1 := Below.then A4 g1.below
  have B1 := Below.then B0 b1
  have G0 := below_heap b1 G0
  have G1 := below_heap b1 G1
  have G2 := below_heap b1 H2
  clear WT R4 A4 B4 g1 b1 H2 HCC
  by_cases hr : r > 200
  · go_wp2_with fail
    refine (LV.out _ (hL.below B1)).mono ?_
    rintro e' w2 ⟨rfl, b2⟩
    go_wp2_with fail
    go_ret
    exact ⟨rfl, Below.then B1 b2⟩
  obtain ⟨c0, c1, c2, c3, c4, c5, c6, c7⟩ := two_cells x y G0
  clear c4 c5 c6 c7
  go_wp2_with fail
  refine (T1.out w1 B1).mono ?_
  rintro e' w2 ⟨rfl, b2⟩
  have B2 := Below.then B1 b2
  have G0 := below_heap b2 G0
  have G1 := below_heap b2 G1
  have G2 := below_heap b2 G2
  clear c0 c1 c2 c3
  obtain ⟨c0, c1, c2, c3, c4, c5, c6, c7⟩ := two_cells x y G0
  clear c0 c1 c2 c3
  go_wp2_with fail
  refine (T2.out w2 B2).mono ?_
  rintro e' w3 ⟨rfl, b3⟩
  have B3 := Below.then B2 b3
  have G0 := below_heap b3 G0
  have G1 := below_heap b3 G1
  have G2 := below_heap b3 G2
  clear c4 c5 c6 c7 T1 T2
  obtain ⟨c0, c1, c2, c3, c4, c5, c6, c7⟩ := two_cells x y G0
  rcases H3.out with rfl | ⟨rfl, rfl⟩ | ⟨rfl, rfl, hsx⟩
  · clear H3 E c0 c1 c2 c3 c4 c5 c6 c7
    go_wp2_with (refine wpList_load_all rfl 41 _ rfl (w.heap.size + 1) 11 41 (rv p) _ rfl G1 rfl Tryd.underlying41 rfl Tryd.iR11 ?_)
    refine (T3.out w3 B3).mono ?_
    rintro e' w4 ⟨rfl, b4⟩
    have B4 := Below.then B3 b4
    have G1 := below_heap b4 G1
    have G2 := below_heap b4 G2
    go_wp2_with (refine wpList_load_all rfl 41 _ rfl (w.heap.size + 1 + 1) 11 41 (rv q) _ rfl G2 rfl Tryd.underlying41 rfl Tryd.iR11 ?_)
    refine (T4.out w4 B4).mono ?_
    rintro e' w5 ⟨rfl, b5⟩
    have B5 := Below.then B4 b5
    have R1 := row_range (below_heap b5 G1)
    have R2 := row_range (below_heap b5 G2)
    clear T3 T4 G1 G2
    rcases K3.out with rfl | ⟨rfl, rfl⟩ | ⟨rfl, rfl, hsp⟩
    · clear K3 R1 R2 T5
      go_wp2_with (first
        | (go_at_call 20; refine (KP.out _).mono ?_; rintro e' w6 ⟨rfl, rfl⟩)
        | (go_at_call 8; refine (LV.out w5 (hL.below B5)).mono ?_; rintro e' w7 ⟨rfl, b7⟩))
      go_ret
      exact ⟨rfl, Below.then B5 b7⟩
    · clear K3 R1 R2 T5
      go_wp2_with (first
        | (go_at_call 20; refine (KP.out _).mono ?_; rintro e' w6 ⟨rfl, rfl⟩)
        | (go_at_call 8; refine (LV.out w5 (hL.below B5)).mono ?_; rintro e' w7 ⟨rfl, b7⟩))
      go_ret
      exact ⟨rfl, Below.then B5 b7⟩
    · clear K3
      go_wp2_with (first
        | (refine wpList_load_g (by rfl) 41 _ rfl (w.heap.size + 1) 0 rfl (rv p) _ R1 Tryd.underlying41 rfl Tryd.iR11 ?_)
        | (refine wpList_load_g (by rfl) 41 _ rfl (w.heap.size + 1 + 1) 0 rfl (rv q) _ R2 Tryd.underlying41 rfl Tryd.iR11 ?_)
        | (go_at_call 19; refine (T5.out w5 B5).mono ?_; rintro e' w6 ⟨rfl, b6⟩)
        | (go_at_call 20; refine (KP.out _).mono ?_; rintro e' w7 ⟨rfl, rfl⟩)
        | (go_at_call 8; refine (LV.out w6 (hL.below (Below.then B5 b6))).mono ?_; rintro e' w8 ⟨rfl, b8⟩))
      go_ret
      exact ⟨rfl, Below.then (Below.then B5 b6) b8⟩
  · clear H3 E c0 c1 c2 c3 c4 c5 c6 c7
    go_wp2_with (refine wpList_load_all rfl 41 _ rfl (w.heap.size + 1) 11 41 (rv p) _ rfl G1 rfl Tryd.underlying41 rfl Tryd.iR11 ?_)
    refine (T3.out w3 B3).mono ?_
    rintro e' w4 ⟨rfl, b4⟩
    have B4 := Below.then B3 b4
    have G1 := below_heap b4 G1
    have G2 := below_heap b4 G2
    go_wp2_with (refine wpList_load_all rfl 41 _ rfl (w.heap.size + 1 + 1) 11 41 (rv q) _ rfl G2 rfl Tryd.underlying41 rfl Tryd.iR11 ?_)
    refine (T4.out w4 B4).mono ?_
    rintro e' w5 ⟨rfl, b5⟩
    have B5 := Below.then B4 b5
    have R1 := row_range (below_heap b5 G1)
    have R2 := row_range (below_heap b5 G2)
    clear T3 T4 G1 G2
    rcases K3.out with rfl | ⟨rfl, rfl⟩ | ⟨rfl, rfl, hsp⟩
    · clear K3 R1 R2 T5
      go_wp2_with (first
        | (go_at_call 20; refine (KP.out _).mono ?_; rintro e' w6 ⟨rfl, rfl⟩)
        | (go_at_call 8; refine (LV.out w5 (hL.below B5)).mono ?_; rintro e' w7 ⟨rfl, b7⟩))
      go_ret
      exact ⟨rfl, Below.then B5 b7⟩
    · clear K3 R1 R2 T5
      go_wp2_with (first
        | (go_at_call 20; refine (KP.out _).mono ?_; rintro e' w6 ⟨rfl, rfl⟩)
        | (go_at_call 8; refine (LV.out w5 (hL.below B5)).mono ?_; rintro e' w7 ⟨rfl, b7⟩))
      go_ret
      exact ⟨rfl, Below.then B5 b7⟩
    · clear K3
      go_wp2_with (first
        | (refine wpList_load_g (by rfl) 41 _ rfl (w.heap.size + 1) 0 rfl (rv p) _ R1 Tryd.underlying41 rfl Tryd.iR11 ?_)
        | (refine wpList_load_g (by rfl) 41 _ rfl (w.heap.size + 1 + 1) 0 rfl (rv q) _ R2 Tryd.underlying41 rfl Tryd.iR11 ?_)
        | (go_at_call 19; refine (T5.out w5 B5).mono ?_; rintro e' w6 ⟨rfl, b6⟩)
        | (go_at_call 20; refine (KP.out _).mono ?_; rintro e' w7 ⟨rfl, rfl⟩)
        | (go_at_call 8; refine (LV.out w6 (hL.below (Below.then B5 b6))).mono ?_; rintro e' w8 ⟨rfl, b8⟩))
      go_ret
      exact ⟨rfl, Below.then (Below.then B5 b6) b8⟩
  · clear H3
    go_wp2_with (refine wpList_load_all rfl 41 _ rfl (w.heap.size + 1) 11 41 (rv p) _ rfl G1 rfl Tryd.underlying41 rfl Tryd.iR11 ?_)
    clear c0 c1 c2 c3 c4 c5 c6 c7 E
    refine (T3.out w3 B3).mono ?_
    rintro e' w4 ⟨rfl, b4⟩
    have B4 := Below.then B3 b4
    have G1 := below_heap b4 G1
    have G2 := below_heap b4 G2
    go_wp2_with (refine wpList_load_all rfl 41 _ rfl (w.heap.size + 1 + 1) 11 41 (rv q) _ rfl G2 rfl Tryd.underlying41 rfl Tryd.iR11 ?_)
    refine (T4.out w4 B4).mono ?_
    rintro e' w5 ⟨rfl, b5⟩
    have B5 := Below.then B4 b5
    have R1 := row_range (below_heap b5 G1)
    have R2 := row_range (below_heap b5 G2)
    clear T3 T4 G1 G2
    rcases K3.out with rfl | ⟨rfl, rfl⟩ | ⟨rfl, rfl, hsp⟩
    · clear K3 R1 R2 T5
      go_wp2_with (first
        | (go_at_call 20; refine (KP.out _).mono ?_; rintro e' w6 ⟨rfl, rfl⟩)
        | (go_at_call 8; refine (LV.out w5 (hL.below B5)).mono ?_; rintro e' w7 ⟨rfl, b7⟩))
      go_ret
      exact ⟨rfl, Below.then B5 b7⟩
    · clear K3 R1 R2 T5
      go_wp2_with (first
        | (go_at_call 20; refine (KP.out _).mono ?_; rintro e' w6 ⟨rfl, rfl⟩)
        | (go_at_call 8; refine (LV.out w5 (hL.below B5)).mono ?_; rintro e' w7 ⟨rfl, b7⟩))
      go_ret
      exact ⟨rfl, Below.then B5 b7⟩
    · clear K3
      go_wp2_with (first
        | (refine wpList_load_g (by rfl) 41 _ rfl (w.heap.size + 1) 0 rfl (rv p) _ R1 Tryd.underlying41 rfl Tryd.iR11 ?_)
        | (refine wpList_load_g (by rfl) 41 _ rfl (w.heap.size + 1 + 1) 0 rfl (rv q) _ R2 Tryd.underlying41 rfl Tryd.iR11 ?_)
        | (go_at_call 19; refine (T5.out w5 B5).mono ?_; rintro e' w6 ⟨rfl, b6⟩)
        | (go_at_call 20; refine (KP.out _).mono ?_; rintro e' w7 ⟨rfl, rfl⟩)
        | (go_at_call 8; refine (LV.out w6 (hL.below (Below.then B5 b6))).mono ?_; rintro e' w8 ⟨rfl, b8⟩))
      go_ret
      exact ⟨rfl, Below.then (Below.then B5 b6) b8⟩
end Go.Proofs.YtcogjphoceaejaaDoor
