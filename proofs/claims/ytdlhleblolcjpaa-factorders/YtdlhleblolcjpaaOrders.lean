/-
  The statement FactOrders, walked.
-/
import Derived.Test.YtdlhleblolcjpaaLive
import Derived.Test.YtdlhleblolcjpaaQb
import Derived.Deep.RegionWith
import Derived.Laws.StructEq
import Derived.Deep.DeepCutAuto
namespace Go.Proofs.Ytdlhleblolcjpaa
open Go.RowKit Go.Sort

theorem heap_alloc3 (w : World) (o1 o2 o3 : Obj) : (((w.alloc o1).alloc o2).alloc o3).heap[w.heap.size]? = some o1 ∧ (((w.alloc o1).alloc o2).alloc o3).heap[w.heap.size + 1]? = some o2 ∧ (((w.alloc o1).alloc o2).alloc o3).heap[w.heap.size + 1 + 1]? = some o3 := by
  obtain ⟨h1, h2⟩ := heap_alloc2 w o1 o2
  refine ⟨(Below.heap_alloc _ _ _ (by simp; omega)).trans h1, (Below.heap_alloc _ _ _ (by simp)).trans h2, ?_⟩
  have := heap_alloc_new ((w.alloc o1).alloc o2) o3
  rwa [show ((w.alloc o1).alloc o2).heap.size = w.heap.size + 1 + 1 by simp] at this

/-- '==' of two constants -/
theorem eqK (x y : K) (w : World) : (binOp .eql 23 (kval x) (kval y)).run Try.prog w = .ok (.bool (decide (cK x y = 0))) w := by
  have u3 := Try.underlying3
  have a3 := Try.isAgg3
  have z3 := Try.sizeOf3
  have u4 := Try.underlying4
  have a4 := Try.isAgg4
  have z4 := Try.sizeOf4
  have u9 := Try.underlying9
  have a9 := Try.isAgg9
  have z9 := Try.sizeOf9
  have hS : Try.prog.underlying 23 = some (.struct (Try.prog.fieldsOf 23)) := by kernel_rfl
  have hp : Try.prog.stoodInHeld 23 = false := by kernel_rfl
  have hd : decide (cK x y = 0) = (decide (x.num = y.num) && decide (x.n = y.n) && decide (x.s = y.s)) := by
    obtain ⟨a, b, c⟩ := x; obtain ⟨a', b', c'⟩ := y
    rw [Bool.eq_iff_iff]; simp [cK_zero, and_assoc]
  rw [hd]; clear hd
  obtain ⟨x1, x2, x3⟩ := x; obtain ⟨y1, y2, y3⟩ := y
  rw [run_eql_struct, show (10000 : Nat) = 9999 + 1 from rfl, run_equalIn_agg w 9999 23 _ _ hS hp]
  simp only [Program.fieldsOf, Try.underlying23]
  go_simp
  by_cases h1 : x1 = y1 <;> by_cases h2 : x2 = y2 <;> by_cases h3 : x3 = y3 <;> simp [h1, h2, h3]

set_option maxRecDepth 100000 in
set_option maxHeartbeats 4000000 in
theorem factOrders_walk (x y z : Fv) (w : World) (hx : Fv.At w x) (hy : Fv.At w y) (hz : Fv.At w z) : Calls Try.prog 5 #[x.val, y.val, z.val] w fun e w' => e = .returned (.bool true) ∧ Below w.heap.size w w' := by
  have mixed : Try.prog.follows .mixedOrders = true := by kernel_rfl
  have hV := fun (W : World) => live_at W
  have hQ := fun (p q : K) (W : World) => eqK p q W
  have f1 := pre_cF.anti x.f y.f; have f2 := pre_cF.low x.f y.f; have f3 := pre_cF.high x.f y.f
  have f4 := pre_cF.trans x.f y.f z.f
  have f5 := cF_zero x.f y.f
  obtain ⟨x1, x2, x3, xa, xc, xk⟩ := x; obtain ⟨y1, y2, y3, ya, yc, yk⟩ := y; obtain ⟨z1, z2, z3, za, zc, zk⟩ := z
  go_enter Try.func5, Try.ntmps5
  go_wp2_with fail
  obtain ⟨w2, hw2⟩ : ∃ w2, w2 = ((w.alloc (.cells #[str x1, str x2, str x3, .slice xa xk.length xc] 30)).alloc (.cells #[str y1, str y2, str y3, .slice ya yk.length yc] 30)).alloc (.cells #[str z1, str z2, str z3, .slice za zk.length zc] 30) := ⟨_, rfl⟩
  have B2 : Below w.heap.size w w2 := by rw [hw2]; exact Below.then (Below.then (below_alloc _ _) (below_alloc _ _)) (below_alloc _ _)
  have H := heap_alloc3 w (.cells #[str x1, str x2, str x3, .slice xa xk.length xc] 30) (.cells #[str y1, str y2, str y3, .slice ya yk.length yc] 30) (.cells #[str z1, str z2, str z3, .slice za zk.length zc] 30)
  rw [← hw2] at H ⊢
  clear hw2
  have a0 := heap_cell H.1 0; have a1 := heap_cell H.1 1; have a2 := heap_cell H.1 2; have a3 := heap_cell H.1 3
  have d0 := heap_cell H.2.1 0; have d1 := heap_cell H.2.1 1; have d2 := heap_cell H.2.1 2; have d3 := heap_cell H.2.1 3
  have g0 := heap_cell H.2.2 0; have g1 := heap_cell H.2.2 1; have g2 := heap_cell H.2.2 2; have g3 := heap_cell H.2.2 3
  simp at a0 a1 a2 a3 d0 d1 d2 d3 g0 g1 g2 g3
  have A0 := cell_kept a0; have A1 := cell_kept a1; have A2 := cell_kept a2; have A3 := cell_kept a3
  have D0 := cell_kept d0; have D1 := cell_kept d1; have D2 := cell_kept d2; have D3 := cell_kept d3
  have G0 := cell_kept g0; have G1 := cell_kept g1; have G2 := cell_kept g2; have G3 := cell_kept g3
  clear a0 a1 a2 a3 d0 d1 d2 d3 g0 g1 g2 g3 H
  have hX : ∀ p : BelowBy w2, Fv.At p.w ⟨x1, x2, x3, xa, xc, xk⟩ := fun p => hx.below (Below.then B2 p.h) (Nat.le_refl _)
  have hY : ∀ p : BelowBy w2, Fv.At p.w ⟨y1, y2, y3, ya, yc, yk⟩ := fun p => hy.below (Below.then B2 p.h) (Nat.le_refl _)
  have hZ : ∀ p : BelowBy w2, Fv.At p.w ⟨z1, z2, z3, za, zc, zk⟩ := fun p => hz.below (Below.then B2 p.h) (Nat.le_refl _)
  have hxy := fun p : BelowBy w2 => order_at ⟨x1, x2, x3, xa, xc, xk⟩ ⟨y1, y2, y3, ya, yc, yk⟩ p.w (hX p) (hY p)
  have hyx := fun p : BelowBy w2 => order_at ⟨y1, y2, y3, ya, yc, yk⟩ ⟨x1, x2, x3, xa, xc, xk⟩ p.w (hY p) (hX p)
  have hxx := fun p : BelowBy w2 => order_at ⟨x1, x2, x3, xa, xc, xk⟩ ⟨x1, x2, x3, xa, xc, xk⟩ p.w (hX p) (hX p)
  have hyz := fun p : BelowBy w2 => order_at ⟨y1, y2, y3, ya, yc, yk⟩ ⟨z1, z2, z3, za, zc, zk⟩ p.w (hY p) (hZ p)
  have hxz := fun p : BelowBy w2 => order_at ⟨x1, x2, x3, xa, xc, xk⟩ ⟨z1, z2, z3, za, zc, zk⟩ p.w (hX p) (hZ p)
  simp only [cF_self] at hxx
  generalize hr1 : cF (Fv.f ⟨x1, x2, x3, xa, xc, xk⟩) (Fv.f ⟨y1, y2, y3, ya, yc, yk⟩) = r1 at *
  generalize cF (Fv.f ⟨y1, y2, y3, ya, yc, yk⟩) (Fv.f ⟨x1, x2, x3, xa, xc, xk⟩) = r2 at *
  generalize cF (Fv.f ⟨y1, y2, y3, ya, yc, yk⟩) (Fv.f ⟨z1, z2, z3, za, zc, zk⟩) = r3 at *
  generalize cF (Fv.f ⟨x1, x2, x3, xa, xc, xk⟩) (Fv.f ⟨z1, z2, z3, za, zc, zk⟩) = r5 at *
  obtain rfl : r2 = - r1 := by omega
  have n1 : IntKind.i64.wrap r1 = r1 := by simp [IntKind.wrap, IntKind.bits, IntKind.signed]; omega
  have F4 := hideP f4; have F5 := hideP f5; have Hr1 := hideP hr1; clear hr1
  clear f1 f2 f3 f4 f5 hz hZ
  haveI : Inhabited (BelowBy w2) := ⟨⟨w2, Below.refl _ _⟩⟩
  have h3 : (¬ r1 ≤ 0) ∨ (r1 ≤ 0 ∧ ¬ r3 ≤ 0) ∨ (r1 ≤ 0 ∧ r3 ≤ 0 ∧ ¬ 0 < r5) := by
    by_cases c1 : r1 ≤ 0
    · by_cases c3 : r3 ≤ 0
      · have := F4.out c1 c3
        exact .inr (.inr ⟨c1, c3, by omega⟩)
      · exact .inr (.inl ⟨c1, c3⟩)
    · exact .inl c1
  have H3 := hideP h3; clear h3 F4
  go_cut [40] (fun v wc => v = .bool false ∧ Below w2.heap.size w2 wc)
  case first =>
    rcases H3.out with c1 | ⟨c1, c3⟩ | ⟨c1, c3, c5⟩
    all_goals
      refine wp_region_quiet_below (by assumption) (by kernel_rfl) ?_
      repeat (quiet_step (first
        | (go_at_call_of 16 #[Value.agg #[str x1, str x2, str x3, Value.slice xa xk.length xc], Value.agg #[str y1, str y2, str y3, Value.slice ya yk.length yc]]; refine Calls.below_of_grew (hxy _))
        | (go_at_call_of 16 #[Value.agg #[str y1, str y2, str y3, Value.slice ya yk.length yc], Value.agg #[str x1, str x2, str x3, Value.slice xa xk.length xc]]; refine Calls.below_of_grew (hyx _))
        | (go_at_call_of 16 #[Value.agg #[str x1, str x2, str x3, Value.slice xa xk.length xc], Value.agg #[str x1, str x2, str x3, Value.slice xa xk.length xc]]; refine Calls.below_of_grew (hxx _))
        | (go_at_call_of 16 #[Value.agg #[str y1, str y2, str y3, Value.slice ya yk.length yc], Value.agg #[str z1, str z2, str z3, Value.slice za zk.length zc]]; refine Calls.below_of_grew (hyz _))
        | (go_at_call_of 16 #[Value.agg #[str x1, str x2, str x3, Value.slice xa xk.length xc], Value.agg #[str z1, str z2, str z3, Value.slice za zk.length zc]]; refine Calls.below_of_grew (hxz _))))
      refine wpQuiet_nil ?_
      intro _ hw'
      obtain ⟨⟨w3, hb3⟩, rfl⟩ := hw'
      go_wp2_with fail
      go_meet
      exact ⟨rfl, hb3⟩
  case rest =>
    obtain ⟨rfl, hb3⟩ := hcut
    have a0 := A0 ⟨wc, hb3⟩; have a1 := A1 ⟨wc, hb3⟩; have a2 := A2 ⟨wc, hb3⟩; have a3 := A3 ⟨wc, hb3⟩
    have d0 := D0 ⟨wc, hb3⟩; have d1 := D1 ⟨wc, hb3⟩; have d2 := D2 ⟨wc, hb3⟩; have d3 := D3 ⟨wc, hb3⟩
    have hxw := hX ⟨wc, hb3⟩; have hyw := hY ⟨wc, hb3⟩
    simp only at a0 a1 a2 a3 d0 d1 d2 d3 hxw hyw
    have hB3 := Below.then B2 hb3
    clear A0 A1 A2 A3 D0 D1 D2 D3 G0 G1 G2 G3 hX hY hyx hxx hyz hxz hxy H3 B2 hb3 n1 this
    go_upto_region 3 with fail
    go_cut [7] (fun v wd => ∃ b : Bool, v = .bool b ∧ wd = wc ∧ Hid (b = true ↔ (x1 = y1 ∧ x2 = y2 ∧ x3 = y3 ∧ xk.length = yk.length)))
    case first =>
      cases e1 : (x1 == y1) <;> cases e2 : (x2 == y2) <;> cases e3 : (x3 == y3) <;> cases e4 : ((xk.length : Int) == (yk.length : Int))
      all_goals
        go_wp2_with fail
        go_meet
        refine ⟨_, rfl, rfl, ?_⟩
        show _ ↔ _
        rw [show (xk.length = yk.length) ↔ ((xk.length : Int) = (yk.length : Int)) by omega]
        simp_all
    case rest =>
      obtain ⟨b0, rfl, rfl, hb0⟩ := hcut
      have few := ArgsAt.few hxw
      have hex : ∀ (W : World) (hW : Below wc.heap.size wc W), Calls Try.prog 16 #[Value.agg #[str x1, str x2, str x3, Value.slice xa xk.length xc], Value.agg #[str y1, str y2, str y3, Value.slice ya yk.length yc]] W fun e w' => e = .returned (.int .i64 r1) ∧ Grew W w' := fun W hW => by
        have := order_at ⟨x1, x2, x3, xa, xc, xk⟩ ⟨y1, y2, y3, ya, yc, yk⟩ W (hxw.below hW (Nat.le_refl _)) (hyw.below hW (Nat.le_refl _))
        rwa [Hr1.out] at this
      have hend : Hid (∀ k, k ≤ xk.length → ¬ k < xk.length → (x1 = y1 ∧ x2 = y2 ∧ x3 = y3 ∧ xk.length = yk.length) → Even xk yk k → (r1 == 0) = true) := fun k hk1 hk2 ⟨h1, h2, h3, h4⟩ hev => by
        have : Fv.f ⟨x1, x2, x3, xa, xc, xk⟩ = Fv.f ⟨y1, y2, y3, ya, yc, yk⟩ := by
          have hk : xk = yk := (cL_zero cK_zero xk yk).1 (cL_even cK xk yk h4 fun j hjx hjy => hev j hjx hjy (by omega))
          simp only [Fv.f, h1, h2, h3, hk]
        rw [beq_iff_eq]; exact F5.out.2 this
      have hnot : Hid (Fv.f ⟨x1, x2, x3, xa, xc, xk⟩ ≠ Fv.f ⟨y1, y2, y3, ya, yc, yk⟩ → (r1 == 0) = false) := fun h => by
        rw [beq_eq_false_iff_ne]; exact fun h' => h (F5.out.1 h')
      have hne : Hid (∀ k (hx : k < xk.length) (hy : k < yk.length), cK xk[k] yk[k] ≠ 0 → Fv.f ⟨x1, x2, x3, xa, xc, xk⟩ ≠ Fv.f ⟨y1, y2, y3, ya, yc, yk⟩) := fun k hkx hky h he => by
        simp only [Fv.f, F.mk.injEq] at he
        obtain ⟨_, _, _, rfl⟩ := he
        exact h (pre_cK.refl _)
      have hst : Hid (b0 = false → Fv.f ⟨x1, x2, x3, xa, xc, xk⟩ ≠ Fv.f ⟨y1, y2, y3, ya, yc, yk⟩) := fun h he => by
        simp only [Fv.f, F.mk.injEq] at he
        have := hb0.out.2 ⟨he.1, he.2.1, he.2.2.1, by rw [he.2.2.2]⟩
        rw [h] at this; cases this
      have HX := hideP hxw; have HY := hideP hyw
      clear F5 hxw hyw
      go_wp2_with fail
      go_loopw [7, 8] (fun v7 v8 wr => ∃ (k : Nat) (b : Bool), v7 = .bool b ∧ v8 = .int .i64 (k : Int) ∧ k ≤ xk.length ∧ Hid (b = true → (x1 = y1 ∧ x2 = y2 ∧ x3 = y3 ∧ xk.length = yk.length) ∧ Even xk yk k) ∧ Hid (b = false → Fv.f ⟨x1, x2, x3, xa, xc, xk⟩ ≠ Fv.f ⟨y1, y2, y3, ya, yc, yk⟩) ∧ Below wc.heap.size wc wr) (fun _ v8 _ => xk.length - (intOf v8).toNat)
      case atStart => exact ⟨0, b0, rfl, rfl, by omega, fun h => ⟨hb0.out.1 h, fun j _ _ hj => absurd hj (by omega)⟩, hst, Below.refl _ _⟩
      case round =>
        obtain ⟨k, b, rfl, rfl, hk, hyes, hno, hbr⟩ := hrel
        have p0 := (hbr.cell (p := ⟨w.heap.size, 0, none⟩) (cell_block a0)).trans a0
        have p1 := (hbr.cell (p := ⟨w.heap.size, 1, none⟩) (cell_block a1)).trans a1
        have p2 := (hbr.cell (p := ⟨w.heap.size, 2, none⟩) (cell_block a2)).trans a2
        have p3 := (hbr.cell (p := ⟨w.heap.size, 3, none⟩) (cell_block a3)).trans a3
        have s0 := (hbr.cell (p := ⟨w.heap.size + 1, 0, none⟩) (cell_block d0)).trans d0
        have s1 := (hbr.cell (p := ⟨w.heap.size + 1, 1, none⟩) (cell_block d1)).trans d1
        have s2 := (hbr.cell (p := ⟨w.heap.size + 1, 2, none⟩) (cell_block d2)).trans d2
        have s3 := (hbr.cell (p := ⟨w.heap.size + 1, 3, none⟩) (cell_block d3)).trans d3
        have hex' := hex wr hbr
        clear a0 a1 a2 a3 d0 d1 d2 d3 hex
        cases b with
        | false =>
          have t1 : (r1 == 0) = false := hnot.out (hno.out rfl)
          go_wp2_with fail
          refine hex'.mono ?_; rintro e w5 ⟨rfl, hg5⟩
          go_wp2_with fail
          refine (hV _).mono ?_; rintro e w6 ⟨rfl, hb6⟩
          go_wp2_with fail
          go_ret
          exact ⟨rfl, Below.then (Below.then (Below.then hB3 hbr) hg5.below) hb6⟩
        | true =>
          by_cases hlt : k < xk.length
          · have q1 : (k : Int) < (xk.length : Int) := by omega
            obtain ⟨hS, hev⟩ := hyes.out rfl
            have hlt' : k < yk.length := by have := hS.2.2.2; omega
            have q2 : (k : Int) < (yk.length : Int) := by omega
            have hxr := ArgsAt.below HX.out hbr (Nat.le_refl _)
            have hyr := ArgsAt.below HY.out hbr (Nat.le_refl _)
            obtain ⟨P1, O1, hP1⟩ := ArgsAt.addr hxr (Nat.lt_of_le_of_lt (Nat.zero_le _) hlt)
            obtain ⟨P2, O2, hP2⟩ := ArgsAt.addr hyr (Nat.lt_of_le_of_lt (Nat.zero_le _) hlt')
            simp only at hP1 hP2
            subst hP1 hP2
            obtain ⟨m1, m2, m3⟩ := hxr.get k hlt
            obtain ⟨n1, n2, n3⟩ := hyr.get k hlt'
            have hev' : Hid (decide (cK (xk[k]'hlt) (yk[k]'hlt') = 0) = true → Even xk yk (k + 1)) := fun h j hjx hjy hj => by
              by_cases e : j = k
              · subst e; simpa using h
              · exact hev j hjx hjy (by omega)
            have hno' : Hid (decide (cK (xk[k]'hlt) (yk[k]'hlt') = 0) = false → Fv.f ⟨x1, x2, x3, some ⟨P1, O1, none⟩, xc, xk⟩ ≠ Fv.f ⟨y1, y2, y3, some ⟨P2, O2, none⟩, yc, yk⟩) := fun h => hne.out k hlt hlt' (by simpa using h)
            have hq := hQ (xk[k]'hlt) (yk[k]'hlt')
            have HS := hideP hS
            simp only at m1 m2 m3 n1 n2 n3
            generalize (xk[k]'hlt) = pk at *
            generalize (yk[k]'hlt') = qk at *
            generalize decide (cK pk qk = 0) = bb at *
            clear hQ hS hev hyes hno hnot hne hend hst
            go_wp2_with fail
            go_quiet (fail)
            go_wp2_with fail
            exact ⟨⟨k + 1, bb, rfl, by simp, by omega, fun h => ⟨HS.out, hev'.out h⟩, hno', Below.then hbr (Grew.drewN wr _).below⟩, by simp [intOf]; omega⟩
          · have q1 : ¬ (k : Int) < (xk.length : Int) := by omega
            obtain ⟨hS, hev⟩ := hyes.out rfl
            have t1 : (r1 == 0) = true := hend.out k hk hlt hS hev
            clear hS hev
            go_wp2_with fail
            refine hex'.mono ?_; rintro e w5 ⟨rfl, hg5⟩
            go_wp2_with fail
            refine (hV _).mono ?_; rintro e w6 ⟨rfl, hb6⟩
            go_wp2_with fail
            go_ret
            exact ⟨rfl, Below.then (Below.then (Below.then hB3 hbr) hg5.below) hb6⟩

end Go.Proofs.Ytdlhleblolcjpaa
