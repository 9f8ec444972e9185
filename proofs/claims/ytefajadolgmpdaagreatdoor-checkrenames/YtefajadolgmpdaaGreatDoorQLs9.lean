/-
  The reference's Like of two programs that are the same.
-/
import Derived.Test.YtefajadolgmpdaaGreatDoorQTw
import Derived.Deep.QuietTactic
import Derived.BigQuiet
import Derived.Laws.StructEq
import Derived.Deep.Cut
import Derived.StillTailTactics
namespace Go.Proofs.YtefajadolgmpdaaGreatDoor
open Go.RowKit Go.Lib Go.Shelf

theorem eqConstS (k : K) (d : Nat) (w : World) : (Op.equalIn (d + 2) 36 (.agg #[.bool k.num, .int .i64 k.n, str k.s]) (.agg #[.bool k.num, .int .i64 k.n, str k.s])).run Tryz.prog w = .ok true w := by
  rw [run_equalIn_struct w (d + 1) 36 _ _ (by kernel_rfl) (by kernel_rfl)]
  simp only [Program.fieldsOf, Tryz.underlying36, Op.eqFields]
  simp [part, Tryz.isAgg4, Tryz.isAgg3, Tryz.isAgg9, run_equalIn_bool' w d _ _ _ Tryz.underlying4, run_equalIn_int w d _ _ _ _ _ Tryz.underlying3, run_equalIn_string w d _ _ _ Tryz.underlying9]
theorem eqTermS (t : Tm) (w : World) : (Op.equalIn 10000 38 (tval t) (tval t)).run Tryz.prog w = .ok true w := by
  rw [run_equalIn_struct w 9999 38 _ _ (by kernel_rfl) (by kernel_rfl)]
  simp only [Program.fieldsOf, Tryz.underlying38, Op.eqFields]
  have hc := eqConstS t.k 9997 w
  simp [part, Tryz.isAgg9, Tryz.isAgg36, Tryz.sizeOf36, run_equalIn_string w 9998 _ _ _ Tryz.underlying9, hc]

theorem term_cells {w : World} {b o c : Nat} {ys : List Tm} (h : Row tK w (some ⟨b, o, none⟩) c ys) (k : Nat) (hk : k < ys.length) :
    w.cell? ⟨b, o + k * 4, none⟩ = some (str ys[k].v) ∧ w.cell? ⟨b, o + k * 4 + 1, none⟩ = some (.bool ys[k].k.num) ∧ w.cell? ⟨b, o + k * 4 + 2, none⟩ = some (.int .i64 ys[k].k.n) ∧ w.cell? ⟨b, o + k * 4 + 3, none⟩ = some (str ys[k].k.s) := by
  have hr := h.range k hk
  exact ⟨hr 0 _ rfl, hr 1 _ rfl, hr 2 _ rfl, hr 3 _ rfl⟩

set_option maxRecDepth 100000 in
set_option maxHeartbeats 2000000 in
theorem rtermsS (a a' : Option Addr) (c c' : Nat) (ys : List Tm) (w : World) (hx : Row tK w a c ys) (hy : Row tK w a' c' ys) :
    Calls Tryz.prog 47 #[.slice a ys.length c, .slice a' ys.length c'] w fun e w' => e = .returned (.bool true) ∧ Below w.heap.size w w' := by
  have mixed : Tryz.prog.follows .mixedOrders = true := by kernel_rfl
  have hf := hx.few
  have r1 := hx.room
  have r2 := hy.room
  go_enter Tryz.func47, Tryz.ntmps47
  go_wp2_with fail
  go_loopw [5] (fun v wr => ∃ k : Nat, v = .int .i64 (k : Int) ∧ k ≤ ys.length ∧ Below w.heap.size w wr) (fun v _ => ys.length - (intOf v).toNat)
  case atStart => exact ⟨0, rfl, Nat.zero_le _, Below.refl _ _⟩
  case round =>
    obtain ⟨k, rfl, hk, hb⟩ := hrel
    rcases Nat.lt_or_ge k ys.length with hlt | hge
    · have q2 : (k : Int) < (ys.length : Int) := by omega
      obtain ⟨P1, O1, rfl⟩ := hx.addr (by omega)
      obtain ⟨P2, O2, rfl⟩ := hy.addr (by omega)
      obtain ⟨a1, a2, a3, a4⟩ := term_cells (hx.below hb (Nat.le_refl _)) k hlt
      obtain ⟨d1, d2, d3, d4⟩ := term_cells (hy.below hb (Nat.le_refl _)) k hlt
      have E := eqTermS ys[k]
      generalize ys[k] = t at *
      obtain ⟨v, ⟨A, B, C⟩⟩ := t
      go_wp2_with fail
      go_quiet (fail)
      go_wp2_with fail
      exact ⟨⟨k + 1, by go_num, by omega, hb.trans ((Grew.drewN wr nq).below.mono hb.size)⟩, by simp [intOf]; omega⟩
    · have q2 : ¬ (k : Int) < (ys.length : Int) := by omega
      go_wp2_with fail
      go_ret
      exact ⟨rfl, hb⟩

theorem lit_cells {W : World} {V : Nat} {m p s m' p' : List UInt8} {n n' : Bool} {o o' : Int} {A : Option Addr} {ts : List Tm} {c : Nat} {T : TypeId} (h : W.heap[V]? = some (.cells (lv ⟨⟨m, ⟨n, o, p⟩⟩, s, A, c, ts, ⟨m', ⟨n', o', p'⟩⟩⟩).toArray T)) :
    W.cell? ⟨V, 0, none⟩ = some (str m) ∧ W.cell? ⟨V, 1, none⟩ = some (.bool n) ∧ W.cell? ⟨V, 2, none⟩ = some (.int .i64 o) ∧ W.cell? ⟨V, 3, none⟩ = some (str p) ∧ W.cell? ⟨V, 4, none⟩ = some (str s) ∧ W.cell? ⟨V, 5, none⟩ = some (.slice A ts.length c) ∧ W.cell? ⟨V, 6, none⟩ = some (str m') ∧ W.cell? ⟨V, 7, none⟩ = some (.bool n') ∧ W.cell? ⟨V, 8, none⟩ = some (.int .i64 o') ∧ W.cell? ⟨V, 9, none⟩ = some (str p') := by
  refine ⟨?_, ?_, ?_, ?_, ?_, ?_, ?_, ?_, ?_, ?_⟩ <;> (rw [heap_cell h]; rfl)

set_option maxRecDepth 100000 in
set_option maxHeartbeats 8000000 in
theorem rsameRuleS (x y : Rv) (w : World) (hx : Rv.Aw w x) (hy : Rv.Aw w y) (he : x.r = y.r) : Calls Tryz.prog 30 #[rval x, rval y] w fun e w' => e = .returned (.bool true) ∧ Below w.heap.size w w' := by
  obtain ⟨⟨v1, ⟨a1, b1, c1⟩⟩, p, ad, cap, ts, ⟨v2, ⟨a2, b2, c2⟩⟩, ba, bc, ls⟩ := x
  obtain ⟨t3, p', ad', cap', ts', t4, ba', bc', ls'⟩ := y
  simp only [Rv.r, Ru.mk.injEq] at he
  obtain ⟨rfl, rfl, rfl, rfl, hls⟩ := he
  obtain ⟨hx1, hx2, hx3⟩ := hx
  obtain ⟨hy1, hy2, hy3⟩ := hy
  simp only at hx1 hx2 hx3 hy1 hy2 hy3
  have hE := fun W (h : Below w.heap.size w W) => rtermsS ad ad' cap cap' ts W (hx1.below h (Nat.le_refl _)) (hy1.below h (Nat.le_refl _))
  have few1 := hx2.few; have few2 := hy2.few
  have q1 := fun W => eqTermS ⟨v1, ⟨a1, b1, c1⟩⟩ W
  have q2 := fun W => eqTermS ⟨v2, ⟨a2, b2, c2⟩⟩ W
  have hlen : ls.length = ls'.length := by have := congrArg List.length hls; simpa using this
  have hget : ∀ k (h1 : k < ls.length) (h2 : k < ls'.length), ls[k].l = ls'[k].l := fun k h1 h2 => by
    have h : (ls.map Lv.l)[k]'(by simpa using h1) = (ls'.map Lv.l)[k]'(by simpa using h2) := by simp only [hls]
    simpa using h
  have HG := hideP hget
  have G0 : ∀ o o' : Obj, Below w.heap.size w ((w.alloc o).alloc o') := fun o o' => Below.then (below_alloc _ _) (below_alloc _ _)
  have q0 : ((ls.length : Int) != (ls'.length : Int)) = false := by simp; omega
  have Hl := hideP hlen; clear hlen hls hget
  have H1 := below_heap (below_alloc _ (.cells #[str v1, .bool a1, .int .i64 b1, str c1, str p, .slice ad' ts.length cap', str v2, .bool a2, .int .i64 b2, str c2, .slice ba' ls'.length bc'] 42)) (heap_alloc_new w (.cells #[str v1, .bool a1, .int .i64 b1, str c1, str p, .slice ad ts.length cap, str v2, .bool a2, .int .i64 b2, str c2, .slice ba ls.length bc] 42))
  have H2 := heap_alloc_new (w.alloc (.cells #[str v1, .bool a1, .int .i64 b1, str c1, str p, .slice ad ts.length cap, str v2, .bool a2, .int .i64 b2, str c2, .slice ba ls.length bc] 42)) (.cells #[str v1, .bool a1, .int .i64 b1, str c1, str p, .slice ad' ts.length cap', str v2, .bool a2, .int .i64 b2, str c2, .slice ba' ls'.length bc'] 42)
  rw [show (w.alloc (.cells #[str v1, .bool a1, .int .i64 b1, str c1, str p, .slice ad ts.length cap, str v2, .bool a2, .int .i64 b2, str c2, .slice ba ls.length bc] 42)).heap.size = w.heap.size + 1 by simp] at H2
  go_enter Tryz.func30, Tryz.ntmps30
  go_wp2_with fail
  refine (hE _ (G0 _ _)).mono ?_; rintro e w1 ⟨rfl, g1⟩
  have J1 := below_heap g1 H1
  have J2 := below_heap g1 H2
  have G1 := Below.then (G0 _ _) g1
  clear hE g1 hx1 hy1 H1 H2 q1 q2
  have d10 := heap_cell J1 10; have f10 := heap_cell J2 10
  simp at d10 f10
  go_wp2_with fail
  go_loopw [5, 6, 7] (fun v _ _ wr => ∃ k : Nat, v = .int .i64 (k : Int) ∧ k ≤ ls.length ∧ Below w1.heap.size w1 wr) (fun v _ _ _ => ls.length - (intOf v).toNat)
  case atStart => exact ⟨0, rfl, by omega, Below.refl _ _⟩
  case round =>
    obtain ⟨k, rfl, hk, hg1⟩ := hrel
    have hg := G1.trans (hg1.mono G1.size)
    have K1 := below_heap hg1 J1
    have K2 := below_heap hg1 J2
    clear d10 f10
    have d10 := heap_cell K1 10
    simp at d10
    by_cases hlt : k < ls.length
    · have q2 : (k : Int) < (ls.length : Int) := by omega
      have hlt' : k < ls'.length := by have := Hl.out; omega
      have q3 : (k : Int) < (ls'.length : Int) := by omega
      obtain ⟨P1, O1, rfl⟩ := hx2.addr (Nat.lt_of_le_of_lt (Nat.zero_le _) hlt)
      obtain ⟨P2, O2, rfl⟩ := hy2.addr (Nat.lt_of_le_of_lt (Nat.zero_le _) hlt')
      have r1 : wr.rangeAt P1 (O1 + k * 10) (lv (ls[k]'hlt)) := (hx2.below hg (Nat.le_refl _)).range k hlt
      have r2 : ∀ W, Below w.heap.size w W → W.rangeAt P2 (O2 + k * 10) (lv (ls'[k]'hlt')) := fun W h => (hy2.below h (Nat.le_refl _)).range k hlt'
      have aP := hx3 _ (List.getElem_mem hlt)
      have aQ := hy3 _ (List.getElem_mem hlt')
      have heq := HG.out k hlt hlt'
      generalize (ls[k]'hlt) = P at *
      generalize (ls'[k]'hlt') = Q at *
      obtain ⟨⟨m1, ⟨n1, o1, p1⟩⟩, pr, aa, ca, us, ⟨m2, ⟨n2, o2, p2⟩⟩⟩ := P
      obtain ⟨tb, pr', aa', ca', us', ta⟩ := Q
      simp only [Lv.l, Lt.mk.injEq] at heq
      obtain ⟨rfl, rfl, rfl, rfl⟩ := heq
      have aP : Row tK w aa ca us := aP
      have aQ : Row tK w aa' ca' us := aQ
      have hT := fun W (h : Below w.heap.size w W) => rtermsS aa aa' ca ca' us W (aP.below h (Nat.le_refl _)) (aQ.below h (Nat.le_refl _))
      have q4 := fun W => eqTermS ⟨m1, ⟨n1, o1, p1⟩⟩ W
      have q5 := fun W => eqTermS ⟨m2, ⟨n2, o2, p2⟩⟩ W
      have z0 := hg.size
      have hF : ∀ (W X : World) (o : Obj), But W.heap.size (W.alloc o) X → Below W.heap.size W X := fun W X o d => (below_alloc W o).trans (d.lower (Nat.le_refl _) (by simp))
      have iN : (Tryz.prog.info? 54).map (·.size) = some 10 := by kernel_rfl
      have iP : (Tryz.prog.info? 54).map (·.size) = some (lv ⟨⟨m1, ⟨n1, o1, p1⟩⟩, pr, aa, ca, us, ⟨m2, ⟨n2, o2, p2⟩⟩⟩).length := iN
      have iQ : (Tryz.prog.info? 54).map (·.size) = some (lv ⟨⟨m1, ⟨n1, o1, p1⟩⟩, pr, aa', ca', us, ⟨m2, ⟨n2, o2, p2⟩⟩⟩).length := iN
      clear hx2 hx3 hy2 hy3 HG
      go_upto_region 8 with (first
        | (refine wpList_load_mid rfl 54 _ rfl P1 (O1 + k * 10) rfl (lv ⟨⟨m1, ⟨n1, o1, p1⟩⟩, pr, aa, ca, us, ⟨m2, ⟨n2, o2, p2⟩⟩⟩) _ r1 Tryz.underlying54 rfl iP ?_)
        | (refine wpList_store_all rfl 54 _ _ rfl wr.heap.size 10 _ 54 (lv ⟨⟨m1, ⟨n1, o1, p1⟩⟩, pr, aa, ca, us, ⟨m2, ⟨n2, o2, p2⟩⟩⟩) rfl rfl (heap_alloc_new wr _) rfl rfl iN rfl ?_; intro w2 H2 d2; have B2 := hF wr w2 _ d2; have r2' := r2 w2 (hg.trans (B2.mono z0)); have f10 : w2.cell? ⟨w.heap.size + 1, 10, none⟩ = some (.slice (some ⟨P2, O2, none⟩) ls'.length bc') := (by rw [heap_cell (below_heap B2 K2)]; rfl))
        | (refine wpList_load_mid rfl 54 _ rfl P2 (O2 + k * 10) rfl (lv ⟨⟨m1, ⟨n1, o1, p1⟩⟩, pr, aa', ca', us, ⟨m2, ⟨n2, o2, p2⟩⟩⟩) _ r2' Tryz.underlying54 rfl iQ ?_)
        | (refine wpList_store_all rfl 54 _ _ rfl w2.heap.size 10 _ 54 (lv ⟨⟨m1, ⟨n1, o1, p1⟩⟩, pr, aa', ca', us, ⟨m2, ⟨n2, o2, p2⟩⟩⟩) rfl rfl (heap_alloc_new w2 _) rfl rfl iN rfl ?_; intro w3 H3 d3; have B3 := hF w2 w3 _ d3; have H2' := below_heap B3 H2))
      obtain ⟨x0, x1, x2, x3, x4, x5, x6, x7, x8, x9⟩ := lit_cells H2'
      obtain ⟨y0, y1, y2, y3, y4, y5, y6, y7, y8, y9⟩ := lit_cells H3
      go_wp2_with fail
      have BB := hg.trans ((Below.then B2 B3).mono z0)
      refine (hT w3 BB).mono ?_; rintro e w4 ⟨rfl, g4⟩
      have z1 := hg1.size
      have BL : Below w1.heap.size w1 w4 := hg1.trans ((Below.then (Below.then B2 B3) g4).mono z1)
      go_wp2_with fail
      exact ⟨⟨k + 1, by go_num, by omega, BL⟩, by simp [intOf]; omega⟩
    · have q2 : ¬ (k : Int) < (ls.length : Int) := by omega
      go_wp2_with fail
      go_ret
      exact ⟨rfl, hg⟩

/-- a whole record read, in a region that draws its order and only reads up to there -/
theorem wpStill_load_mid {P : Program} {ops : Array Oper} {rest : List Oper} {op : Oper} {a : Act} {w : World} {Q : Act → Prop} (hgd : op.guard = none) (ty : TypeId) (x : Operand) (ho : op.op = .load ty x)
    (b o : Nat) (hx : a.eval x = .pointer (some ⟨b, o, none⟩)) (cs : List Value) (d : TypeDesc) (hc : w.rangeAt b o cs)
    (hu : P.underlying ty = some d) (hd : d.isRow = true) (hi : (P.info? ty).map (·.size) = some cs.length)
    (h : wpStill P ops w Q rest (a.put op.dst (.agg cs.toArray))) : wpStill P ops w Q (op :: rest) a := by
  unfold wpStill
  rw [if_pos (by unfold Region.wanted; rw [hgd])]
  unfold Oper.still execOp
  simp only [ho, hx, Instr.loadAt, Instr.sureAddr, Sem.run_bind, Sem.run_pure, Result.andThen_ok, run_loadVar_mid w b o ty cs d hc hu hd hi]
  exact ⟨rfl, h⟩

set_option maxRecDepth 100000 in
set_option maxHeartbeats 4000000 in
theorem rlikeS (a a' : Option Addr) (c c' : Nat) (xs ys : List Rv) (w : World) (hx : Row rK w a c xs) (hy : Row rK w a' c' ys) (ax : ∀ x ∈ xs, Rv.Aw w x) (ay : ∀ y ∈ ys, Rv.Aw w y) (he : xs.map Rv.r = ys.map Rv.r) :
    Calls Tryz.prog 14 #[.slice a xs.length c, .slice a' ys.length c'] w fun e w' => e = .returned (.bool true) ∧ Below w.heap.size w w' := by
  have mixed : Tryz.prog.follows .mixedOrders = true := by kernel_rfl
  have hC := fun (p q : Rv) (W : World) (hp : Rv.Aw W p) (hq : Rv.Aw W q) (e : p.r = q.r) => rsameRuleS p q W hp hq e
  have b1 := hx.few; have b2 := hy.few
  have iN : (Tryz.prog.info? 42).map (·.size) = some 11 := by kernel_rfl
  have hl : xs.length = ys.length := by have := congrArg List.length he; simpa using this
  have hget : ∀ k (h1 : k < xs.length) (h2 : k < ys.length), xs[k].r = ys[k].r := fun k h1 h2 => by
    have h : (xs.map Rv.r)[k]'(by simpa using h1) = (ys.map Rv.r)[k]'(by simpa using h2) := by simp only [he]
    simpa using h
  have HG := hideP hget
  have q0 : ((xs.length : Int) != (ys.length : Int)) = false := by simp; omega
  have Hl := hideP hl; clear hl hget he
  go_enter Tryz.func14, Tryz.ntmps14
  go_wp2_with fail
  go_loopw [5] (fun v wr => ∃ k : Nat, v = .int .i64 (k : Int) ∧ k ≤ xs.length ∧ Below w.heap.size w wr) (fun v _ => xs.length - (intOf v).toNat)
  case atStart => exact ⟨0, rfl, by omega, Below.refl _ _⟩
  case round =>
    obtain ⟨k, rfl, hk, hg⟩ := hrel
    by_cases hlt : k < xs.length
    · have q2 : (k : Int) < (xs.length : Int) := by omega
      have hlt' : k < ys.length := by have := Hl.out; omega
      have q3 : (k : Int) < (ys.length : Int) := by omega
      obtain ⟨P1, O1, rfl⟩ := hx.addr (Nat.lt_of_le_of_lt (Nat.zero_le _) hlt)
      obtain ⟨P2, O2, rfl⟩ := hy.addr (Nat.lt_of_le_of_lt (Nat.zero_le _) hlt')
      have hgD : Below w.heap.size w wr.drew := hg.drew
      have r1 : wr.drew.rangeAt P1 (O1 + k * 11) (rv (xs[k]'hlt)) := (hx.below hgD (Nat.le_refl _)).range k hlt
      have r2 : wr.drew.rangeAt P2 (O2 + k * 11) (rv (ys[k]'hlt')) := (hy.below hgD (Nat.le_refl _)).range k hlt'
      have r1' : wr.rangeAt P1 (O1 + k * 11) (rv (xs[k]'hlt)) := (hx.below hg (Nat.le_refl _)).range k hlt
      have r2' : wr.rangeAt P2 (O2 + k * 11) (rv (ys[k]'hlt')) := (hy.below hg (Nat.le_refl _)).range k hlt'
      have aP : Rv.Aw wr.drew (xs[k]'hlt) := (ax _ (List.getElem_mem hlt)).below hgD (Nat.le_refl _)
      have aQ : Rv.Aw wr.drew (ys[k]'hlt') := (ay _ (List.getElem_mem hlt')).below hgD (Nat.le_refl _)
      have hn := hideP (hC _ _ wr.drew aP aQ (HG.out k hlt hlt'))
      generalize (xs[k]'hlt) = p at *
      generalize (ys[k]'hlt') = q at *
      have iP : (Tryz.prog.info? 42).map (·.size) = some (rv p).length := iN
      have iQ : (Tryz.prog.info? 42).map (·.size) = some (rv q).length := iN
      go_wp2_with fail
      refine wp_region_still_tail 8 (by kernel_rfl) (by kernel_rfl) ?_
      simp only [List.take_succ_cons, List.take_zero, List.drop_succ_cons, List.drop_zero]
      iterate 3 still_step
      first | refine wpStill_load_mid rfl 42 _ rfl P1 (O1 + k * 11) rfl (rv p) _ r1' Tryz.underlying42 rfl iP ?_ | refine wpStill_load_mid rfl 42 _ rfl P1 (O1 + k * 11) rfl (rv p) _ r1 Tryz.underlying42 rfl iP ?_
      iterate 3 still_step
      first | refine wpStill_load_mid rfl 42 _ rfl P2 (O2 + k * 11) rfl (rv q) _ r2' Tryz.underlying42 rfl iQ ?_ | refine wpStill_load_mid rfl 42 _ rfl P2 (O2 + k * 11) rfl (rv q) _ r2 Tryz.underlying42 rfl iQ ?_
      refine wpStill_nil ?_
      go_wp2_with fail
      refine hn.out.mono ?_; rintro e w4 ⟨rfl, g4⟩
      go_wp2_with fail
      exact ⟨⟨k + 1, by go_num, by omega, hgD.trans (g4.mono hgD.size)⟩, by simp [intOf]; omega⟩
    · have q2 : ¬ (k : Int) < (xs.length : Int) := by omega
      go_wp2_with fail
      go_ret
      exact ⟨rfl, hg⟩
theorem rlike_rws {w : World} {a a' : Option Addr} {c c' : Nat} {xs ys : List Rv} (h : Rws w a c xs) (h' : Rws w a' c' ys) (he : xs.map Rv.r = ys.map Rv.r) : Calls Tryz.prog 14 #[.slice a xs.length c, .slice a' ys.length c'] w fun e w' => e = .returned (.bool true) ∧ Below w.heap.size w w' :=
  rlikeS a a' c c' xs ys w h.row h'.row h.each h'.each he
end Go.Proofs.YtefajadolgmpdaaGreatDoor
