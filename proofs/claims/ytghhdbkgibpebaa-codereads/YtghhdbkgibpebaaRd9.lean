/-
  What the program's reader does: rules.
-/
import Derived.Deep.LoopGhost
import Derived.Test.YtghhdbkgibpebaaRd7
import Derived.Test.YtghhdbkgibpebaaMay3
import Derived.Test.YtghhdbkgibpebaaMn
import Derived.Test.YtghhdbkgibpebaaBs
namespace Go.Proofs.Ytghhdbkgibpebaa
open Go.RowKit Go.Sort

/-- a whole block read, where a guard says yes -/
theorem wpList_load_want {P : Program} {ops : Array Oper} {rest : List Oper} {op : Oper} {a : Act} {w : World} {Q : Exit → Act → World → Prop} (hw : Region.wanted op (yielded ops a.tmps) = true) (ty : TypeId) (x : Operand) (ho : op.op = .load ty x)
    (V n : Nat) (T : TypeId) (vs : List Value) (d : TypeDesc) (hx : a.eval x = .pointer (some ⟨V, 0, none⟩)) (hH : w.heap[V]? = some (.cells vs.toArray T)) (hn : vs.length = n)
    (hu : P.underlying ty = some d) (hd : d.isRow = true) (hi : (P.info? ty).map (·.size) = some n)
    (h : wpList P ops Q rest (a.put op.dst (.agg vs.toArray)) w) : wpList P ops Q (op :: rest) a w :=
  wpList_step fun K hK => by
    rw [if_pos hw]
    exact wp_load_mid ty x ho V 0 hx vs d (by have := World.rangeAt_of_block hH 0 vs.length; simpa using this) hu hd (by rw [hi, hn]) (hK _ _ h)
/-- a rule whose lists lie in blocks of their types -/
structure Rv.AtT (w : World) (x : Rv) : Prop where
  args : RowT tK 51 w x.a x.cap x.args
  body : RowT lK 80 w x.ba x.bcap x.body
  each : ∀ l ∈ x.body, Lv.AtT w l
theorem Rv.AtT.at_ {w : World} {x : Rv} (h : Rv.AtT w x) : Rv.At w x := ⟨h.args.row, h.body.row, fun l hl => RowT.row (h.each l hl)⟩
theorem Rv.AtT.safe2 {w w' : World} {x : Rv} (h : Rv.AtT w x) (s : Safe 51 w w') (s' : Safe 80 w w') : Rv.AtT w' x := ⟨h.args.safe s, h.body.safe s', fun l hl => Lv.AtT.safe' (h.each l hl) s⟩
theorem Rv.AtT.safe {w w' : World} {x : Rv} (h : Rv.AtT w x) (s : ∀ ty, (ty ≠ 69 ∧ ty ≠ 55) → Safe ty w w') : Rv.AtT w' x := h.safe2 (s _ ⟨by decide, by decide⟩) (s _ ⟨by decide, by decide⟩)

/-- no mark yet -/
def Clean (st : St) : Prop := ∀ x h, st = .ok (x, h) → h = false
theorem clean_noF {α : Type} {p : Pr α} {st : St} (h : Clean st) : Clean (stp p noF st) := fun x g hs => by
  rcases st with e | ⟨y, g'⟩
  · cases hs
  · cases hj : p y with
    | error e => rw [stp_no hj] at hs; cases hs
    | ok r => obtain ⟨v, j⟩ := r; rw [stp_ok hj] at hs; cases hs; simp [noF, h y g' rfl]
theorem rule2_err {l : List UInt8} {st : St} {e : Int} (h : stp (pRule l) (Rr.flag Rt.hollow) st = .error e) : stp (pRule2 l) noF st = .error e := by
  rcases st with e' | ⟨y, g⟩
  · exact h
  · cases hj : pRule l y with
    | error e' => rw [stp_no hj] at h; rw [stp_no (p := pRule2 l) (by rw [pRule2, Pr.bnd_err hj])]; exact h
    | ok r => obtain ⟨v, j⟩ := r; rw [stp_ok hj] at h; cases h
theorem rule2_ok {l : List UInt8} {st : St} {x : Int} {g : Bool} (h : stp (pRule l) (Rr.flag Rt.hollow) st = .ok (x, g)) (hc : Clean st) :
    ∃ u, Got (pRule l) st u ∧ g = u.flag Rt.hollow ∧ (u.bad = true → stp (pRule2 l) noF st = .error 50) ∧ (u.bad = false → stp (pRule2 l) noF st = .ok (x, false)) ∧ ∀ v, Got (pRule2 l) st v → v = u := by
  rcases st with e' | ⟨y, g'⟩
  · cases h
  · cases hj : pRule l y with
    | error e' => rw [stp_no hj] at h; cases h
    | ok r =>
      obtain ⟨u, j⟩ := r
      rw [stp_ok hj, hc y g' rfl] at h
      cases h
      refine ⟨u, ⟨y, g', _, rfl, hj⟩, by simp, fun hb => ?_, fun hb => ?_, fun v hv => ?_⟩
      · refine stp_no ?_
        rw [pRule2, Pr.bnd_ok hj, hb]; rfl
      · rw [stp_ok (p := pRule2 l) (v := u) (by rw [pRule2, Pr.bnd_ok hj, hb]; rfl), hc y g' rfl]; rfl
      · obtain ⟨w, h1, h2⟩ := got_bnd noF hv
        obtain ⟨i, hi⟩ := got_ok h1
        rw [hj] at hi; cases hi
        obtain ⟨_, _, _, _, h4⟩ := h2
        cases hb : u.bad
        · rw [hb] at h4; exact (ret_inv h4).1.symm
        · rw [hb] at h4; cases h4

set_option maxRecDepth 100000 in
set_option maxHeartbeats 4000000 in
theorem rule_r (R : Nat) (a : Option Addr) (c : Nat) (l : List UInt8) (st : St) (w : World) (h : Rd 69 w R a c l st) (hp : Pos l st) (hcl : Clean st) :
    Calls Try.prog 49 #[ptr R] w fun e w' => ∃ x : Rv, e = .returned (rval x) ∧ Rv.AtT w' x ∧ (∀ v, Got (pRule2 l) st v → Rv.r x = Rr.r v) ∧ Rd 69 w' R a c l (stp (pRule2 l) noF st) ∧ But R w w' := by
  have hT := fun W st (h : Rd 69 W R a c l st) => text_r R a c l st W h
  have hM := fun W st (h : Rd 69 W R a c l st) (hp : Pos l st) => term_r R a c l st W h hp
  have hL := fun W st (h : Rd 69 W R a c l st) => readListTerm_r 48 (pTerm l) Rt.hollow Rt.B (fun _ => True) R a c l st W h (by omega) (fun W s h hp _ => term_r R a c l s W h hp) trivial (fun _ _ => trivial) (snd_term l)
  have hN := fun W st (h : Rd 69 W R a c l st) => readListLiteral_r 5 (pLit l) (Rl.flag Rt.hollow) Rl.B (fun _ => True) R a c l st W h (by omega) (fun W s h hp _ => literal_r R a c l s W h hp) trivial (fun _ _ => trivial) (snd_lit l)
  have hY := fun x W (h : Rv.AtT W x) => mayLay_at x W h.at_
  have hlt := h.lt
  have B0 := Below.then (below_alloc w (.cells #[.string .empty, .bool false, .int .i64 0, .string .empty, .string .empty, .slice none 0 0, .string .empty, .bool false, .int .i64 0, .string .empty, .slice none 0 0] 55)) (below_alloc _ (.cells #[.string .empty, .bool false, .int .i64 0, .string .empty, .string .empty, .slice none 0 0, .string .empty, .bool false, .int .i64 0, .string .empty, .slice none 0 0] 55))
  have H0 := below_heap (below_alloc _ (.cells #[.string .empty, .bool false, .int .i64 0, .string .empty, .string .empty, .slice none 0 0, .string .empty, .bool false, .int .i64 0, .string .empty, .slice none 0 0] 55)) (heap_alloc_new w (.cells #[.string .empty, .bool false, .int .i64 0, .string .empty, .string .empty, .slice none 0 0, .string .empty, .bool false, .int .i64 0, .string .empty, .slice none 0 0] 55))
  have V0 := heap_alloc_new (w.alloc (.cells #[.string .empty, .bool false, .int .i64 0, .string .empty, .string .empty, .slice none 0 0, .string .empty, .bool false, .int .i64 0, .string .empty, .slice none 0 0] 55)) (.cells #[.string .empty, .bool false, .int .i64 0, .string .empty, .string .empty, .slice none 0 0, .string .empty, .bool false, .int .i64 0, .string .empty, .slice none 0 0] 55)
  rw [show (w.alloc (.cells #[.string .empty, .bool false, .int .i64 0, .string .empty, .string .empty, .slice none 0 0, .string .empty, .bool false, .int .i64 0, .string .empty, .slice none 0 0] 55)).heap.size = w.heap.size + 1 by simp] at V0
  have R0 := h.below B0
  have b0 : But R w _ := But.of_below B0
  have iN : (Try.prog.info? 55).map (·.size) = some 11 := by kernel_rfl
  go_enter Try.func49, Try.ntmps49
  go_wp2_with fail
  have P0 := hp
  refine (hM _ _ R0 P0).mono ?_; rintro e w1 ⟨x1, rfl, k1, R1, c1⟩
  have V1 := c1.heap (by omega) V0
  have H1 := c1.heap (by omega) H0
  have B1 := b0.trans c1
  have K1 := hideP k1
  have pp1 : Pos l (stp (pTerm l) Rt.hollow (st)) := pos_snd (f := Rt.hollow) (snd_term l) P0
  generalize hS : w.heap.size = S at *
  have HS := hideP hS; clear hS
  clear V0 H0 b0 k1 c1
  go_wp2_with (refine wpList_store_rec rfl 51 _ _ rfl (S + 1) 0 11 4 55 (tv x1) #[str x1.v, .bool x1.k.num, .int .i64 x1.k.n, str x1.k.s, .string .empty, .slice none 0 0, .string .empty, .bool false, .int .i64 0, .string .empty, .slice none 0 0] rfl rfl V1 rfl rfl (by decide) (by kernel_rfl) rfl rfl ?_; intro z1 U1 d1)
  have G1 := d1.heap (by omega) H1
  have Q1 := R1.but d1 (by omega)
  have D1 := B1.fresh d1 (by rw [HS.out]; exact Nat.le_succ _)
  clear V1 H1 R1 B1 d1 
  have R1 := Q1; clear Q1
  have ps1 := pp1; clear pp1
  refine (hT _ _ R1).mono ?_; rintro e w2 ⟨x2, rfl, k2, R2, c2⟩
  have V2 := c2.heap (by omega) U1
  have H2 := c2.heap (by omega) G1
  have B2 := D1.trans c2
  have K2 := hideP k2
  have pp2 : Pos l (stp (pText l) noF (stp (pTerm l) Rt.hollow (st))) := pos_text l _
  clear U1 G1 R1 D1 k2 c2
  go_wp2_with (refine wpList_store_cel rfl 9 _ _ rfl (S + 1) 4 11 55 (str x2) #[str x1.v, .bool x1.k.num, .int .i64 x1.k.n, str x1.k.s, str x2, .slice none 0 0, .string .empty, .bool false, .int .i64 0, .string .empty, .slice none 0 0] rfl rfl V2 rfl (by decide) (by kernel_rfl) rfl rfl ?_; intro z2 U2 d2)
  have G2 := d2.heap (by omega) H2
  have Q2 := R2.but d2 (by omega)
  have D2 := B2.fresh d2 (by rw [HS.out]; exact Nat.le_succ _)
  clear V2 H2 R2 B2 d2 
  have R2 := Q2; clear Q2
  have ps2 := pp2; clear pp2
  refine (hL _ _ R2).mono ?_; rintro e w3 ⟨a3, c3, ks, rfl, row3, k3, R3, c3d⟩
  have V3 := c3d.heap (by omega) U2
  have H3 := c3d.heap (by omega) G2
  have B3 := D2.trans c3d
  have K3 := hideP k3
  have pp3 : Pos l (stp (pList l 48 (pTerm l)) (anyF Rt.hollow) (stp (pText l) noF (stp (pTerm l) Rt.hollow (st)))) := pos_list (snd_term l)
  clear U2 G2 R2 D2 k3 c3d
  go_wp2_with (refine wpList_store_cel rfl 52 _ _ rfl (S + 1) 5 11 55 (.slice a3 ks.length c3) #[str x1.v, .bool x1.k.num, .int .i64 x1.k.n, str x1.k.s, str x2, .slice a3 ks.length c3, .string .empty, .bool false, .int .i64 0, .string .empty, .slice none 0 0] rfl rfl V3 rfl (by decide) (by kernel_rfl) rfl rfl ?_; intro z3 U3 d3)
  have G3 := d3.heap (by omega) H3
  have Q3 := R3.but d3 (by omega)
  have D3 := B3.fresh d3 (by rw [HS.out]; exact Nat.le_succ _)
  have row3' := row3.safe (Safe.but d3 V3 (by decide))
  clear V3 H3 R3 B3 d3 row3
  have R3 := Q3; clear Q3
  have row3 := row3'; clear row3'
  have ps3 := pp3; clear pp3
  have P3 := ps3
  refine (hM _ _ R3 P3).mono ?_; rintro e w4 ⟨x4, rfl, k4, R4, c4⟩
  have V4 := c4.heap (by omega) U3
  have H4 := c4.heap (by omega) G3
  have row3' := row3.safe (R3.safe c4 (by decide))
  have B4 := D3.trans c4
  have K4 := hideP k4
  have pp4 : Pos l (stp (pTerm l) Rt.hollow (stp (pList l 48 (pTerm l)) (anyF Rt.hollow) (stp (pText l) noF (stp (pTerm l) Rt.hollow (st))))) := pos_snd (f := Rt.hollow) (snd_term l) P3
  clear U3 G3 R3 D3 k4 c4 row3
  have row3 := row3'; clear row3'
  go_wp2_with (refine wpList_store_rec rfl 51 _ _ rfl (S + 1) 6 11 4 55 (tv x4) #[str x1.v, .bool x1.k.num, .int .i64 x1.k.n, str x1.k.s, str x2, .slice a3 ks.length c3, str x4.v, .bool x4.k.num, .int .i64 x4.k.n, str x4.k.s, .slice none 0 0] rfl rfl V4 rfl rfl (by decide) (by kernel_rfl) rfl rfl ?_; intro z4 U4 d4)
  have G4 := d4.heap (by omega) H4
  have Q4 := R4.but d4 (by omega)
  have D4 := B4.fresh d4 (by rw [HS.out]; exact Nat.le_succ _)
  have row3' := row3.safe (Safe.but d4 V4 (by decide))
  clear V4 H4 R4 B4 d4 row3
  have R4 := Q4; clear Q4
  have row3 := row3'; clear row3'
  have ps4 := pp4; clear pp4
  refine (hN _ _ R4).mono ?_; rintro e w5 ⟨a5, c5, ls, rfl, row5, each5, k5, R5, c5d⟩
  have V5 := c5d.heap (by omega) U4
  have H5 := c5d.heap (by omega) G4
  have row3' := row3.safe (R4.safe c5d (by decide))
  have B5 := D4.trans c5d
  have K5 := hideP k5
  have pp5 : Pos l (stp (pList l 5 (pLit l)) (anyF (Rl.flag Rt.hollow)) (stp (pTerm l) Rt.hollow (stp (pList l 48 (pTerm l)) (anyF Rt.hollow) (stp (pText l) noF (stp (pTerm l) Rt.hollow (st)))))) := pos_list (snd_lit l)
  clear U4 G4 R4 D4 k5 c5d row3
  have row3 := row3'; clear row3'
  obtain ⟨x6, e6, g6, Y5, y6⟩ := R5.obj
  have hST := st_rule l Rt.hollow st
  have hs5 : stp (pRule l) (Rr.flag Rt.hollow) st = stOf x6 e6 g6 := by rw [hST]; exact y6
  have hGv : ∀ u, Got (pRule l) st u → Rv.r ⟨x1, x2, a3, c3, ks, x4, a5, c5, ls⟩ = Rr.r u := fun u hu => by
    obtain ⟨h1, h2, h3, h4, h5⟩ := got_rule Rt.hollow hu
    have f1 := K1.out _ h1; have f2 := K2.out _ h2; have f3 := K3.out _ h3; have f4 := K4.out _ h4; have f5 := K5.out _ h5
    rw [Rv.r, Rr.r, f1, f2, f3, f4, f5]
  have HGv := hideP hGv
  have Hs5 := hideP hs5; have Hcl := hideP hcl
  have hx6 := fun (W : World) (d : But (S + 1) w5 W) => (⟨by rw [heap_cell (d.heap (by omega) Y5)]; rfl, by rw [heap_cell (d.heap (by omega) Y5)]; rfl⟩ : W.cell? ⟨R, 2, none⟩ = some (.int .i64 e6) ∧ W.cell? ⟨R, 3, none⟩ = some (.bool g6))
  have hpost : ∀ W, But (S + 1) w5 W → But R w W ∧ Rv.AtT W ⟨x1, x2, a3, c3, ks, x4, a5, c5, ls⟩ ∧ Rd 69 W R a c l (stOf x6 e6 g6) := fun W d => ⟨B5.fresh d (by rw [HS.out]; exact Nat.le_succ _), ⟨row3.safe (Safe.but d V5 (by decide)), row5.safe (Safe.but d V5 (by decide)), fun y hy => (each5 y hy).safe' (Safe.but d V5 (by decide))⟩, by rw [← y6]; exact R5.but d (by omega)⟩
  have hwS : w.heap.size ≤ S := by rw [HS.out]; exact Nat.le_refl _
  clear hGv hs5 hST K1 K2 K3 K4 K5 R5 B5 row3 row5 each5 hT hM hL hN y6 pp5 hcl
  by_cases he : e6 = 0
  · subst he
    have hq : ((0 : Int) == 0) = true := rfl
    cases g6
    · go_wp2_with (first
        | (refine wpList_store_cel rfl 53 _ _ rfl (S + 1) 10 11 55 (.slice a5 ls.length c5) #[str x1.v, .bool x1.k.num, .int .i64 x1.k.n, str x1.k.s, str x2, .slice a3 ks.length c3, str x4.v, .bool x4.k.num, .int .i64 x4.k.n, str x4.k.s, .slice a5 ls.length c5] rfl rfl V5 rfl (by decide) (by kernel_rfl) rfl rfl ?_; intro z5 U5 d5; obtain ⟨y2, y3⟩ := hx6 z5 d5)
        | (refine wpList_load_want (by rfl) 55 _ rfl (S + 1) 11 55 (rv ⟨x1, x2, a3, c3, ks, x4, a5, c5, ls⟩) _ rfl U5 rfl Try.underlying55 rfl iN ?_))
      obtain ⟨P1, P2, P3⟩ := hpost z5 d5
      have HG5 := d5.heap (show S ≠ S + 1 by omega) H5
      have YG5 := d5.heap (show R ≠ S + 1 by omega) Y5
      refine (hY ⟨x1, x2, a3, c3, ks, x4, a5, c5, ls⟩ z5 P2).mono ?_; rintro e w7 ⟨rfl, b7⟩
      have P1' := P1.below b7
      have P2' := P2.safe2 (Safe.below b7) (Safe.below b7)
      have P3' := P3.below b7
      have U7 := below_heap b7 U5
      have H7 := below_heap b7 HG5
      have Y7 := below_heap b7 YG5
      clear P1 P2 P3 U5 HG5 YG5 hx6 hpost V5 H5 Y5 d5 b7 hY y2 y3
      cases hm : mayR (Rv.r ⟨x1, x2, a3, c3, ks, x4, a5, c5, ls⟩)
      · go_wp2_with (first
          | (refine wpList_store_cel rfl 30 _ _ rfl R 2 4 69 (.int .i64 50) #[.slice a l.length c, .int .i64 x6, .int .i64 50, .bool false] rfl rfl Y7 rfl (by decide) (by kernel_rfl) rfl rfl ?_; intro w8 Y8 b8; have U8 := b8.heap (show S + 1 ≠ R by omega) U7; have H8 := b8.heap (show S ≠ R by omega) H7)
          | (refine wpList_load_all rfl 55 _ rfl (S + 1) 11 55 (rv ⟨x1, x2, a3, c3, ks, x4, a5, c5, ls⟩) _ rfl U8 rfl Try.underlying55 rfl iN ?_)
          | (refine wpList_store_all rfl 55 _ _ rfl S 11 _ 55 (rv ⟨x1, x2, a3, c3, ks, x4, a5, c5, ls⟩) rfl rfl H8 rfl rfl iN rfl ?_; intro wf Hf bf))
        have P2'' := P2'.safe2 (P3'.safe b8 (by decide)) (P3'.safe b8 (by decide))
        obtain ⟨u, hu, hg, hb, hok, hv⟩ := rule2_ok Hs5.out Hcl.out
        have hbad : u.bad = true := by unfold Rr.bad; rw [← HGv.out u hu, hm]; simp
        refine bodyPost_ret (results_cell (b := S) rfl rfl Hf Try.underlying55 rfl (by kernel_rfl)) rfl ⟨⟨x1, x2, a3, c3, ks, x4, a5, c5, ls⟩, rfl, P2''.safe2 (Safe.but bf H8 (by decide)) (Safe.but bf H8 (by decide)), fun v hv' => ?_, ?_, (P1'.trans b8).fresh bf hwS⟩
        · exact (got_no (hb hbad) hv').elim
        · rw [hb hbad]
          exact (P3'.set b8 x6 50 false Y8 rfl (fun _ _ h => by cases h)).but bf (by omega)
      · go_wp2_with (first
          | (refine wpList_load_all rfl 55 _ rfl (S + 1) 11 55 (rv ⟨x1, x2, a3, c3, ks, x4, a5, c5, ls⟩) _ rfl U7 rfl Try.underlying55 rfl iN ?_)
          | (refine wpList_store_all rfl 55 _ _ rfl S 11 _ 55 (rv ⟨x1, x2, a3, c3, ks, x4, a5, c5, ls⟩) rfl rfl H7 rfl rfl iN rfl ?_; intro wf Hf bf))
        obtain ⟨u, hu, hg, hb, hok, hv⟩ := rule2_ok Hs5.out Hcl.out
        have hbad : u.bad = false := by unfold Rr.bad; rw [← HGv.out u hu, hm, ← hg]; rfl
        refine bodyPost_ret (results_cell (b := S) rfl rfl Hf Try.underlying55 rfl (by kernel_rfl)) rfl ⟨⟨x1, x2, a3, c3, ks, x4, a5, c5, ls⟩, rfl, P2'.safe2 (Safe.but bf H7 (by decide)) (Safe.but bf H7 (by decide)), fun v hv' => ?_, ?_, P1'.fresh bf hwS⟩
        · rw [hv v hv']; exact HGv.out u hu
        · rw [hok hbad]
          exact P3'.but bf (by omega)
    · go_wp2_with (first
        | (refine wpList_store_cel rfl 53 _ _ rfl (S + 1) 10 11 55 (.slice a5 ls.length c5) #[str x1.v, .bool x1.k.num, .int .i64 x1.k.n, str x1.k.s, str x2, .slice a3 ks.length c3, str x4.v, .bool x4.k.num, .int .i64 x4.k.n, str x4.k.s, .slice a5 ls.length c5] rfl rfl V5 rfl (by decide) (by kernel_rfl) rfl rfl ?_; intro z5 U5 d5; obtain ⟨y2, y3⟩ := hx6 z5 d5; have YG5 := d5.heap (show R ≠ S + 1 by omega) Y5)
        | (refine wpList_store_cel rfl 30 _ _ rfl R 2 4 69 (.int .i64 50) #[.slice a l.length c, .int .i64 x6, .int .i64 50, .bool true] rfl rfl YG5 rfl (by decide) (by kernel_rfl) rfl rfl ?_; intro w8 Y8 b8; have U8 := b8.heap (show S + 1 ≠ R by omega) U5; have H8 := b8.heap (show S ≠ R by omega) (d5.heap (show S ≠ S + 1 by omega) H5))
        | (refine wpList_load_all rfl 55 _ rfl (S + 1) 11 55 (rv ⟨x1, x2, a3, c3, ks, x4, a5, c5, ls⟩) _ rfl U8 rfl Try.underlying55 rfl iN ?_)
        | (refine wpList_store_all rfl 55 _ _ rfl S 11 _ 55 (rv ⟨x1, x2, a3, c3, ks, x4, a5, c5, ls⟩) rfl rfl H8 rfl rfl iN rfl ?_; intro wf Hf bf))
      obtain ⟨P1, P2, P3⟩ := hpost z5 d5
      have P2'' := P2.safe2 (P3.safe b8 (by decide)) (P3.safe b8 (by decide))
      obtain ⟨u, hu, hg, hb, hok, hv⟩ := rule2_ok Hs5.out Hcl.out
      have hbad : u.bad = true := by unfold Rr.bad; rw [← hg]; rfl
      refine bodyPost_ret (results_cell (b := S) rfl rfl Hf Try.underlying55 rfl (by kernel_rfl)) rfl ⟨⟨x1, x2, a3, c3, ks, x4, a5, c5, ls⟩, rfl, P2''.safe2 (Safe.but bf H8 (by decide)) (Safe.but bf H8 (by decide)), fun v hv' => ?_, ?_, (P1.trans b8).fresh bf hwS⟩
      · exact (got_no (hb hbad) hv').elim
      · rw [hb hbad]
        exact (P3.set b8 x6 50 true Y8 rfl (fun _ _ h => by cases h)).but bf (by omega)
  · have hq : (e6 == 0) = false := by simpa using he
    have hse : stp (pRule l) (Rr.flag Rt.hollow) st = .error e6 := by rw [Hs5.out]; unfold stOf; rw [if_neg he]
    have Hse := hideP hse
    have hso : stOf x6 e6 g6 = .error e6 := by unfold stOf; rw [if_neg he]
    have Hso := hideP hso
    clear hse he hso
    go_wp2_with (first
      | (refine wpList_store_cel rfl 53 _ _ rfl (S + 1) 10 11 55 (.slice a5 ls.length c5) #[str x1.v, .bool x1.k.num, .int .i64 x1.k.n, str x1.k.s, str x2, .slice a3 ks.length c3, str x4.v, .bool x4.k.num, .int .i64 x4.k.n, str x4.k.s, .slice a5 ls.length c5] rfl rfl V5 rfl (by decide) (by kernel_rfl) rfl rfl ?_; intro z5 U5 d5; obtain ⟨y2, y3⟩ := hx6 z5 d5)
      | (refine wpList_load_all rfl 55 _ rfl (S + 1) 11 55 (rv ⟨x1, x2, a3, c3, ks, x4, a5, c5, ls⟩) _ rfl U5 rfl Try.underlying55 rfl iN ?_)
      | (refine wpList_store_all rfl 55 _ _ rfl S 11 _ 55 (rv ⟨x1, x2, a3, c3, ks, x4, a5, c5, ls⟩) rfl rfl (d5.heap (show S ≠ S + 1 by omega) H5) rfl rfl iN rfl ?_; intro wf Hf bf))
    obtain ⟨P1, P2, P3⟩ := hpost z5 d5
    have H8 := d5.heap (show S ≠ S + 1 by omega) H5
    refine bodyPost_ret (results_cell (b := S) rfl rfl Hf Try.underlying55 rfl (by kernel_rfl)) rfl ⟨⟨x1, x2, a3, c3, ks, x4, a5, c5, ls⟩, rfl, P2.safe2 (Safe.but bf H8 (by decide)) (Safe.but bf H8 (by decide)), fun v hv' => ?_, ?_, P1.fresh bf hwS⟩
    · exact (got_no (rule2_err Hse.out) hv').elim
    · rw [rule2_err Hse.out]
      rw [Hso.out] at P3
      exact P3.but bf (by omega)
end Go.Proofs.Ytghhdbkgibpebaa

/-
  The program reads a list.
-/
namespace Go.Proofs.Ytghhdbkgibpebaa
open Go.RowKit Go.Sort


set_option maxRecDepth 100000 in
set_option maxHeartbeats 4000000 in
theorem readListRule_r (m : Int) (p : Pr Rr) (f : Rr → Bool) (B : Rr → List UInt8) (J : St → Prop) (R : Nat) (a : Option Addr) (c : Nat) (l : List UInt8) (st : St) (w : World) (h : Rd 69 w R a c l st) (hm : m ≤ 1000000)
    (hE : ∀ W s, Rd 69 W R a c l s → Pos l s → J s → Calls Try.prog 49 #[ptr R] W fun e w' => ∃ t : Rv, e = .returned (rval t) ∧ Rv.AtT w' t ∧ (∀ v, Got p s v → Rv.r t = Rr.r v) ∧ Rd 69 w' R a c l (stp p f s) ∧ But R W w')
    (hJ0 : J (stp (pCount l m) noF st)) (hJ1 : ∀ s, J s → J (stp p f s)) (hB : Snd l p B) :
    Calls Try.prog 48 #[ptr R, .int .i64 m, .func (.func 49) #[ptr R] #[]] w fun e w' => ∃ a' c' ys, e = .returned (.slice a' (List.length ys) c') ∧ RowT rK 55 w' a' c' ys ∧ (∀ y ∈ ys, Rv.AtT w' y) ∧ (∀ vs, Got (pList l m p) st vs → List.map Rv.r ys = List.map Rr.r vs) ∧ Rd 69 w' R a c l (stp (pList l m p) (anyF f) st) ∧ But R w w' := by
  have eg : ∀ args w, (callFunc 49 args).run Try.prog w = .ok (.enter 49 args) w := enters_of Try.func49 (by kernel_rfl) rfl
  have hC := count_r m R a c l st w h
  have hlt := h.lt
  have iN : (Try.prog.info? 55).map (·.size) = some 11 := by kernel_rfl
  have iZ : (Try.prog.info? 55).map (fun i => (i.zero, i.size, i.bytes)) = some (some (.agg #[.string .empty, .bool false, .int .i64 0, .string .empty, .string .empty, .slice none 0 0, .string .empty, .bool false, .int .i64 0, .string .empty, .slice none 0 0]), rK.k, 160) := by kernel_rfl
  go_enter Try.func48, Try.ntmps48
  go_wp2_with fail
  refine hC.mono ?_; rintro e w1 ⟨s, rfl, ⟨hs2, hs3⟩, R1, b1⟩
  have hs0 : 0 ≤ s ∧ s ≤ 1000000 := by
    rcases got_em (pCount l m) st with ⟨n, hn⟩ | ⟨hn, _⟩
    · have := count_le hn; rw [hs2 n hn]; omega
    · rw [hs3 hn]; omega
  obtain ⟨N, rfl⟩ := Int.eq_ofNat_of_zero_le hs0.1
  have hN : N ≤ 1000000 := by omega
  have hP1 := pos_count l m st
  have HL := hideP (fun F => st_list (F := F) (p := p) (N : Int) hs2)
  have HG := hideP (fun vs => got_list (p := p) (vs := vs) (N : Int) hs2)
  simp only [Int.toNat_natCast] at HL HG
  clear hC hs2 hs3 hs0 h hm
  generalize stp (pCount l m) noF st = s1 at *
  go_wp2_with fail
  go_loopw [7, 8, 12] (fun v7 _ v12 wr => ∃ (k : Nat) (Z : List Rv), v12 = .int .i64 (k : Int) ∧ k ≤ N ∧ Hid (Z.length = k) ∧ wr.ownsRow w.heap.size 55 rK.k v7 Z.length (Z.flatMap rK.enc) ∧ (∀ z ∈ Z, Rv.AtT wr z) ∧ But R w wr ∧ Rd 69 wr R a c l (stp (pMany p k) (anyF f) s1) ∧ Pos l (stp (pMany p k) (anyF f) s1) ∧ J (stp (pMany p k) (anyF f) s1) ∧ Hid (∀ xs, Got (pMany p k) s1 xs → List.map Rv.r Z = List.map Rr.r xs)) (fun _ _ v12 _ => N - (intOf v12).toNat)
  case atStart =>
    refine ⟨0, [], rfl, by omega, rfl, ⟨rfl, .inl ⟨rfl, rfl⟩⟩, fun _ h => by simp at h, b1, ?_, ?_, ?_, fun xs hx => ?_⟩
    · rw [stp_many_zero]; exact R1
    · rw [stp_many_zero]; exact hP1
    · rw [stp_many_zero]; exact hJ0
    · obtain ⟨_, _, _, _, hj⟩ := hx
      have := (ret_inv hj).1
      subst this; rfl
  case round =>
    obtain ⟨k, Z, rfl, hk, hZ, hown, hat, hbt, hRd, hPo, hJ, hgot⟩ := hrel
    by_cases hlt' : k < N
    · have q2 : (k : Int) < (N : Int) := by omega
      have hE1 := hE wr _ hRd hPo hJ
      have hst := (stp_many_succ p f k s1).symm
      have hP2 := pos_snd (f := f) hB hPo
      have hJ2 := hJ1 _ hJ
      have hg2 : Hid (∀ t, (∀ v, Got p (stp (pMany p k) (anyF f) s1) v → Rv.r t = Rr.r v) → ∀ xs, Got (pMany p (k + 1)) s1 xs → List.map Rv.r (Z ++ [t]) = List.map Rr.r xs) := fun t ht xs hx => by
        obtain ⟨ys, x, h1, h2, rfl⟩ := got_many_succ (f := f) hx
        rw [List.map_append, List.map_append, hgot.out ys h1]; simp only [List.map_cons, List.map_nil, ht x h2]
      rw [hst] at hE1 hP2 hJ2
      have Hst := hideP hst
      clear hJ hPo hst hE
      generalize stp (pMany p k) (anyF f) s1 = sk at *
      go_wp2_with fail
      refine hE1.mono ?_; rintro e w2 ⟨t, rfl, at2, hgt, R2, b2⟩
      obtain ⟨x2, er, g2, Q2, q3⟩ := R2.obj
      have Hgt := hideP hgt; clear hgt hE1
      have hlt2 := R2.lt
      have hB2 : But R w w2 := hbt.trans b2
      obtain ⟨_, _, _, Q1, _⟩ := hRd.obj
      have S2 : Safe 55 wr w2 := Safe.but b2 Q1 (by decide)
      have hown2 := ownsRow_keep hown S2
      have hat2 : ∀ z ∈ Z, Rv.AtT w2 z := fun z hz => Rv.AtT.safe (hat z hz) (fun ty hn => Safe.but b2 Q1 hn.1)
      clear hown hat hRd Q1 S2 b2 hbt
      have hQ : ∀ W, But w2.heap.size (w2.alloc (.cells #[.string .empty, .bool false, .int .i64 0, .string .empty, .string .empty, .slice none 0 0, .string .empty, .bool false, .int .i64 0, .string .empty, .slice none 0 0] 55)) W → W.cell? ⟨R, 2, none⟩ = some (.int .i64 er) := fun W hW => by
        rw [heap_cell (hW.heap (by omega) (below_heap (below_alloc w2 _) Q2))]; rfl
      have hF : ∀ W, But w2.heap.size (w2.alloc (.cells #[.string .empty, .bool false, .int .i64 0, .string .empty, .string .empty, .slice none 0 0, .string .empty, .bool false, .int .i64 0, .string .empty, .slice none 0 0] 55)) W → Below w2.heap.size w2 W := fun W hW => (below_alloc w2 _).trans (hW.lower (Nat.le_refl _) (by simp))
      have oK : (rv t).all (·.oneCell') = true := rfl
      have nK : (rv t).length = 11 := rfl
      by_cases he : er = 0
      · have hq : (er != 0) = false := by simp [he]
        have Hq3 := hideP q3; have He := hideP he; clear q3 he
        go_wp2_with (first
          | (refine wpList_store_all rfl 55 _ _ rfl w2.heap.size 11 #[.string .empty, .bool false, .int .i64 0, .string .empty, .string .empty, .slice none 0 0, .string .empty, .bool false, .int .i64 0, .string .empty, .slice none 0 0] 55 (rv t) rfl rfl (heap_alloc_new w2 _) rfl nK iN oK ?_; intro w3 V3 b3; have d3 := hQ w3 b3; have B3 := hF w3 b3)
          | (refine wpList_load_all rfl 55 _ rfl w2.heap.size 11 55 (rv t) _ rfl V3 nK Try.underlying55 rfl iN ?_)
          | (refine wpList_build_one rfl 38 55 _ rfl (rv t) _ 11 160 rfl nK (by decide) (by decide) Try.underlying38 iZ ?_)
          | (at_builtin; refine wpList_append_rec rK _ rfl _ _ 38 55 rfl _ 160 Try.underlying38 iZ rfl (by decide) w.heap.size u7 Z [t] (some ⟨w3.heap.size, 0, none⟩) 1 1 rfl (ownsRow_keep hown2 (Safe.below (Below.then B3 (below_alloc w3 _)))) rfl rfl (row_new rK w3 _ 55 t rfl) (Nat.le_trans hB2.size (Nat.le_trans B3.size (below_alloc w3 _).size)) (by have := hZ.out; simp only [List.length_cons, List.length_nil]; omega) ?_; intro v4 w4 o4 g4))
        have B34 := Below.then B3 (below_alloc w3 (.cells (rv t).toArray 55))
        have hown3 := ownsRow_keep hown2 (Safe.below (ty := 55) B34)
        have BG : Below w.heap.size w3 w4 := by
          have h1 : Below w.heap.size w3 (w3.alloc (.cells (rv t).toArray 55)) := (below_alloc w3 _).mono (Nat.le_trans hB2.size B3.size)
          refine h1.trans ((Below.refl _ _).grown g4 (Nat.le_trans hB2.size B34.size) fun j hj => ?_)
          rcases hown3.2 with ⟨h0, _⟩ | ⟨gg, cap, cur, hv, hb, _⟩
          · rw [h0] at hj; cases hj
          · rw [hv] at hj; cases hj; exact hb
        have hneR : some R ≠ u7.ownBlock := fun e => by
          rcases hown3.2 with ⟨h0, _⟩ | ⟨gg, cap, cur, hv, hb, _⟩
          · rw [h0] at e; cases e
          · rw [hv] at e
            have : R = gg := by cases e; rfl
            omega
        have BR : But R w w4 := ⟨(g4.os.trans B34.os).trans hB2.os, (g4.tape.trans B34.tape).trans hB2.tape, (g4.output.trans B34.output).trans hB2.output, Nat.le_trans hB2.size (Nat.le_trans B34.size g4.size), fun j hj hn => by
          rw [BG.block j hj, B3.block j (Nat.lt_of_lt_of_le hj hB2.size), hB2.block j hj hn]⟩
        have hR4 : Rd 69 w4 R a c l (stp (pMany p (k + 1)) (anyF f) s1) := by
          have h3 := R2.below B34
          obtain ⟨y1, y2, y3, y4, y5⟩ := h3.obj
          refine ⟨⟨y1, y2, y3, ?_, y5⟩, ?_, h3.low, h3.len, h3.rng⟩
          · rw [g4.block R (heap_lt y4) hneR]; exact y4
          · refine ⟨h3.holds.1, h3.holds.2.1, fun ad ha j u hu => ?_⟩
            have hc := h3.holds.2.2 ad ha j u hu
            have hj : 0 < l.length := by have := (List.getElem?_eq_some_iff.1 hu).1; rw [cs_length] at this; omega
            have hlw := h3.low ad ha hj
            rw [World.cell?_of_block (w := w3.alloc (.cells (rv t).toArray 55)) (g4.block _ (cell_block hc) (by
              rw [addr_add_block]; intro e
              rcases hown3.2 with ⟨h0, _⟩ | ⟨gg, cap, cur, hv, hb, _⟩
              · rw [h0] at e; cases e
              · rw [hv] at e
                have : ad.block = gg := by cases e; rfl
                omega))]
            exact hc
        go_wp2_with fail
        refine ⟨⟨k + 1, Z ++ [t], by simp, by omega, ?_, o4, fun z hz => ?_, BR, hR4, hP2, hJ2, hg2.out t Hgt.out⟩, by simp [intOf]; omega⟩
        · show _ = _
          have := hZ.out; simp [this]
        · have sf : ∀ ty, (ty ≠ 69 ∧ ty ≠ 55) → Safe ty w2 w4 := fun ty hn => (Safe.below B34).trans (Safe.grown hown3 g4 hn.2)
          rcases List.mem_append.1 hz with hz | hz
          · exact Rv.AtT.safe (hat2 z hz) sf
          · rw [List.mem_singleton] at hz; subst hz; exact Rv.AtT.safe at2 sf
      · have hq : (er != 0) = true := by simpa using he
        have hse : stp (pMany p (k + 1)) (anyF f) s1 = .error er := by rw [q3]; unfold stOf; rw [if_neg he]
        have hfin := many_err hse (show k + 1 ≤ N by omega)
        have Hfin := hideP hfin; have Hse := hideP hse
        clear q3 he hfin hse
        go_wp2_with (refine wpList_store_all rfl 55 _ _ rfl w2.heap.size 11 #[.string .empty, .bool false, .int .i64 0, .string .empty, .string .empty, .slice none 0 0, .string .empty, .bool false, .int .i64 0, .string .empty, .slice none 0 0] 55 (rv t) rfl rfl (heap_alloc_new w2 _) rfl nK iN oK ?_; intro w3 V3 b3; have d3 := hQ w3 b3; have B3 := hF w3 b3)
        go_ret
        refine ⟨none, 0, [], rfl, RowT.nil _ _ _, fun y hy => by simp at hy, fun vs hv => ?_, ?_, hB2.below B3⟩
        · exact (got_no Hfin.out (HG.out vs hv)).elim
        · rw [HL.out, Hfin.out, ← Hse.out]; exact R2.below B3
    · have q2 : ¬ (k : Int) < (N : Int) := by omega
      obtain rfl : k = N := by omega
      obtain ⟨a', c', rfl, hrow, _⟩ := own_row hown (by have := hZ.out; omega)
      go_wp2_with fail
      go_ret
      exact ⟨a', c', Z, rfl, hrow, hat, fun vs hv => hgot.out vs (HG.out vs hv), by rw [HL.out]; exact hRd, hbt⟩

end Go.Proofs.Ytghhdbkgibpebaa
