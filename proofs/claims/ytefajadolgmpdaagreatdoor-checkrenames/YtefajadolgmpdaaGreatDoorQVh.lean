/-
  The closures that ask whether a variable is free, or out of range.
-/
import Derived.Test.YtefajadolgmpdaaGreatDoorQVd
import Derived.Test.YtefajadolgmpdaaGreatDoorQSw
namespace Go.Proofs.YtefajadolgmpdaaGreatDoor
open Go.RowKit Go.Lib Go.Shelf

theorem rangeAt_next {w w' : World} {b o : Nat} {vs : List Value} (h : w.rangeAt b o vs) (hb : Below w.heap.size w w') : w'.rangeAt b o vs := fun j u hu => by
  rw [hb.cell (cell_block (h j u hu))]; exact h j u hu

set_option maxRecDepth 100000 in
set_option maxHeartbeats 800000 in
theorem fn_F (bm p : Nat) (x : Rv) (w0 : World) (s0 : Ck.Seen) (h0 : SizesAt w0 bm s0) (hp : w0.heap[p]? = some (.cells (rv x).toArray 42)) (hx : Rv.Aw w0 x) (hv : Ck.Vok x.r) : FnAt 56 #[ptr p] (Ck.fF x.r) bm w0 := fun s k y w hb hs _ _ _ hk => by
  show Calls Tryz.prog 56 #[.int .i64 k, lval y, ptr p] w _
  have iT : (Tryz.prog.info? 38).map (·.size) = some 4 := by kernel_rfl
  have iR := Tryz.iR11
  obtain ⟨es, clock, hm0⟩ := h0.map
  have hp1 := safe_map (ty := 42) hb hm0 _ _ hp
  have hx1 := hx.map hb hm0
  clear hp hb hm0 h0 hx
  have A0 := below_alloc w (.cells (lv y).toArray 54)
  have H0 := heap_alloc_new w (.cells (lv y).toArray 54)
  have HF : Hid (Ck.fF x.r s k y.l = ((k != -1) && Ck.outV (Ck.bnd x.r k.toNat) y.at_, s)) := rfl
  by_cases hq : k = -1
  · have q1 : (k != -1) = false := by simp [hq]
    rw [q1, Bool.false_and] at HF
    clear hq
    go_enter Tryz.func56, Tryz.ntmps56
    go_wp2_with fail
    go_quiet (fail)
    go_wp2_with fail
    go_ret
    rw [HF.out]
    exact ⟨rfl, (hs.next A0).next (below_drewN (Below.refl _ _) _), (But.of_below A0).below (below_drewN (Below.refl _ _) _)⟩
  · have q1 : (k != -1) = true := by simpa using hq
    rw [q1, Bool.true_and] at HF
    clear hq
    have kk : ∀ W, Below (w.alloc (.cells (lv y).toArray 54)).heap.size (w.alloc (.cells (lv y).toArray 54)) W → (W.cell? ⟨p, 0, none⟩ = some (str x.home.v) ∧ W.cell? ⟨p, 1, none⟩ = some (.bool x.home.k.num) ∧ W.cell? ⟨p, 2, none⟩ = some (.int .i64 x.home.k.n) ∧ W.cell? ⟨p, 3, none⟩ = some (str x.home.k.s) ∧ W.cell? ⟨p, 4, none⟩ = some (str x.pred) ∧ W.cell? ⟨p, 5, none⟩ = some (.slice x.a x.args.length x.cap) ∧ W.cell? ⟨p, 6, none⟩ = some (str x.to_.v) ∧ W.cell? ⟨p, 7, none⟩ = some (.bool x.to_.k.num) ∧ W.cell? ⟨p, 8, none⟩ = some (.int .i64 x.to_.k.n) ∧ W.cell? ⟨p, 9, none⟩ = some (str x.to_.k.s) ∧ W.cell? ⟨p, 10, none⟩ = some (.slice x.ba x.body.length x.bcap) ∧ W.cell? ⟨w.heap.size, 6, none⟩ = some (str y.at_.v) ∧ W.cell? ⟨w.heap.size, 7, none⟩ = some (.bool y.at_.k.num) ∧ W.cell? ⟨w.heap.size, 8, none⟩ = some (.int .i64 y.at_.k.n) ∧ W.cell? ⟨w.heap.size, 9, none⟩ = some (str y.at_.k.s)) := fun W h => by
      have e1 := below_heap (Below.then A0 h) hp1
      have e2 := below_heap h H0
      refine ⟨?_, ?_, ?_, ?_, ?_, ?_, ?_, ?_, ?_, ?_, ?_, ?_, ?_, ?_, ?_⟩
      all_goals first | (rw [heap_cell e1]; rfl) | (rw [heap_cell e2]; rfl)
    have T1 := hideP (fun W (h : Below w.heap.size w W) => bound_at x k W (hx1.below h (Nat.le_refl _)) hv)
    generalize Ck.bnd x.r k.toNat = N at *
    have T2 := hideP (fun W a c (h : Row sK W a c N) => lacks_at a c N y.at_ W h)
    generalize Ck.outV N y.at_ = r at *
    generalize hW : w.alloc (.cells (lv y).toArray 54) = W0 at *
    have gD : Below W0.heap.size W0 W0.drew := (Below.refl _ _).drew
    have bD : Below w.heap.size w W0.drew := Below.then A0 gD
    subst hW
    go_enter Tryz.func56, Tryz.ntmps56
    go_wp2_with fail
    go_region_held3 (fun W => W.cell? ⟨p, 0, none⟩ = some (str x.home.v) ∧ W.cell? ⟨p, 1, none⟩ = some (.bool x.home.k.num) ∧ W.cell? ⟨p, 2, none⟩ = some (.int .i64 x.home.k.n) ∧ W.cell? ⟨p, 3, none⟩ = some (str x.home.k.s) ∧ W.cell? ⟨p, 4, none⟩ = some (str x.pred) ∧ W.cell? ⟨p, 5, none⟩ = some (.slice x.a x.args.length x.cap) ∧ W.cell? ⟨p, 6, none⟩ = some (str x.to_.v) ∧ W.cell? ⟨p, 7, none⟩ = some (.bool x.to_.k.num) ∧ W.cell? ⟨p, 8, none⟩ = some (.int .i64 x.to_.k.n) ∧ W.cell? ⟨p, 9, none⟩ = some (str x.to_.k.s) ∧ W.cell? ⟨p, 10, none⟩ = some (.slice x.ba x.body.length x.bcap) ∧ W.cell? ⟨w.heap.size, 6, none⟩ = some (str y.at_.v) ∧ W.cell? ⟨w.heap.size, 7, none⟩ = some (.bool y.at_.k.num) ∧ W.cell? ⟨w.heap.size, 8, none⟩ = some (.int .i64 y.at_.k.n) ∧ W.cell? ⟨w.heap.size, 9, none⟩ = some (str y.at_.k.s)) (first | exact kk _ gD | exact kk _ g1 | exact kk _ g2) (first
      | (go_at_call 19; refine (T1.out _ bD).mono ?_; rintro e w1 ⟨⟨a1, c1, rfl, R1⟩, b1⟩; have b1' := Below.then bD b1; have g1 := Below.then gD b1)
      | (go_at_call 57; refine (T2.out w1 a1 c1 R1).mono ?_; rintro e w2 ⟨rfl, b2⟩; have b2' := Below.then b1' b2; have g2 := Below.then g1 b2))
    go_wp2_with fail
    go_ret
    rw [HF.out]
    exact ⟨rfl, hs.next b2', But.of_below b2'⟩
end Go.Proofs.YtefajadolgmpdaaGreatDoor

/-
  The closures that ask whether a variable of the head is out of range.
-/
namespace Go.Proofs.YtefajadolgmpdaaGreatDoor
open Go.RowKit Go.Lib Go.Shelf

theorem enter_out1 (args : Array Value) (w : World) : (callFunc 58 args).run Tryz.prog w = .ok (.enter 58 args) w := enters_of Tryz.func58 (by kernel_rfl) rfl args w
set_option maxRecDepth 100000 in
set_option maxHeartbeats 400000 in
theorem out1_at (pv : Nat) (a : Option Addr) (c : Nat) (N : List (List UInt8)) (t : Tm) (w : World) (hc : w.cell? ⟨pv, 0, none⟩ = some (.slice a N.length c)) (h : Row sK w a c N) :
    Calls Tryz.prog 58 #[tval t, ptr pv] w fun e w' => e = .returned (.bool (Ck.outV N t)) ∧ Below w.heap.size w w' := by
  have A0 := below_alloc w (.cells (tv t).toArray 38)
  have H0 := heap_alloc_new w (.cells (tv t).toArray 38)
  have c0 : (w.alloc (.cells #[str t.v, .bool t.k.num, .int .i64 t.k.n, str t.k.s] 38)).cell? ⟨pv, 0, none⟩ = some (.slice a N.length c) := (A0.cell (cell_block hc)).trans hc
  have T := hideP (lacks_at a c N t _ (h.below A0 (Nat.le_refl _)))
  generalize Ck.outV N t = r at *
  go_enter Tryz.func58, Tryz.ntmps58
  go_wp2_with (refine wpList_load_all rfl 38 _ rfl w.heap.size 4 38 (tv t) _ rfl H0 rfl Tryz.underlying38 rfl Tryz.iT4 ?_)
  refine T.out.mono ?_
  rintro e w1 ⟨rfl, b1⟩
  go_wp2_with fail
  go_ret
  exact ⟨rfl, Below.then A0 b1⟩

set_option maxRecDepth 100000 in
set_option maxHeartbeats 800000 in
theorem fn_R (bm po pv : Nat) (r : Ru) (a : Option Addr) (c : Nat) (w0 : World) (s0 : Ck.Seen) (h0 : SizesAt w0 bm s0) (hpo : w0.heap[po]? = some (.cells #[.func (.func 58) #[] #[ptr pv]] 91)) (hpv : w0.heap[pv]? = some (.cells #[.slice a (Ck.vars r).length c] 44)) (hr : Row sK w0 a c (Ck.vars r)) :
    FnAt 59 #[ptr po] (Ck.fR r) bm w0 := fun s k y w hb hs _ ay _ hk => by
  show Calls Tryz.prog 59 #[.int .i64 k, lval y, ptr po] w _
  have hE := enter_out1
  obtain ⟨es, clock, hm0⟩ := h0.map
  have hpo1 := safe_map (ty := 91) hb hm0 _ _ hpo
  have hpv1 := safe_map (ty := 44) hb hm0 _ _ hpv
  have hr1 := hr.map hb hm0
  clear hpo hpv hr hb hm0 h0
  have HF : Hid (Ck.fR r s k y.l = ((k == -1) && (Ck.outV (Ck.vars r) y.at_ || y.args.any (Ck.outV (Ck.vars r))), s)) := rfl
  generalize Ck.vars r = N at *
  have A0 := below_alloc w (.cells (lv y).toArray 54)
  have H0 := heap_alloc_new w (.cells (lv y).toArray 54)
  by_cases hq : k = -1
  · have q1 : (k == -1) = true := by simpa using hq
    rw [q1, Bool.true_and] at HF
    clear hq
    have OUT : ∀ (t : Tm) (W : World), Below w.heap.size w W → Calls Tryz.prog 58 #[tval t, ptr pv] W fun e w' => e = .returned (.bool (Ck.outV N t)) ∧ Below W.heap.size W w' := fun t W h =>
      out1_at pv a c N t W (by rw [heap_cell (below_heap h hpv1)]; rfl) (hr1.below h (Nat.le_refl _))
    have T1 := hideP (OUT y.at_ _ A0)
    have T2 := hideP (fun W (h : Below w.heap.size w W) => containsF_at 58 (ptr pv) (Ck.outV N) w W enter_out1 OUT y.a y.cap y.args h ay)
    have co : ∀ W, Below w.heap.size w W → W.cell? ⟨po, 0, none⟩ = some (.func (.func 58) #[] #[ptr pv]) := fun W h => by rw [heap_cell (below_heap h hpo1)]; rfl
    have c0 := co _ A0
    change (w.alloc (.cells #[str y.by_.v, .bool y.by_.k.num, .int .i64 y.by_.k.n, str y.by_.k.s, str y.pred, .slice y.a y.args.length y.cap, str y.at_.v, .bool y.at_.k.num, .int .i64 y.at_.k.n, str y.at_.k.s] 54)).cell? _ = _ at c0
    have r0 := (lit_parts10 H0).2.1
    clear OUT
    generalize y.args.any (Ck.outV N) = b2 at *
    cases hb1 : Ck.outV N y.at_ with
    | true =>
      rw [hb1] at T1 HF
      go_enter Tryz.func59, Tryz.ntmps59
      go_wp2_with (refine wpList_load_mid rfl 38 _ rfl w.heap.size 6 rfl (tv y.at_) _ r0 Tryz.underlying38 rfl Tryz.iT4 ?_)
      refine T1.out.mono ?_
      rintro e w1 ⟨rfl, b1⟩
      go_wp2_with fail
      go_ret
      rw [HF.out]
      exact ⟨rfl, hs.next (Below.then A0 b1), But.of_below (Below.then A0 b1)⟩
    | false =>
      rw [hb1, Bool.false_or] at HF
      rw [hb1] at T1
      go_enter Tryz.func59, Tryz.ntmps59
      go_wp2_with (refine wpList_load_mid rfl 38 _ rfl w.heap.size 6 rfl (tv y.at_) _ r0 Tryz.underlying38 rfl Tryz.iT4 ?_)
      refine T1.out.mono ?_
      rintro e w1 ⟨rfl, b1⟩
      have B1 := Below.then A0 b1
      have c1 := co _ B1
      have d1 := (lit_parts10 (below_heap b1 H0)).2.2.2.1
      go_wp2_with fail
      refine (T2.out w1 B1).mono ?_
      rintro e w2 ⟨rfl, b2⟩
      have B2 := Below.then B1 b2
      go_wp2_with fail
      go_ret
      rw [HF.out]
      exact ⟨rfl, hs.next B2, But.of_below B2⟩
  · have q1 : (k == -1) = false := by simpa using hq
    rw [q1, Bool.false_and] at HF
    clear hq
    go_enter Tryz.func59, Tryz.ntmps59
    go_wp2_with fail
    go_ret
    rw [HF.out]
    exact ⟨rfl, hs.next A0, But.of_below A0⟩
end Go.Proofs.YtefajadolgmpdaaGreatDoor

/-
  The program's search of a rule's places.
-/
namespace Go.Proofs.YtefajadolgmpdaaGreatDoor
open Go.RowKit Go.Lib Go.Shelf

def srV (o : Option Int) : Value := match o with | some k => .tuple #[.int .i64 k, .bool true] | none => .tuple #[.int .i64 0, .bool false]
/-- the head as a literal -/
def hdv (x : Rv) : Lv := ⟨x.home, x.pred, x.a, x.cap, x.args, x.to_⟩
theorem hdv_l (x : Rv) : (hdv x).l = Ck.hdL x.r := rfl

set_option maxRecDepth 100000 in
set_option maxHeartbeats 800000 in
theorem search0_at (F : Nat) (f : Ck.Fd) (bm : Nat) (x : Rv) (s : Ck.Seen) (w : World) (hE : ∀ args w, (callFunc F args).run Tryz.prog w = .ok (.enter F args) w) (hF : FnAt F #[] f bm w) (hx : Rv.Aw w x) (hs : SizesAt w bm s) (hsh : Ck.Shown x.r) (hl : s.length ≤ 500) (hf : ∀ s k y, (f s k y).2.length ≤ s.length + 1) :
    Calls Tryz.prog 37 #[rval x, .func (.func F) #[] #[]] w fun e w' => e = .returned (srV (Ck.srch f s x.r).2) ∧ SizesAt w' bm (Ck.srch f s x.r).1 ∧ But bm w w' := by
  have iL : (Tryz.prog.info? 54).map (·.size) = some 10 := by kernel_rfl
  have A0 := below_alloc w (.cells (rv x).toArray 42)
  have H0 := heap_alloc_new w (.cells (rv x).toArray 42)
  obtain ⟨es, clock, hm0⟩ := hs.map
  have hrl : x.r.body.length = x.body.length := List.length_map ..
  have hb4 : x.body.length ≤ 4 := by have := hsh.few; omega
  have T0 : Hid (Calls Tryz.prog F #[.int .i64 (-1), lval (hdv x)] (w.alloc (.cells (rv x).toArray 42)) fun e w' => e = .returned (.bool (f s (-1) (Ck.hdL x.r)).1) ∧ SizesAt w' bm (f s (-1) (Ck.hdL x.r)).2 ∧ But bm (w.alloc (.cells (rv x).toArray 42)) w') :=
    hF s (-1) (hdv x) _ (But.of_below A0) (hs.next A0) (by omega) (hx.args.below A0 (Nat.le_refl _)) hsh.head (by omega)
  have TF : Hid (∀ (s : Ck.Seen) (k : Int) (y : Lv) (W : World), But bm w W → SizesAt W bm s → s.length ≤ 1000 → Lv.Aw W y → Ck.Small y.l → -1 ≤ k →
    Calls Tryz.prog F #[.int .i64 k, lval y] W fun e w' => e = .returned (.bool (f s k y.l).1) ∧ SizesAt w' bm (f s k y.l).2 ∧ But bm W w') := hF
  have HSR : Hid (Ck.srch f s x.r = if (f s (-1) (Ck.hdL x.r)).1 = true then ((f s (-1) (Ck.hdL x.r)).2, some (-1)) else Ck.srL f (f s (-1) (Ck.hdL x.r)).2 0 x.r.body) := rfl
  have L0 := hf s (-1) (Ck.hdL x.r)
  clear hF
  generalize (f s (-1) (Ck.hdL x.r)).2 = s1 at *
  cases hq : (f s (-1) (Ck.hdL x.r)).1 with
  | true =>
    rw [hq, if_pos rfl] at HSR
    rw [hq] at T0
    go_enter Tryz.func37, Tryz.ntmps37
    go_wp2_with fail
    refine T0.out.mono ?_
    rintro e w1 ⟨rfl, s2, b2⟩
    go_wp2_with fail
    go_ret2
    rw [HSR.out]
    exact ⟨rfl, s2, (But.of_below A0).trans b2⟩
  | false =>
    rw [hq, if_neg (by decide)] at HSR
    rw [hq] at T0
    clear hq
    go_enter Tryz.func37, Tryz.ntmps37
    go_wp2_with fail
    refine T0.out.mono ?_
    rintro e w1 ⟨rfl, s2, b2⟩
    have B2 : But bm w w1 := (But.of_below A0).trans b2
    have hne : w.heap.size ≠ bm := fun e => by have := hs.lt; omega
    have H2 := b2.heap hne H0
    have c2 := (rule_parts10 H2).2.2.2.2.2.2
    clear T0 b2 H2 H0
    go_wp2_with fail
    go_loopw [6, 7, 22] (fun _ _ v22 wr => ∃ (j : Nat) (s' : Ck.Seen), v22 = .int .i64 (j : Int) ∧ j ≤ x.body.length ∧ SizesAt wr bm s' ∧ But bm w wr ∧ Hid (Ck.srch f s x.r = Ck.srL f s' j (x.r.body.drop j)) ∧ s'.length ≤ 501 + j) (fun _ _ v22 _ => x.body.length - (RowKit.intOf v22).toNat)
    case atStart => exact ⟨0, s1, rfl, Nat.zero_le _, s2, B2, by rw [List.drop_zero]; exact HSR, by omega⟩
    case round =>
      obtain ⟨j, s', rfl, hj, S3, B3, HJ, hjl⟩ := hrel
      by_cases hlt : j < x.body.length
      · have q : (j : Int) < (x.body.length : Int) := by omega
        have hjr : j < x.r.body.length := by omega
        have hyr : x.r.body[j] = (x.body[j]'hlt).l := by simp [Rv.r]
        obtain ⟨P1, O1, hP⟩ := hx.body.addr (Nat.lt_of_le_of_lt (Nat.zero_le _) hlt)
        have r1 : wr.rangeAt P1 (O1 + j * 10) (lv (x.body[j]'hlt)) := by
          have := hx.body.map B3 hm0
          rw [hP] at this
          exact this.range j hlt
        have aY : Lv.Aw wr (x.body[j]'hlt) := Row.map (hx.each _ (List.getElem_mem hlt)) B3 hm0
        have sY := hsh.body _ (List.getElem_mem hjr)
        rw [hyr] at sY
        rw [List.drop_eq_getElem_cons hjr, Ck.srL, hyr] at HJ
        generalize (x.body[j]'hlt) = y at *
        have L1 := hf s' (j : Int) y.l
        rw [hP]
        have iP : (Tryz.prog.info? 54).map (·.size) = some (lv y).length := iL
        have TF' := hideP (fun W b S A => TF.out s' (j : Int) y W b S (by omega) A sY (by omega))
        clear hyr
        cases hq : (f s' (j : Int) y.l).1 with
        | true =>
          rw [hq, if_pos rfl] at HJ
          rw [hq] at TF'
          clear hq
          go_upto_region 6 with (first
            | (refine wpList_load_mid rfl 54 _ rfl P1 (O1 + j * 10) rfl (lv y) _ r1 Tryz.underlying54 rfl iP ?_)
            | (refine wpList_store_all rfl 54 _ _ rfl wr.heap.size 10 _ 54 (lv y) rfl rfl (heap_alloc_new wr _) rfl rfl iL rfl ?_; intro w5 H5 d5; have b5 := below_tok d5))
          go_wp2_with (refine wpList_load_all rfl 54 _ rfl wr.heap.size 10 54 (lv y) _ rfl H5 rfl Tryz.underlying54 rfl iL ?_)
          refine (TF'.out w5 (B3.below b5) (S3.next b5) (aY.below b5 (Nat.le_refl _))).mono ?_
          rintro e w6 ⟨rfl, s6, b6⟩
          go_wp2_with fail
          go_ret2
          rw [HJ.out]
          exact ⟨rfl, s6, (B3.below b5).trans b6⟩
        | false =>
          rw [hq, if_neg (by decide)] at HJ
          rw [hq] at TF'
          clear hq
          go_upto_region 6 with (first
            | (refine wpList_load_mid rfl 54 _ rfl P1 (O1 + j * 10) rfl (lv y) _ r1 Tryz.underlying54 rfl iP ?_)
            | (refine wpList_store_all rfl 54 _ _ rfl wr.heap.size 10 _ 54 (lv y) rfl rfl (heap_alloc_new wr _) rfl rfl iL rfl ?_; intro w5 H5 d5; have b5 := below_tok d5))
          go_wp2_with (refine wpList_load_all rfl 54 _ rfl wr.heap.size 10 54 (lv y) _ rfl H5 rfl Tryz.underlying54 rfl iL ?_)
          refine (TF'.out w5 (B3.below b5) (S3.next b5) (aY.below b5 (Nat.le_refl _))).mono ?_
          rintro e w6 ⟨rfl, s6, b6⟩
          go_wp2_with fail
          exact ⟨⟨j + 1, _, by go_num, by omega, s6, (B3.below b5).trans b6, HJ, by omega⟩, by simp [RowKit.intOf]; omega⟩
      · have q : ¬ (j : Int) < (x.body.length : Int) := by omega
        rw [List.drop_of_length_le (by omega), Ck.srL] at HJ
        go_wp2_with fail
        go_ret2
        rw [HJ.out]
        exact ⟨rfl, S3, B3⟩

set_option maxRecDepth 100000 in
set_option maxHeartbeats 800000 in
theorem search1_at (F : Nat) (bv : Value) (f : Ck.Fd) (bm : Nat) (x : Rv) (s : Ck.Seen) (w : World) (hE : ∀ args w, (callFunc F args).run Tryz.prog w = .ok (.enter F args) w) (hF : FnAt F #[bv] f bm w) (hx : Rv.Aw w x) (hs : SizesAt w bm s) (hsh : Ck.Shown x.r) (hl : s.length ≤ 500) (hf : ∀ s k y, (f s k y).2.length ≤ s.length + 1) :
    Calls Tryz.prog 37 #[rval x, .func (.func F) #[] #[bv]] w fun e w' => e = .returned (srV (Ck.srch f s x.r).2) ∧ SizesAt w' bm (Ck.srch f s x.r).1 ∧ But bm w w' := by
  have iL : (Tryz.prog.info? 54).map (·.size) = some 10 := by kernel_rfl
  have A0 := below_alloc w (.cells (rv x).toArray 42)
  have H0 := heap_alloc_new w (.cells (rv x).toArray 42)
  obtain ⟨es, clock, hm0⟩ := hs.map
  have hrl : x.r.body.length = x.body.length := List.length_map ..
  have hb4 : x.body.length ≤ 4 := by have := hsh.few; omega
  have T0 : Hid (Calls Tryz.prog F #[.int .i64 (-1), lval (hdv x), bv] (w.alloc (.cells (rv x).toArray 42)) fun e w' => e = .returned (.bool (f s (-1) (Ck.hdL x.r)).1) ∧ SizesAt w' bm (f s (-1) (Ck.hdL x.r)).2 ∧ But bm (w.alloc (.cells (rv x).toArray 42)) w') :=
    hF s (-1) (hdv x) _ (But.of_below A0) (hs.next A0) (by omega) (hx.args.below A0 (Nat.le_refl _)) hsh.head (by omega)
  have TF : Hid (∀ (s : Ck.Seen) (k : Int) (y : Lv) (W : World), But bm w W → SizesAt W bm s → s.length ≤ 1000 → Lv.Aw W y → Ck.Small y.l → -1 ≤ k →
    Calls Tryz.prog F #[.int .i64 k, lval y, bv] W fun e w' => e = .returned (.bool (f s k y.l).1) ∧ SizesAt w' bm (f s k y.l).2 ∧ But bm W w') := hF
  have HSR : Hid (Ck.srch f s x.r = if (f s (-1) (Ck.hdL x.r)).1 = true then ((f s (-1) (Ck.hdL x.r)).2, some (-1)) else Ck.srL f (f s (-1) (Ck.hdL x.r)).2 0 x.r.body) := rfl
  have L0 := hf s (-1) (Ck.hdL x.r)
  clear hF
  generalize (f s (-1) (Ck.hdL x.r)).2 = s1 at *
  cases hq : (f s (-1) (Ck.hdL x.r)).1 with
  | true =>
    rw [hq, if_pos rfl] at HSR
    rw [hq] at T0
    go_enter Tryz.func37, Tryz.ntmps37
    go_wp2_with fail
    refine T0.out.mono ?_
    rintro e w1 ⟨rfl, s2, b2⟩
    go_wp2_with fail
    go_ret2
    rw [HSR.out]
    exact ⟨rfl, s2, (But.of_below A0).trans b2⟩
  | false =>
    rw [hq, if_neg (by decide)] at HSR
    rw [hq] at T0
    clear hq
    go_enter Tryz.func37, Tryz.ntmps37
    go_wp2_with fail
    refine T0.out.mono ?_
    rintro e w1 ⟨rfl, s2, b2⟩
    have B2 : But bm w w1 := (But.of_below A0).trans b2
    have hne : w.heap.size ≠ bm := fun e => by have := hs.lt; omega
    have H2 := b2.heap hne H0
    have c2 := (rule_parts10 H2).2.2.2.2.2.2
    clear T0 b2 H2 H0
    go_wp2_with fail
    go_loopw [6, 7, 22] (fun _ _ v22 wr => ∃ (j : Nat) (s' : Ck.Seen), v22 = .int .i64 (j : Int) ∧ j ≤ x.body.length ∧ SizesAt wr bm s' ∧ But bm w wr ∧ Hid (Ck.srch f s x.r = Ck.srL f s' j (x.r.body.drop j)) ∧ s'.length ≤ 501 + j) (fun _ _ v22 _ => x.body.length - (RowKit.intOf v22).toNat)
    case atStart => exact ⟨0, s1, rfl, Nat.zero_le _, s2, B2, by rw [List.drop_zero]; exact HSR, by omega⟩
    case round =>
      obtain ⟨j, s', rfl, hj, S3, B3, HJ, hjl⟩ := hrel
      by_cases hlt : j < x.body.length
      · have q : (j : Int) < (x.body.length : Int) := by omega
        have hjr : j < x.r.body.length := by omega
        have hyr : x.r.body[j] = (x.body[j]'hlt).l := by simp [Rv.r]
        obtain ⟨P1, O1, hP⟩ := hx.body.addr (Nat.lt_of_le_of_lt (Nat.zero_le _) hlt)
        have r1 : wr.rangeAt P1 (O1 + j * 10) (lv (x.body[j]'hlt)) := by
          have := hx.body.map B3 hm0
          rw [hP] at this
          exact this.range j hlt
        have aY : Lv.Aw wr (x.body[j]'hlt) := Row.map (hx.each _ (List.getElem_mem hlt)) B3 hm0
        have sY := hsh.body _ (List.getElem_mem hjr)
        rw [hyr] at sY
        rw [List.drop_eq_getElem_cons hjr, Ck.srL, hyr] at HJ
        generalize (x.body[j]'hlt) = y at *
        have L1 := hf s' (j : Int) y.l
        rw [hP]
        have iP : (Tryz.prog.info? 54).map (·.size) = some (lv y).length := iL
        have TF' := hideP (fun W b S A => TF.out s' (j : Int) y W b S (by omega) A sY (by omega))
        clear hyr
        cases hq : (f s' (j : Int) y.l).1 with
        | true =>
          rw [hq, if_pos rfl] at HJ
          rw [hq] at TF'
          clear hq
          go_upto_region 6 with (first
            | (refine wpList_load_mid rfl 54 _ rfl P1 (O1 + j * 10) rfl (lv y) _ r1 Tryz.underlying54 rfl iP ?_)
            | (refine wpList_store_all rfl 54 _ _ rfl wr.heap.size 10 _ 54 (lv y) rfl rfl (heap_alloc_new wr _) rfl rfl iL rfl ?_; intro w5 H5 d5; have b5 := below_tok d5))
          go_wp2_with (refine wpList_load_all rfl 54 _ rfl wr.heap.size 10 54 (lv y) _ rfl H5 rfl Tryz.underlying54 rfl iL ?_)
          refine (TF'.out w5 (B3.below b5) (S3.next b5) (aY.below b5 (Nat.le_refl _))).mono ?_
          rintro e w6 ⟨rfl, s6, b6⟩
          go_wp2_with fail
          go_ret2
          rw [HJ.out]
          exact ⟨rfl, s6, (B3.below b5).trans b6⟩
        | false =>
          rw [hq, if_neg (by decide)] at HJ
          rw [hq] at TF'
          clear hq
          go_upto_region 6 with (first
            | (refine wpList_load_mid rfl 54 _ rfl P1 (O1 + j * 10) rfl (lv y) _ r1 Tryz.underlying54 rfl iP ?_)
            | (refine wpList_store_all rfl 54 _ _ rfl wr.heap.size 10 _ 54 (lv y) rfl rfl (heap_alloc_new wr _) rfl rfl iL rfl ?_; intro w5 H5 d5; have b5 := below_tok d5))
          go_wp2_with (refine wpList_load_all rfl 54 _ rfl wr.heap.size 10 54 (lv y) _ rfl H5 rfl Tryz.underlying54 rfl iL ?_)
          refine (TF'.out w5 (B3.below b5) (S3.next b5) (aY.below b5 (Nat.le_refl _))).mono ?_
          rintro e w6 ⟨rfl, s6, b6⟩
          go_wp2_with fail
          exact ⟨⟨j + 1, _, by go_num, by omega, s6, (B3.below b5).trans b6, HJ, by omega⟩, by simp [RowKit.intOf]; omega⟩
      · have q : ¬ (j : Int) < (x.body.length : Int) := by omega
        rw [List.drop_of_length_le (by omega), Ck.srL] at HJ
        go_wp2_with fail
        go_ret2
        rw [HJ.out]
        exact ⟨rfl, S3, B3⟩
end Go.Proofs.YtefajadolgmpdaaGreatDoor
