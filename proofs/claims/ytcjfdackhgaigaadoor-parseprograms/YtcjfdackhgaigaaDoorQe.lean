/-
  The reference's parser: rules.
-/
import Derived.Test.YtcjfdackhgaigaaDoorOp8
namespace Go.Proofs.YtcjfdackhgaigaaDoor
open Go.RowKit Go.Lib Go.Shelf

def rk4 (E : Nat) (h0 : Tm) (pr : List UInt8) (ts : List Tm) (t : Tm) : Unit → List Lx.Tok → Ps.Rz Ru := fun _ L6 => Ps.bnd (Ps.bodyP E 4 L6) fun b L7 => .ok (⟨h0, pr, ts, t, b⟩, L7)
def rk3 (E : Nat) (h0 : Tm) (pr : List UInt8) (ts : List Tm) : Tm → List Lx.Tok → Ps.Rz Ru := fun t L5 => Ps.bnd (Ps.need E 5 [58, 45] L5) (rk4 E h0 pr ts t)
def rk2 (E : Nat) (h0 : Tm) (pr : List UInt8) : List Tm → List Lx.Tok → Ps.Rz Ru := fun ts L4 => Ps.bnd (Ps.opt E Ps.to L4) (rk3 E h0 pr ts)
def rk1 (E : Nat) (h0 : Tm) : List UInt8 → List Lx.Tok → Ps.Rz Ru := fun p L3 => Ps.bnd (Ps.paren E L3) (rk2 E h0 p)
def rkw (E : Nat) (h0 : Tm) : Unit → List Lx.Tok → Ps.Rz Ru := fun _ L2 => Ps.bnd (Ps.word E L2) (rk1 E h0)
def rk0 (E : Nat) : Tm → List Lx.Tok → Ps.Rz Ru := fun h L1 => Ps.bnd (Ps.need E 5 [58] L1) (rkw E h)
theorem rule_rk (E : Nat) (st : Ps.St) : Ps.run st (Ps.rule E) = Ps.run st fun L => Ps.bnd (Ps.term E L) (rk0 E) := by
  congr 1
  funext L
  exact Ps.rule_eq E L
def rkb (h0 : Tm) (pr : List UInt8) (ts : List Tm) (t : Tm) (ys : List Lv) (r : Ps.Rz (List Lt)) : Ps.Rz Ru := Ps.bnd (aprep (ys.map Lv.l) r) fun b L7 => .ok (⟨h0, pr, ts, t, b⟩, L7)
theorem rkb_zero {E : Nat} {L : List Lx.Tok} (h0 : Tm) (pr : List UInt8) (ts : List Tm) (t : Tm) (ys : List Lv) : rkb h0 pr ts t ys (Ps.bodyP E 0 L) = .error (Ps.many E L) := rfl
theorem rkb_bad {E n : Nat} {L : List Lx.Tok} (h0 : Tm) (pr : List UInt8) (ts : List Tm) (t : Tm) (ys : List Lv) {x : Nat × Int} (h : Ps.lit E L = .error x) : rkb h0 pr ts t ys (Ps.bodyP E (n + 1) L) = .error x := by
  unfold rkb; rw [Ps.bodyP_succ, h]; rfl
theorem rkb_yes {E n : Nat} {L L1 : List Lx.Tok} (h0 : Tm) (pr : List UInt8) (ts : List Tm) (t : Tm) (ys : List Lv) {x : Lv} (h : Ps.lit E L = .ok (x.l, L1)) (hc : Ps.isT 5 [46] (Ps.hd L1) = true) : rkb h0 pr ts t ys (Ps.bodyP E (n + 1) L) = .ok (⟨h0, pr, ts, t, (ys ++ [x]).map Lv.l⟩, L1.tail) := by
  unfold rkb; rw [Ps.bodyP_succ, h, Ps.bnd_ok, if_pos hc]; simp [aprep, Ps.bnd]
theorem rkb_more {E n : Nat} {L L1 L2 : List Lx.Tok} (h0 : Tm) (pr : List UInt8) (ts : List Tm) (t : Tm) (ys : List Lv) {x : Lv} (h : Ps.lit E L = .ok (x.l, L1)) (hc : ¬ Ps.isT 5 [46] (Ps.hd L1) = true) (hn : Ps.need E 5 [44] L1 = .ok ((), L2)) : rkb h0 pr ts t ys (Ps.bodyP E (n + 1) L) = rkb h0 pr ts t (ys ++ [x]) (Ps.bodyP E n L2) := by
  unfold rkb; rw [Ps.bodyP_succ, h, Ps.bnd_ok, if_neg hc, hn, Ps.bnd_ok]
  rcases Ps.bodyP E n L2 with x | ⟨ts, L3⟩
  · rfl
  · simp [Ps.bnd, aprep]
theorem rkb_no {E n : Nat} {L L1 : List Lx.Tok} (h0 : Tm) (pr : List UInt8) (ts : List Tm) (t : Tm) (ys : List Lv) {x : Lv} {z : Nat × Int} (h : Ps.lit E L = .ok (x.l, L1)) (hc : ¬ Ps.isT 5 [46] (Ps.hd L1) = true) (hn : Ps.need E 5 [44] L1 = .error z) : rkb h0 pr ts t ys (Ps.bodyP E (n + 1) L) = .error z := by
  unfold rkb; rw [Ps.bodyP_succ, h, Ps.bnd_ok, if_neg hc, hn]; rfl

set_option maxRecDepth 100000 in
set_option maxHeartbeats 4000000 in
theorem rule_q (p E : Nat) (st : Ps.St) (w : World) (h : QAt w p E st) :
    Calls Tryd.prog 19 #[ptr p] w (QDoes p E w (Ps.run st (Ps.rule E)) vRule) := by
  have iN : (Tryd.prog.info? 54).map (·.size) = some 11 := by kernel_rfl
  have hp := h.lt
  have B0 := Below.then (below_alloc w zR) (below_alloc (w.alloc zR) zR)
  have Z0 : ((w.alloc zR).alloc zR).heap[w.heap.size]? = some (.cells (rcs t0 [] (.slice none 0 0) t0 (.slice none 0 0)).toArray 54) := below_heap (below_alloc _ zR) (new_rule w)
  have V0 : ((w.alloc zR).alloc zR).heap[w.heap.size + 1]? = some (.cells (rcs t0 [] (.slice none 0 0) t0 (.slice none 0 0)).toArray 54) := by
    have := new_rule (w.alloc zR)
    rwa [show (w.alloc zR).heap.size = w.heap.size + 1 by simp] at this
  have Q0 := h.below B0
  have b0 : But p w ((w.alloc zR).alloc zR) := But.of_below B0
  have TM := hideP (term_q p E st _ Q0)
  go_enter Tryd.func19, Tryd.ntmps19
  go_wp2_with fail
  refine TM.out.mono ?_
  rintro e w1 ⟨b1, h0, _, rfl, rfl, hi1, q1⟩
  generalize hS : w.heap.size = S at *
  have HS := hideP hS; clear hS
  have HR1 := hideP ((rule_rk E st).trans (Ps.run_step hi1 (rk0 E)))
  clear hi1 TM
  generalize Ps.stO (Ps.run st (Ps.term E)) = s1 at *
  have V1 := b1.heap (show S + 1 ≠ p by omega) V0
  have Z1 := b1.heap (show S ≠ p by omega) Z0
  have B1 := b0.trans b1
  clear V0 Z0 b0 b1 Q0 B0
  go_wp2_with (first
    | (refine wpList_store_rec rfl 50 _ _ rfl (S + 1) 0 11 4 54 (tv h0) (rcs h0 [] (.slice none 0 0) t0 (.slice none 0 0)).toArray rfl rfl V1 rfl rfl (by decide) (by kernel_rfl) rfl rfl ?_; intro w2 V2 b2))
  have q2 := q1.but b2 V1 (by decide) (by decide)
  have Z2 := b2.heap (show S ≠ S + 1 by omega) Z1
  have B2 := B1.fresh b2 (by rw [HS.out]; exact Nat.le_succ _)
  clear V1 Z1 B1 q1 b2
  refine (must_sign p E [58] s1 w2 q2 (by decide)).mono ?_
  rintro e w3 ⟨b3, _, _, rfl, rfl, hi3, q3⟩
  have HR3 := hideP (HR1.out.trans (Ps.run_step hi3 (rkw E h0)))
  clear hi3 HR1
  generalize Ps.stO (Ps.run s1 (Ps.need E 5 [58])) = s3 at *
  have V3 := b3.heap (show S + 1 ≠ p by omega) V2
  have Z3 := b3.heap (show S ≠ p by omega) Z2
  have B3 := B2.trans b3
  clear V2 Z2 B2 q2 b3
  go_wp2_with fail
  refine (word_q p E s3 w3 q3).mono ?_
  rintro e w4 ⟨b4, pr, _, rfl, rfl, hi4, q4⟩
  have HR4 := hideP (HR3.out.trans (Ps.run_step hi4 (rk1 E h0)))
  clear hi4 HR3
  generalize Ps.stO (Ps.run s3 (Ps.word E)) = s4 at *
  have V4 := b4.heap (show S + 1 ≠ p by omega) V3
  have Z4 := b4.heap (show S ≠ p by omega) Z3
  have B4 := B3.trans b4
  clear V3 Z3 B3 q3 b4
  go_upto_region 5 with (first
    | (refine wpList_store_cel rfl 9 _ _ rfl (S + 1) 4 11 54 (str pr) (rcs h0 pr (.slice none 0 0) t0 (.slice none 0 0)).toArray rfl rfl V4 rfl (by decide) (by kernel_rfl) rfl rfl ?_; intro w5 V5 b5))
  have q5 := q4.but b5 V4 (by decide) (by decide)
  have Z5 := b5.heap (show S ≠ S + 1 by omega) Z4
  have B5 := B4.fresh b5 (by rw [HS.out]; exact Nat.le_succ _)
  clear V4 Z4 B4 q4 b5
  simp only [Act.put]
  go_cut [14] (fun _ wc => ∃ (ts : List Tm) (a8 : Option Addr) (c8 : Nat) (s6 : Ps.St), Rel8 p E S w wc h0 pr (.slice a8 ts.length c8) t0 a8 c8 ts s6 [] (.slice none 0 0) ∧ Ps.run st (Ps.rule E) = Ps.run s6 (rk2 E h0 pr ts))
  case first =>
    go_wp2_with fail
    refine (args_q p E s4 w5 q5).mono ?_
    rintro e w6 ⟨b6, ts, _, rfl, ⟨a8, c8, rfl, r6⟩, hi6, q6⟩
    have HR6 := hideP (HR4.out.trans (Ps.run_step hi6 (rk2 E h0 pr)))
    clear hi6 HR4
    generalize Ps.stO (Ps.run s4 (Ps.paren E)) = s6 at *
    have V6 := b6.heap (show S + 1 ≠ p by omega) V5
    have Z6 := b6.heap (show S ≠ p by omega) Z5
    have B6 := B5.trans b6
    clear V5 Z5 B5 q5 b6
    go_wp2_with (first
      | (refine wpList_store_cel rfl 51 _ _ rfl (S + 1) 5 11 54 (.slice a8 ts.length c8) (rcs h0 pr (.slice a8 ts.length c8) t0 (.slice none 0 0)).toArray rfl rfl V6 rfl (by decide) (by kernel_rfl) rfl rfl ?_; intro w7 V7 b7))
    go_meet
    exact ⟨ts, a8, c8, s6, ⟨B6.fresh b7 (by rw [HS.out]; exact Nat.le_succ _), V7, b7.heap (by omega) Z6, ⟨rfl, .inl ⟨rfl, rfl⟩⟩, (fun y hy => by simp at hy), r6.safe (Safe.but b7 V6 (by decide)), q6.but b7 V6 (by decide) (by decide)⟩, HR6.out⟩
  obtain ⟨ts, a8, c8, s6, rel6, hR6⟩ := hcut
  have HR6 := hideP hR6
  clear hR6 HR4 V5 Z5 B5 q5
  rename_i K hK
  apply hK
  apply wp_seq_k; intro _ _
  go_cut [20] (fun _ wc => ∃ (tt : Tm) (s9 : Ps.St), Rel8 p E S w wc h0 pr (.slice a8 ts.length c8) tt a8 c8 ts s9 [] (.slice none 0 0) ∧ Ps.run st (Ps.rule E) = Ps.run s9 (rk3 E h0 pr ts tt))
  case first =>
    go_wp2_with fail
    refine (ok_q p E s6 wc rel6.at_).mono ?_
    rintro e w8 ⟨rfl, rfl⟩
    rcases s6 with x | L4
    · simp only [isOk]
      go_wp2_with fail
      go_meet
      exact ⟨t0, .error x, rel6, HR6.out⟩
    simp only [isOk]
    go_wp2_with fail
    refine (is_word p E L4 [116, 111] wc rel6.at_ (by decide)).mono ?_
    rintro e w8 ⟨rfl, b8⟩
    have rel8 := rel6.below b8
    by_cases hc : Ps.isT 1 [116, 111] (Ps.hd L4) = true
    rotate_left
    · have hc' : Ps.isT 1 [116, 111] (Ps.hd L4) = false := by simpa using hc
      rw [hc']
      go_wp2_with fail
      go_meet
      refine ⟨t0, .ok L4, rel8, ?_⟩
      rw [HR6.out, Ps.run_ok, rk2, Ps.opt, Ps.to, if_neg hc]; rfl
    rw [hc]
    cases L4 with
    | nil => exact absurd rfl (Ps.hd_ne (by decide) hc)
    | cons t4 R4 =>
      have HR7 : Hid (Ps.run st (Ps.rule E) = Ps.bnd (Ps.run (.ok R4) (Ps.term E)) (rk3 E h0 pr ts)) := by
        show _ = _
        rw [HR6.out, Ps.run_ok, rk2, Ps.opt, Ps.to, if_pos hc]; rfl
      clear hc HR6
      go_wp2_with fail
      refine (take_q p E t4 R4 w8 rel8.at_).mono ?_
      rintro e w9 ⟨rfl, q9, b9⟩
      have rel9 := rel8.next b9 q9 hp
      go_wp2_with fail
      refine (term_q p E _ w9 rel9.at_).mono ?_
      rintro e w10 ⟨b10, tt, _, rfl, rfl, hi10, q10⟩
      have rel10 := rel9.next b10 q10 hp
      have HR10 := hideP (HR7.out.trans (Ps.bnd_run hi10 (rk3 E h0 pr ts)))
      clear hi10 HR7 rel6 rel8 rel9
      generalize Ps.stO (Ps.run (.ok R4) (Ps.term E)) = s10 at *
      have V10 := rel10.own
      go_wp2_with (first
        | (refine wpList_store_rec rfl 50 _ _ rfl (S + 1) 6 11 4 54 (tv tt) (rcs h0 pr (.slice a8 ts.length c8) tt (.slice none 0 0)).toArray rfl rfl V10 rfl rfl (by decide) (by kernel_rfl) rfl rfl ?_; intro w11 V11 b11))
      go_meet
      exact ⟨tt, s10, ⟨rel10.but.fresh b11 (by rw [HS.out]; exact Nat.le_succ _), V11, b11.heap (by omega) rel10.res, ⟨rfl, .inl ⟨rfl, rfl⟩⟩, (fun y hy => by simp at hy), rel10.args.safe (Safe.but b11 V10 (by decide)), rel10.at_.but b11 V10 (by decide) (by decide)⟩, HR10.out⟩
  obtain ⟨tt, s9, rel9, hR9⟩ := hcut
  have HR9 := hideP hR9
  clear hR9 HR6 rel6
  go_wp2_with fail
  refine (must_sign p E [58, 45] s9 wc rel9.at_ (by decide)).mono ?_
  rintro e w10 ⟨b10, _, _, rfl, rfl, hi10, q10⟩
  have rel10 := rel9.next b10 q10 hp
  have HR10 := hideP (HR9.out.trans (Ps.run_step hi10 (rk4 E h0 pr ts tt)))
  clear hi10 HR9 rel9 b10 q10
  generalize Ps.stO (Ps.run s9 (Ps.need E 5 [58, 45])) = s10 at *
  go_wp2_with fail
  go_loopw [52] (fun _ wr => ∃ (ys : List Lv) (s : Ps.St) (v : Value), Rel8 p E S w wr h0 pr (.slice a8 ts.length c8) tt a8 c8 ts s ys v ∧ ((∃ L' n, s = .ok L' ∧ ys.length + n = 4 ∧ Ps.run st (Ps.rule E) = rkb h0 pr ts tt ys (Ps.bodyP E n L')) ∨ (∃ x, s = .error x ∧ Ps.run st (Ps.rule E) = .error x ∧ ys.length ≤ 5))) (fun _ wr => 6 - lenOf ((wr.cell? ⟨S + 1, 10, none⟩).getD undef))
  case atStart =>
    refine ⟨[], s10, .slice none 0 0, rel10, ?_⟩
    rcases s10 with x | L6
    · exact .inr ⟨x, rfl, HR10.out, Nat.zero_le _⟩
    · refine .inl ⟨L6, 4, rfl, rfl, ?_⟩
      rw [HR10.out, Ps.run_ok, rk4, rkb, List.map_nil, aprep_nil]
  case round =>
    obtain ⟨ys, s, v, rel, hcase⟩ := hrel
    have hy5 : ys.length ≤ 5 := by
      rcases hcase with ⟨L', n, rfl, hn, hans⟩ | ⟨x, rfl, hx, hyl⟩ <;> omega
    obtain ⟨a0, c0, hv, hrow, _⟩ := own_row (D := lK) rel.row (by omega)
    have HV := hideP hv
    clear hv HR10 rel10
    have cb := rel.cell
    go_wp2_with fail
    refine (ok_q p E s wr rel.at_).mono ?_
    rintro e w2 ⟨rfl, rfl⟩
    rcases hcase with ⟨L', n, rfl, hn, hans⟩ | ⟨x, rfl, hx, hyl⟩
    rotate_left
    · have HX := hideP hx
      clear hx
      simp only [isOk]
      have V9 := rel.own
      have Z9 := rel.res
      go_wp2_with (first
        | (refine wpList_load_all rfl 54 _ rfl (S + 1) 11 54 (rcs h0 pr (.slice a8 ts.length c8) tt v) _ rfl V9 rfl Tryd.underlying54 rfl iN ?_)
        | (refine wpList_store_all rfl 54 _ _ rfl S 11 _ 54 (rcs h0 pr (.slice a8 ts.length c8) tt v) rfl rfl Z9 rfl rfl iN (by rw [HV.out]; rfl) ?_; intro wf Vf bf))
      refine bodyPost_ret (results_cell (b := S) rfl rfl Vf Tryd.underlying54 rfl (by kernel_rfl)) rfl ?_
      rw [HX.out]
      refine ⟨rel.but.fresh bf (Nat.le_of_eq HS.out), ⟨h0, pr, ts, tt, ys.map Lv.l⟩, _, rfl, ⟨⟨h0, pr, a8, c8, ts, tt, a0, c0, ys⟩, ?_, rfl, ⟨rel.args.safe (Safe.but bf Z9 (by decide)), hrow.safe (Safe.but bf Z9 (by decide)), fun y hy => (rel.each y hy).safe (Safe.but bf Z9 (by decide))⟩⟩, Ps.Is.err _ _, rel.at_.but bf Z9 (by decide) (by decide)⟩
      rw [HV.out]; rfl
    simp only [isOk]
    have HAN := hideP hans
    clear hans
    have HCB : Hid (lenOf ((wr.cell? ⟨S + 1, 10, none⟩).getD undef) = ys.length) := by show _ = _; rw [cb, HV.out]; rfl
    have HBG := hideP (begins_q p E L' wr rel.at_)
    generalize hmt : Ps.mayT (Ps.hd L') = mt at *
    have HMT := hideP hmt
    clear hmt
    go_upto_region 11 with fail
    go_cut [37] (fun t wc => t = .bool (mt && decide (n = 0)) ∧ Below wr.heap.size wr wc)
    case first =>
      go_wp2_with fail
      refine HBG.out.mono ?_
      rintro e w3 ⟨rfl, b3⟩
      have c3 := (rel.below b3).cell
      rw [HV.out] at c3
      cases mt
      · go_wp2_with fail
        go_meet
        exact ⟨rfl, b3⟩
      · by_cases hn0 : n = 0
        · have q0 : ((ys.length : Int) == 4) = true := by rw [beq_iff_eq]; omega
          have HN0 := hideP hn0
          clear hn0 hn
          go_wp2_with fail
          go_meet
          exact ⟨by rw [HN0.out]; rfl, b3⟩
        · have q0 : ((ys.length : Int) == 4) = false := beq_eq_false_iff_ne.2 (by omega)
          have HN0 := hideP hn0
          clear hn0 hn
          go_wp2_with fail
          go_meet
          refine ⟨?_, b3⟩
          rw [decide_eq_false HN0.out]; rfl
    obtain ⟨rfl, bc⟩ := hcut
    have relc := rel.below bc
    clear rel bc HBG cb
    rename_i K hK
    apply hK
    go_cut [39] (fun _ wc => ∃ s2, Rel8 p E S w wc h0 pr (.slice a8 ts.length c8) tt a8 c8 ts s2 ys v ∧ ((s2 = .ok L' ∧ (n = 0 → mt = false)) ∨ (s2 = .error (Ps.many E L') ∧ n = 0)))
    case first =>
      cases hb : (mt && decide (n = 0))
      · have hz : n = 0 → mt = false := fun e => by
          rw [decide_eq_true e, Bool.and_true] at hb; exact hb
        have HZ := hideP hz
        clear hz hb
        go_wp2_with fail
        go_meet
        exact ⟨.ok L', relc, .inl ⟨rfl, HZ.out⟩⟩
      · obtain ⟨hm1, hn1⟩ : mt = true ∧ n = 0 := by
          rw [Bool.and_eq_true, decide_eq_true_eq] at hb; exact hb
        have HN1 := hideP hn1
        have HMY := hideP (many_yes (E := E) (L := L') (HMT.out.trans hm1))
        clear hm1 hn1 hb hn
        go_wp2_with fail
        refine (fail_q p E 81 L' wc relc.at_ (by decide)).mono ?_
        rintro e w4 ⟨rfl, q4, b4⟩
        rw [HMY.out] at q4
        go_wp2_with fail
        go_meet
        exact ⟨.error (Ps.many E L'), relc.next b4 q4 hp, .inr ⟨rfl, HN1.out⟩⟩
    obtain ⟨s2, rel2, hs2⟩ := hcut
    have HS2 := hideP hs2
    clear relc hs2
    go_upto_region 13 with fail
    go_cut [41] (fun _ wd => ∃ (x : Lv) (v4 : Value), Rel8 p E S w wd h0 pr (.slice a8 ts.length c8) tt a8 c8 ts (Ps.stO (Ps.run s2 (Ps.lit E))) (ys ++ [x]) v4 ∧ Ps.Is (Ps.run s2 (Ps.lit E)) x.l)
    case first =>
      rename_i J hJ
      have BD : Below wc.heap.size wc wc.drew := (Below.refl _ _).drew
      have relD := rel2.below BD
      have hEv := (literal_q p E s2 wc.drew relD.at_).mono (R' := fun e w' => ∃ u, e = .returned u ∧ ∃ x : Lv, u = lval x ∧ x.At w' ∧ Ps.Is (Ps.run s2 (Ps.lit E)) x.l ∧ Rel8 p E S w w' h0 pr (.slice a8 ts.length c8) tt a8 c8 ts (Ps.stO (Ps.run s2 (Ps.lit E))) ys v) fun e w' ⟨b, l, u, h1, ⟨x, h2, h3, h4⟩, h5, h6⟩ => ⟨u, h1, x, h2, h4, by rw [h3]; exact h5, relD.next b h6 hp⟩
      clear HAN HMT HS2 rel2
      refine wp_region_any (by kernel_rfl) ?_
      refine wpAny_take (i := 0) (v := .pointer (some ⟨S + 1, 10, none⟩)) rfl (by kernel_rfl) (by kernel_rfl) (by kernel_rfl) (fun _ _ _ h => h) (.inl ⟨by kernel_rfl, fun w => by kernel_rfl⟩) ?_
      refine wpAny_take (i := 2) (v := ptr p) rfl (by kernel_rfl) (by kernel_rfl) (by kernel_rfl) (fun _ _ _ h => h) (.inl ⟨by kernel_rfl, fun w => by kernel_rfl⟩) ?_
      refine wpAny_all (rs := [1, 3]) (by kernel_rfl) (by decide) ?_
      intro i hi
      have hi2 : i = 1 ∨ i = 3 := by simpa using hi
      clear hi
      rcases hi2 with rfl | rfl
      · refine wpOp_load_cel rfl rfl 52 _ rfl (S + 1) 10 v (by kernel_rfl) Tryd.isAgg52 (by show wc.drew.cell? _ = _; exact relD.cell) ?_
        refine wpAny_all (rs := [3]) (by kernel_rfl) (by decide) ?_
        intro i hi
        obtain rfl := List.mem_singleton.1 hi
        clear hi
        refine wpOp_call rfl rfl (f := 35) (args := #[ptr p]) (by kernel_rfl) hEv ?_
        rintro _ w2 ⟨x, rfl, hx, hix, rel3⟩
        refine wpAny_all (rs := [4]) (by kernel_rfl) (by decide) ?_
        intro i hi
        obtain rfl := List.mem_singleton.1 hi
        clear hi
        refine wpOp_build_one rfl rfl 52 58 _ rfl (lv x) _ 10 136 (by kernel_rfl) rfl (by decide) (by decide) Tryd.underlying52 Tryd.iLit ?_
        refine wpAny_all (rs := [5]) (by kernel_rfl) (by decide) ?_
        intro i hi
        obtain rfl := List.mem_singleton.1 hi
        clear hi
        have A2 := below_alloc w2 (.cells (lv x).toArray 58)
        have own3 := (rel3.below A2).row
        refine wpOp_append_rec lK rfl rfl _ _ 52 58 rfl _ 136 Tryd.underlying52 Tryd.iLit rfl (by decide) w.heap.size v ys [x] ⟨w2.heap.size, 0, none⟩ 1 1 (by kernel_rfl) own3 (by kernel_rfl) rfl (row_new lK w2 _ 58 x rfl) (rel3.below A2).but.size (by simp only [List.length_cons, List.length_nil]; omega) ?_
        intro v4 w4 o4 g4
        have V4 := rel3.grow g4
        refine wpAny_take (i := 6) (v := .pointer (some ⟨S + 1, 10, none⟩)) rfl (by kernel_rfl) (by kernel_rfl) (by kernel_rfl) (fun _ _ _ h => h) (.inl ⟨by kernel_rfl, fun w => by kernel_rfl⟩) ?_
        refine wpAny_all (rs := [7]) (by kernel_rfl) (by decide) ?_
        intro i hi
        obtain rfl := List.mem_singleton.1 hi
        clear hi
        have o4one : v4.oneCell' = true := by
          rcases o4.2 with ⟨e0, _⟩ | ⟨gg, cap, cur, hv, _⟩
          · rw [e0]; rfl
          · rw [hv]; rfl
        refine wpOp_store_cel rfl rfl 52 _ _ rfl (S + 1) 10 11 54 v4 (rcs h0 pr (.slice a8 ts.length c8) tt v4).toArray (by kernel_rfl) (by kernel_rfl) V4 rfl (by decide) (by kernel_rfl) o4one rfl ?_
        intro w5 V5 b5
        refine wpAny_done (by kernel_rfl) ?_ _
        simp only [Act.put, List.getElem_toArray, List.getElem_cons_succ, List.getElem_cons_zero, List.setIfInBounds_toArray, List.set_cons_zero, List.set_cons_succ]
        apply hJ
        go_meet
        exact ⟨x, v4, rel3.fin hx HS.out o4 g4 V5 b5, hix⟩
      · refine wpOp_call rfl rfl (f := 35) (args := #[ptr p]) (by kernel_rfl) hEv ?_
        rintro _ w2 ⟨x, rfl, hx, hix, rel3⟩
        refine wpAny_all (rs := [1, 4]) (by kernel_rfl) (by decide) ?_
        intro i hi
        have hi2 : i = 1 ∨ i = 4 := by simpa using hi
        clear hi
        rcases hi2 with rfl | rfl
        · refine wpOp_load_cel rfl rfl 52 _ rfl (S + 1) 10 v (by kernel_rfl) Tryd.isAgg52 (by exact rel3.cell) ?_
          refine wpAny_all (rs := [4]) (by kernel_rfl) (by decide) ?_
          intro i hi
          obtain rfl := List.mem_singleton.1 hi
          clear hi
          refine wpOp_build_one rfl rfl 52 58 _ rfl (lv x) _ 10 136 (by kernel_rfl) rfl (by decide) (by decide) Tryd.underlying52 Tryd.iLit ?_
          refine wpAny_all (rs := [5]) (by kernel_rfl) (by decide) ?_
          intro i hi
          obtain rfl := List.mem_singleton.1 hi
          clear hi
          have A2 := below_alloc w2 (.cells (lv x).toArray 58)
          have own3 := (rel3.below A2).row
          refine wpOp_append_rec lK rfl rfl _ _ 52 58 rfl _ 136 Tryd.underlying52 Tryd.iLit rfl (by decide) w.heap.size v ys [x] ⟨w2.heap.size, 0, none⟩ 1 1 (by kernel_rfl) own3 (by kernel_rfl) rfl (row_new lK w2 _ 58 x rfl) (rel3.below A2).but.size (by simp only [List.length_cons, List.length_nil]; omega) ?_
          intro v4 w4 o4 g4
          have V4 := rel3.grow g4
          refine wpAny_take (i := 6) (v := .pointer (some ⟨S + 1, 10, none⟩)) rfl (by kernel_rfl) (by kernel_rfl) (by kernel_rfl) (fun _ _ _ h => h) (.inl ⟨by kernel_rfl, fun w => by kernel_rfl⟩) ?_
          refine wpAny_all (rs := [7]) (by kernel_rfl) (by decide) ?_
          intro i hi
          obtain rfl := List.mem_singleton.1 hi
          clear hi
          have o4one : v4.oneCell' = true := by
            rcases o4.2 with ⟨e0, _⟩ | ⟨gg, cap, cur, hv, _⟩
            · rw [e0]; rfl
            · rw [hv]; rfl
          refine wpOp_store_cel rfl rfl 52 _ _ rfl (S + 1) 10 11 54 v4 (rcs h0 pr (.slice a8 ts.length c8) tt v4).toArray (by kernel_rfl) (by kernel_rfl) V4 rfl (by decide) (by kernel_rfl) o4one rfl ?_
          intro w5 V5 b5
          refine wpAny_done (by kernel_rfl) ?_ _
          simp only [Act.put, List.getElem_toArray, List.getElem_cons_succ, List.getElem_cons_zero, List.setIfInBounds_toArray, List.set_cons_zero, List.set_cons_succ]
          apply hJ
          go_meet
          exact ⟨x, v4, rel3.fin hx HS.out o4 g4 V5 b5, hix⟩
        · refine wpOp_build_one rfl rfl 52 58 _ rfl (lv x) _ 10 136 (by kernel_rfl) rfl (by decide) (by decide) Tryd.underlying52 Tryd.iLit ?_
          refine wpAny_all (rs := [1]) (by kernel_rfl) (by decide) ?_
          intro i hi
          obtain rfl := List.mem_singleton.1 hi
          clear hi
          refine wpOp_load_cel rfl rfl 52 _ rfl (S + 1) 10 v (by kernel_rfl) Tryd.isAgg52 (by exact (rel3.below (below_alloc w2 (.cells (lv x).toArray 58))).cell) ?_
          refine wpAny_all (rs := [5]) (by kernel_rfl) (by decide) ?_
          intro i hi
          obtain rfl := List.mem_singleton.1 hi
          clear hi
          have A2 := below_alloc w2 (.cells (lv x).toArray 58)
          have own3 := (rel3.below A2).row
          refine wpOp_append_rec lK rfl rfl _ _ 52 58 rfl _ 136 Tryd.underlying52 Tryd.iLit rfl (by decide) w.heap.size v ys [x] ⟨w2.heap.size, 0, none⟩ 1 1 (by kernel_rfl) own3 (by kernel_rfl) rfl (row_new lK w2 _ 58 x rfl) (rel3.below A2).but.size (by simp only [List.length_cons, List.length_nil]; omega) ?_
          intro v4 w4 o4 g4
          have V4 := rel3.grow g4
          refine wpAny_take (i := 6) (v := .pointer (some ⟨S + 1, 10, none⟩)) rfl (by kernel_rfl) (by kernel_rfl) (by kernel_rfl) (fun _ _ _ h => h) (.inl ⟨by kernel_rfl, fun w => by kernel_rfl⟩) ?_
          refine wpAny_all (rs := [7]) (by kernel_rfl) (by decide) ?_
          intro i hi
          obtain rfl := List.mem_singleton.1 hi
          clear hi
          have o4one : v4.oneCell' = true := by
            rcases o4.2 with ⟨e0, _⟩ | ⟨gg, cap, cur, hv, _⟩
            · rw [e0]; rfl
            · rw [hv]; rfl
          refine wpOp_store_cel rfl rfl 52 _ _ rfl (S + 1) 10 11 54 v4 (rcs h0 pr (.slice a8 ts.length c8) tt v4).toArray (by kernel_rfl) (by kernel_rfl) V4 rfl (by decide) (by kernel_rfl) o4one rfl ?_
          intro w5 V5 b5
          refine wpAny_done (by kernel_rfl) ?_ _
          simp only [Act.put, List.getElem_toArray, List.getElem_cons_succ, List.getElem_cons_zero, List.setIfInBounds_toArray, List.set_cons_zero, List.set_cons_succ]
          apply hJ
          go_meet
          exact ⟨x, v4, rel3.fin hx HS.out o4 g4 V5 b5, hix⟩
    obtain ⟨x, v4, rel4, hix⟩ := hcut
    have HIX := hideP hix
    clear hix rel2
    obtain ⟨a4, c4, hv4, hrow4, _⟩ := own_row (D := lK) rel4.row (by simp only [List.length_append, List.length_cons, List.length_nil]; omega)
    have HV4 := hideP hv4
    have hlen4 : (ys ++ [x]).length = ys.length + 1 := by simp
    clear hv4
    have HEND : Hid (Ps.run st (Ps.rule E) = rkb h0 pr ts tt ys (Ps.bodyP E n L')) := HAN
    clear HAN
    have key : (∃ z, Ps.run s2 (Ps.lit E) = .error z ∧ Ps.run st (Ps.rule E) = .error z) ∨ ∃ m L1, n = m + 1 ∧ Ps.lit E L' = .ok (x.l, L1) ∧ Ps.run s2 (Ps.lit E) = .ok (x.l, L1) := by
      rcases HS2.out with ⟨h1, h2⟩ | ⟨h1, h2⟩
      · cases n with
        | zero =>
          have hm := HMT.out.trans (h2 rfl)
          have hl := lit_bad (E := E) (L := L') (by rw [hm]; decide)
          exact .inl ⟨Ps.many E L', by rw [h1, Ps.run_ok, hl], HEND.out.trans (rkb_zero h0 pr ts tt ys)⟩
        | succ m =>
          rcases hl : Ps.lit E L' with z | ⟨l, L1⟩
          · exact .inl ⟨z, by rw [h1, Ps.run_ok, hl], HEND.out.trans (rkb_bad h0 pr ts tt ys hl)⟩
          · have e1 : Ps.run s2 (Ps.lit E) = .ok (l, L1) := by rw [h1, Ps.run_ok, hl]
            have e2 := HIX.out l L1 e1
            exact .inr ⟨m, L1, rfl, by rw [e2], by rw [e1, e2]⟩
      · subst h2
        exact .inl ⟨Ps.many E L', by rw [h1]; rfl, HEND.out.trans (rkb_zero h0 pr ts tt ys)⟩
    clear HS2 HIX HMT
    rcases key with ⟨z, hr, hR⟩ | ⟨m, L1, hnm, hl, hr⟩
    · rw [hr] at rel4
      have HR := hideP hR
      clear hr hR HEND
      go_wp2_with fail
      refine (ok_q p E _ wc rel4.at_).mono ?_
      rintro e w5 ⟨rfl, rfl⟩
      simp only [Ps.stO, isOk]
      go_wp2_with fail
      refine (must_sign p E [44] _ wc rel4.at_ (by decide)).mono ?_
      rintro e w6 ⟨b6, _, _, rfl, rfl, _, q6⟩
      have q6 : QAt w6 p E (.error z) := q6
      have rel6 := rel4.next b6 q6 hp
      go_wp2_with fail
      refine ⟨⟨ys ++ [x], .error z, v4, rel6, .inr ⟨z, rfl, HR.out, by omega⟩⟩, ?_⟩
      rw [HCB.out, rel6.cell, HV4.out]
      show 6 - (ys ++ [x]).length < 6 - ys.length
      omega
    have HN := hideP hnm
    rw [hr] at rel4
    have rel4 : Rel8 p E S w wc h0 pr (.slice a8 ts.length c8) tt a8 c8 ts (.ok L1) (ys ++ [x]) v4 := rel4
    have HL := hideP hl
    have HND : Hid (Ps.run st (Ps.rule E) = rkb h0 pr ts tt ys (Ps.bodyP E (m + 1) L')) := by show _ = _; rw [← hnm]; exact HEND.out
    have hm4 : ys.length + (m + 1) = 4 := by omega
    clear hr hl HEND hnm HN hn
    go_wp2_with fail
    refine (ok_q p E _ wc rel4.at_).mono ?_
    rintro e w5 ⟨rfl, rfl⟩
    simp only [isOk]
    go_wp2_with fail
    refine (is_sign p E L1 [46] wc rel4.at_ (by decide)).mono ?_
    rintro e w5 ⟨rfl, b5⟩
    have rel5 := rel4.below b5
    by_cases hc : Ps.isT 5 [46] (Ps.hd L1) = true
    · have HX := hideP (HND.out.trans (rkb_yes (n := m) h0 pr ts tt ys HL.out hc))
      rw [hc]
      cases L1 with
      | nil => exact absurd rfl (Ps.hd_ne (by decide) hc)
      | cons t1 R1 =>
        clear hc HND HL
        go_wp2_with fail
        refine (take_q p E t1 R1 w5 rel5.at_).mono ?_
        rintro e w6 ⟨rfl, q6, b6⟩
        have rel6 := rel5.next b6 q6 hp
        have hrow6 := ((hrow4.safe (Safe.below b5)).safe (rel5.at_.safe b6 (by decide)))
        have V9 := rel6.own
        have Z9 := rel6.res
        go_wp2_with (first
          | (refine wpList_load_all rfl 54 _ rfl (S + 1) 11 54 (rcs h0 pr (.slice a8 ts.length c8) tt v4) _ rfl V9 rfl Tryd.underlying54 rfl iN ?_)
          | (refine wpList_store_all rfl 54 _ _ rfl S 11 _ 54 (rcs h0 pr (.slice a8 ts.length c8) tt v4) rfl rfl Z9 rfl rfl iN (by rw [HV4.out]; rfl) ?_; intro wf Vf bf))
        refine bodyPost_ret (results_cell (b := S) rfl rfl Vf Tryd.underlying54 rfl (by kernel_rfl)) rfl ?_
        rw [HX.out]
        refine ⟨rel6.but.fresh bf (Nat.le_of_eq HS.out), ⟨h0, pr, ts, tt, (ys ++ [x]).map Lv.l⟩, _, rfl, ⟨⟨h0, pr, a8, c8, ts, tt, a4, c4, ys ++ [x]⟩, ?_, rfl, ⟨rel6.args.safe (Safe.but bf Z9 (by decide)), hrow6.safe (Safe.but bf Z9 (by decide)), fun y hy => (rel6.each y hy).safe (Safe.but bf Z9 (by decide))⟩⟩, Ps.Is.ok _ _, rel6.at_.but bf Z9 (by decide) (by decide)⟩
        rw [HV4.out]; rfl
    · have hc' : Ps.isT 5 [46] (Ps.hd L1) = false := by simpa using hc
      rw [hc']
      have HC := hideP hc
      clear hc hc'
      go_wp2_with fail
      refine (must_sign p E [44] (.ok L1) w5 rel5.at_ (by decide)).mono ?_
      rintro e w6 ⟨b6, _, _, rfl, rfl, _, q6⟩
      rw [Ps.run_ok] at q6
      have rel6 := rel5.next b6 q6 hp
      have HC6 : Hid ((∃ L'' n', Ps.stO (Ps.need E 5 [44] L1) = .ok L'' ∧ (ys ++ [x]).length + n' = 4 ∧ Ps.run st (Ps.rule E) = rkb h0 pr ts tt (ys ++ [x]) (Ps.bodyP E n' L'')) ∨ (∃ z, Ps.stO (Ps.need E 5 [44] L1) = .error z ∧ Ps.run st (Ps.rule E) = .error z ∧ (ys ++ [x]).length ≤ 5)) := by
        rcases hn4 : Ps.need E 5 [44] L1 with z | ⟨u, L2'⟩
        · exact .inr ⟨z, rfl, HND.out.trans (rkb_no h0 pr ts tt ys HL.out HC.out hn4), by omega⟩
        · exact .inl ⟨L2', m, rfl, by omega, HND.out.trans (rkb_more h0 pr ts tt ys HL.out HC.out hn4)⟩
      generalize Ps.stO (Ps.need E 5 [44] L1) = s6' at *
      go_wp2_with fail
      refine ⟨⟨ys ++ [x], s6', v4, rel6, HC6.out⟩, ?_⟩
      rw [HCB.out, rel6.cell, HV4.out]
      show 6 - (ys ++ [x]).length < 6 - ys.length
      omega
end Go.Proofs.YtcjfdackhgaigaaDoor
