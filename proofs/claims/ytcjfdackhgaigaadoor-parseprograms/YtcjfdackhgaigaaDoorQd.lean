/-
  The reference's parser: literals.
-/
import Derived.Deep.Cut
import Derived.Deep.DeepCutAuto
import Derived.Test.YtcjfdackhgaigaaDoorQc
namespace Go.Proofs.YtcjfdackhgaigaaDoor
open Go.RowKit Go.Lib Go.Shelf

theorem two_cells {w : World} {P O c : Nat} {ta tb : Lx.Tok} {R : List Lx.Tok} (h : RowT kT 35 w (some ⟨P, O, none⟩) c (ta :: tb :: R)) : w.cell? ⟨P, O + 4, none⟩ = some (.int .i64 tb.kind) ∧ w.cell? ⟨P, O + 4 + 1, none⟩ = some (str tb.text) := by
  have hr := h.row.range 1 (by simp)
  exact ⟨hr 0 _ rfl, hr 1 _ rfl⟩

theorem lit_said {E : Nat} {L : List Lx.Tok} (h : Ps.saidR L = true) : Ps.lit E L = Ps.bnd (Ps.term E L) fun b L1 => Ps.bnd (Ps.need E 1 Ps.says L1) fun _ L2 => Ps.bnd (Ps.word E L2) fun p L3 => Ps.bnd (Ps.paren E L3) fun ts L4 => Ps.bnd (Ps.opt E Ps.at_ L4) fun a L5 => .ok ((⟨b, p, ts, a⟩ : Lt), L5) := by
  rw [Ps.lit_eq, Ps.byR, if_pos h]
  rcases Ps.term E L with x | ⟨t, L1⟩
  · rfl
  rw [Ps.bnd_ok, Ps.bnd_ok]
  rcases Ps.need E 1 Ps.says L1 with x | ⟨_, L2⟩
  · rfl
  · rfl
theorem lit_bare {E : Nat} {L : List Lx.Tok} (h : Ps.saidR L = false) : Ps.lit E L = Ps.bnd (Ps.word E L) fun p L3 => Ps.bnd (Ps.paren E L3) fun ts L4 => Ps.bnd (Ps.opt E Ps.at_ L4) fun a L5 => .ok ((⟨t0, p, ts, a⟩ : Lt), L5) := by
  rw [Ps.lit_eq, Ps.byR, if_neg (by rw [h]; decide), Ps.bnd_ok]

set_option maxRecDepth 100000 in
set_option maxHeartbeats 4000000 in
theorem literal_q (p E : Nat) (st : Ps.St) (w : World) (h : QAt w p E st) :
    Calls Tryd.prog 35 #[ptr p] w (QDoes p E w (Ps.run st (Ps.lit E)) vLit) := by
  have iN : (Tryd.prog.info? 58).map (·.size) = some 10 := by kernel_rfl
  have hp := h.lt
  have B0 := Below.then (below_alloc w zL) (below_alloc (w.alloc zL) zL)
  have Z0 : ((w.alloc zL).alloc zL).heap[w.heap.size]? = some (.cells (lcs t0 [] (.slice none 0 0) t0).toArray 58) := below_heap (below_alloc _ zL) (new_lit w)
  have V0 : ((w.alloc zL).alloc zL).heap[w.heap.size + 1]? = some (.cells (lcs t0 [] (.slice none 0 0) t0).toArray 58) := by
    have := new_lit (w.alloc zL)
    rwa [show (w.alloc zL).heap.size = w.heap.size + 1 by simp] at this
  have Q0 := h.below B0
  have b0 : But p w ((w.alloc zL).alloc zL) := But.of_below B0
  have OK := hideP (ok_q p E st _ Q0)
  go_enter Tryd.func35, Tryd.ntmps35
  go_wp2_with fail
  refine OK.out.mono ?_
  rintro e w1 ⟨rfl, hw1⟩
  generalize hS : w.heap.size = S at *
  have HS := hideP hS; clear hS
  rw [hw1] at V0 Z0 Q0 b0
  clear hw1 OK B0
  rcases st with x | L
  · simp only [isOk]
    go_wp2_with (first
      | (refine wpList_load_all rfl 58 _ rfl (S + 1) 10 58 (lcs t0 [] (.slice none 0 0) t0) _ rfl V0 rfl Tryd.underlying58 rfl iN ?_)
      | (refine wpList_store_all rfl 58 _ _ rfl S 10 _ 58 (lcs t0 [] (.slice none 0 0) t0) rfl rfl Z0 rfl rfl iN rfl ?_; intro wf Vf bf))
    refine bodyPost_ret (results_cell (b := S) rfl rfl Vf Tryd.underlying58 rfl (by kernel_rfl)) rfl ?_
    exact ⟨b0.fresh bf (Nat.le_of_eq HS.out), _, _, rfl, ⟨⟨t0, [], none, 0, [], t0⟩, rfl, rfl, RowT.nil _ _ _⟩, Ps.Is.err _ _, Q0.but bf Z0 (by decide) (by decide)⟩
  simp only [isOk]
  obtain ⟨ta, tc, bad, hh, rr, hfit⟩ := Q0.ok
  have few := rr.row.few
  have c0 : w1.cell? ⟨p, 0, none⟩ = some (.slice ta L.length tc) := by rw [heap_cell hh]; rfl
  clear hfit hh
  go_upto_region 4 with fail
  go_cut [4] (fun t wc => t = .bool (Ps.isT 1 [115, 97, 121, 115] (Ps.hd L.tail)) ∧ w1 = wc)
  case first =>
    rcases L with _ | ⟨t, _ | ⟨u, R⟩⟩
    · simp only [List.length_nil] at c0
      go_wp2_with fail
      go_meet
      exact ⟨rfl, rfl⟩
    · simp only [List.length_cons, List.length_nil] at c0
      go_wp2_with fail
      go_meet
      exact ⟨rfl, rfl⟩
    · obtain ⟨P1, O1, rfl⟩ := rr.row.addr (by simp)
      obtain ⟨y1, y2⟩ := two_cells rr
      simp only [List.length_cons] at c0 few
      have q3 : (1 : Int) < ((R.length + 1 + 1 : Nat) : Int) := by omega
      have q4 : (1 : Int) < (R.length : Int) + 1 + 1 := by omega
      obtain ⟨kd, tx, n, pl⟩ := u
      simp only at y1 y2
      have HI : Hid (Ps.isT 1 [115, 97, 121, 115] (Ps.hd (t :: ⟨kd, tx, n, pl⟩ :: R).tail) = ((kd == 1) && (tx == [115, 97, 121, 115]))) := rfl
      clear rr
      go_wp2_with fail
      all_goals go_meet
      all_goals (refine ⟨?_, rfl⟩; rw [HI.out]; clear HI; simp_all)
  obtain ⟨rfl, rfl⟩ := hcut
  clear c0 few rr
  have NX := hideP (next_q p E L w1 Q0)
  have FK := fieldKind (nx E L)
  rw [nx_kind] at FK
  have HSD : Hid (Ps.saidR L = (Ps.isT 1 [115, 97, 121, 115] (Ps.hd L.tail) || !((Ps.hd L).kind == 1))) := rfl
  generalize Ps.isT 1 [115, 97, 121, 115] (Ps.hd L.tail) = q at *
  generalize nx E L = tn at *
  go_upto_region 5 with fail
  go_cut [41] (fun t wc => t = .bool (Ps.saidR L) ∧ Below w1.heap.size w1 wc)
  case first =>
    generalize (Ps.hd L).kind = kd at *
    cases q
    · go_wp2_with (first
        | (go_at_call 27; refine NX.out.mono ?_; rintro e w2 ⟨rfl, b2⟩))
      go_meet
      exact ⟨by rw [HSD.out]; simp [bne], b2⟩
    · go_wp2_with fail
      go_meet
      exact ⟨by rw [HSD.out]; rfl, Below.refl _ _⟩
  obtain ⟨rfl, bc⟩ := hcut
  have Qc := Q0.below bc
  have Vc := below_heap bc V0
  have Zc := below_heap bc Z0
  have Bc := b0.below bc
  clear Q0 V0 Z0 b0 bc NX FK HSD
  cases hsd : Ps.saidR L
  · obtain ⟨b, hb0⟩ : ∃ b, b = t0 := ⟨t0, rfl⟩
    obtain ⟨sB, hsB⟩ : ∃ sB : Ps.St, sB = .ok L := ⟨.ok L, rfl⟩
    have HB : Hid (Ps.run (.ok L) (Ps.lit E) = Ps.run sB fun L1 => Ps.bnd (Ps.word E L1) fun p L2 => Ps.bnd (Ps.paren E L2) fun ts L3 => Ps.bnd (Ps.opt E Ps.at_ L3) fun a L4 => .ok ((⟨b, p, ts, a⟩ : Lt), L4)) := by
      show _ = _
      rw [hsB, hb0, Ps.run_ok, Ps.run_ok, lit_bare hsd]
    have q5 : QAt wc p E sB := by rw [hsB]; exact Qc
    have V5 : wc.heap[S + 1]? = some (.cells (lcs b [] (.slice none 0 0) t0).toArray 58) := by rw [hb0]; exact Vc
    have Z5 := Zc
    have B5 := Bc
    clear hsd hb0 hsB Qc Vc Zc Bc
    generalize wc = w5 at *
    go_wp2_with fail
    refine (word_q p E sB w5 q5).mono ?_
    rintro e w6 ⟨b6, pr, _, rfl, rfl, hi6, q6⟩
    have HR6 := hideP (HB.out.trans (Ps.run_step hi6 fun p L2 => Ps.bnd (Ps.paren E L2) fun ts L3 => Ps.bnd (Ps.opt E Ps.at_ L3) fun a L4 => .ok ((⟨b, p, ts, a⟩ : Lt), L4)))
    clear hi6
    generalize Ps.stO (Ps.run sB (Ps.word E)) = s6 at *
    have V6 := b6.heap (show S + 1 ≠ p by omega) V5
    have Z6 := b6.heap (show S ≠ p by omega) Z5
    have B6 := B5.trans b6
    clear V5 Z5 B5 q5 b6 HB
    go_wp2_with (first
      | (refine wpList_store_cel rfl 9 _ _ rfl (S + 1) 4 10 58 (str pr) (lcs b pr (.slice none 0 0) t0).toArray rfl rfl V6 rfl (by decide) (by kernel_rfl) rfl rfl ?_; intro w7 V7 b7))
    have q7 := q6.but b7 V6 (by decide) (by decide)
    have Z7 := b7.heap (show S ≠ S + 1 by omega) Z6
    have B7 := B6.fresh b7 (by rw [HS.out]; exact Nat.le_succ _)
    clear V6 Z6 B6 q6 b7
    refine (args_q p E s6 w7 q7).mono ?_
    rintro e w8 ⟨b8, ts, _, rfl, ⟨a8, c8, rfl, r8⟩, hi8, q8⟩
    have HR8 := hideP (HR6.out.trans (Ps.run_step hi8 fun ts L3 => Ps.bnd (Ps.opt E Ps.at_ L3) fun a L4 => .ok ((⟨b, pr, ts, a⟩ : Lt), L4)))
    clear hi8
    generalize Ps.stO (Ps.run s6 (Ps.paren E)) = s8 at *
    have V8 := b8.heap (show S + 1 ≠ p by omega) V7
    have Z8 := b8.heap (show S ≠ p by omega) Z7
    have B8 := B7.trans b8
    clear V7 Z7 B7 q7 b8 HR6
    go_wp2_with (first
      | (refine wpList_store_cel rfl 51 _ _ rfl (S + 1) 5 10 58 (.slice a8 ts.length c8) (lcs b pr (.slice a8 ts.length c8) t0).toArray rfl rfl V8 rfl (by decide) (by kernel_rfl) rfl rfl ?_; intro w9 V9 b9))
    have q9 := q8.but b9 V8 (by decide) (by decide)
    have r9 := r8.safe (Safe.but b9 V8 (by decide))
    have Z9 := b9.heap (show S ≠ S + 1 by omega) Z8
    have B9 := B8.fresh b9 (by rw [HS.out]; exact Nat.le_succ _)
    clear V8 Z8 B8 q8 b9 r8
    refine (ok_q p E s8 w9 q9).mono ?_
    rintro e w10 ⟨rfl, rfl⟩
    rcases s8 with x | L3
    · have HX := hideP (HR8.out.trans (Ps.run_err x _))
      clear HR8
      simp only [isOk]
      go_wp2_with (first
        | (refine wpList_load_all rfl 58 _ rfl (S + 1) 10 58 (lcs b pr (.slice a8 ts.length c8) t0) _ rfl V9 rfl Tryd.underlying58 rfl iN ?_)
        | (refine wpList_store_all rfl 58 _ _ rfl S 10 _ 58 (lcs b pr (.slice a8 ts.length c8) t0) rfl rfl Z9 rfl rfl iN rfl ?_; intro wf Vf bf))
      refine bodyPost_ret (results_cell (b := S) rfl rfl Vf Tryd.underlying58 rfl (by kernel_rfl)) rfl ?_
      rw [HX.out]
      exact ⟨B9.fresh bf (Nat.le_of_eq HS.out), _, _, rfl, ⟨⟨b, pr, a8, c8, ts, t0⟩, rfl, rfl, r9.safe (Safe.but bf Z9 (by decide))⟩, Ps.Is.err _ _, q9.but bf Z9 (by decide) (by decide)⟩
    simp only [isOk]
    go_wp2_with fail
    refine (is_word p E L3 [97, 116] w9 q9 (by decide)).mono ?_
    rintro e w10 ⟨rfl, b10⟩
    have q10 := q9.below b10
    have r10 := r9.safe (Safe.below b10)
    have V10 := below_heap b10 V9
    have Z10 := below_heap b10 Z9
    have B10 := B9.below b10
    clear V9 Z9 B9 q9 b10 r9
    by_cases hc : Ps.isT 1 [97, 116] (Ps.hd L3) = true
    rotate_left
    · have HX : Hid (Ps.run (.ok L) (Ps.lit E) = .ok ((⟨b, pr, ts, t0⟩ : Lt), L3)) := by
        show _ = _
        rw [HR8.out, Ps.run_ok]; unfold Ps.opt Ps.at_; rw [if_neg hc]; rfl
      have hc' : Ps.isT 1 [97, 116] (Ps.hd L3) = false := by simpa using hc
      rw [hc']
      clear HR8 hc hc'
      go_wp2_with (first
        | (refine wpList_load_all rfl 58 _ rfl (S + 1) 10 58 (lcs b pr (.slice a8 ts.length c8) t0) _ rfl V10 rfl Tryd.underlying58 rfl iN ?_)
        | (refine wpList_store_all rfl 58 _ _ rfl S 10 _ 58 (lcs b pr (.slice a8 ts.length c8) t0) rfl rfl Z10 rfl rfl iN rfl ?_; intro wf Vf bf))
      refine bodyPost_ret (results_cell (b := S) rfl rfl Vf Tryd.underlying58 rfl (by kernel_rfl)) rfl ?_
      rw [HX.out]
      exact ⟨B10.fresh bf (Nat.le_of_eq HS.out), _, _, rfl, ⟨⟨b, pr, a8, c8, ts, t0⟩, rfl, rfl, r10.safe (Safe.but bf Z10 (by decide))⟩, Ps.Is.ok _ _, q10.but bf Z10 (by decide) (by decide)⟩
    rw [hc]
    cases L3 with
    | nil => exact absurd rfl (Ps.hd_ne (by decide) hc)
    | cons t3 R3 =>
      have HR9 : Hid (Ps.run (.ok L) (Ps.lit E) = Ps.bnd (Ps.run (.ok R3) (Ps.term E)) fun a L4 => .ok ((⟨b, pr, ts, a⟩ : Lt), L4)) := by
        show _ = _
        rw [HR8.out, Ps.run_ok]; unfold Ps.opt Ps.at_; rw [if_pos hc]; rfl
      clear HR8 hc
      go_wp2_with fail
      refine (take_q p E t3 R3 w10 q10).mono ?_
      rintro e w11 ⟨rfl, q11, b11⟩
      have r11 := r10.safe (q10.safe b11 (by decide))
      have V11 := b11.heap (show S + 1 ≠ p by omega) V10
      have Z11 := b11.heap (show S ≠ p by omega) Z10
      have B11 := B10.trans b11
      clear V10 Z10 B10 q10 b11 r10
      go_wp2_with fail
      refine (term_q p E _ w11 q11).mono ?_
      rintro e w12 ⟨b12, a, _, rfl, rfl, hi12, q12⟩
      have r12 := r11.safe (q11.safe b12 (by decide))
      have V12 := b12.heap (show S + 1 ≠ p by omega) V11
      have Z12 := b12.heap (show S ≠ p by omega) Z11
      have B12 := B11.trans b12
      have HR12 := hideP (HR9.out.trans (Ps.bnd_run hi12 fun a L4 => .ok ((⟨b, pr, ts, a⟩ : Lt), L4)))
      clear V11 Z11 B11 q11 b12 r11 HR9 hi12
      generalize Ps.stO (Ps.run (.ok R3) (Ps.term E)) = s12 at *
      go_wp2_with (first
        | (refine wpList_store_rec rfl 50 _ _ rfl (S + 1) 6 10 4 58 (tv a) (lcs b pr (.slice a8 ts.length c8) a).toArray rfl rfl V12 rfl rfl (by decide) (by kernel_rfl) rfl rfl ?_; intro w13 V13 b13; have Z13 := b13.heap (show S ≠ S + 1 by omega) Z12)
        | (refine wpList_load_all rfl 58 _ rfl (S + 1) 10 58 (lcs b pr (.slice a8 ts.length c8) a) _ rfl V13 rfl Tryd.underlying58 rfl iN ?_)
        | (refine wpList_store_all rfl 58 _ _ rfl S 10 _ 58 (lcs b pr (.slice a8 ts.length c8) a) rfl rfl Z13 rfl rfl iN rfl ?_; intro wf Vf bf))
      have q13 := q12.but b13 V12 (by decide) (by decide)
      have r13 := r12.safe (Safe.but b13 V12 (by decide))
      have B13 := B12.fresh b13 (by rw [HS.out]; exact Nat.le_succ _)
      refine bodyPost_ret (results_cell (b := S) rfl rfl Vf Tryd.underlying58 rfl (by kernel_rfl)) rfl ?_
      refine ⟨B13.fresh bf (Nat.le_of_eq HS.out), (⟨b, pr, ts, a⟩ : Lt), _, rfl, ⟨⟨b, pr, a8, c8, ts, a⟩, rfl, rfl, r13.safe (Safe.but bf Z13 (by decide))⟩, ?_, ?_⟩
      · rw [HR12.out]
        rcases s12 with x | L5
        · exact Ps.Is.err _ _
        · exact Ps.Is.ok _ _
      · rw [HR12.out, Ps.stO_ret]
        exact q13.but bf Z13 (by decide) (by decide)
  · have HA : Hid (Ps.run (.ok L) (Ps.lit E) = Ps.run (.ok L) fun L => Ps.bnd (Ps.term E L) fun b L1 => Ps.bnd (Ps.need E 1 Ps.says L1) fun _ L2 => Ps.bnd (Ps.word E L2) fun p L3 => Ps.bnd (Ps.paren E L3) fun ts L4 => Ps.bnd (Ps.opt E Ps.at_ L4) fun a L5 => .ok ((⟨b, p, ts, a⟩ : Lt), L5)) := by
      show _ = _
      rw [Ps.run_ok, Ps.run_ok, lit_said hsd]
    clear hsd
    go_wp2_with fail
    refine (term_q p E (.ok L) wc Qc).mono ?_
    rintro e w3 ⟨b3, b, _, rfl, rfl, hi3, q3⟩
    have HA3 := hideP (HA.out.trans (Ps.run_step hi3 fun b L1 => Ps.bnd (Ps.need E 1 Ps.says L1) fun _ L2 => Ps.bnd (Ps.word E L2) fun p L3 => Ps.bnd (Ps.paren E L3) fun ts L4 => Ps.bnd (Ps.opt E Ps.at_ L4) fun a L5 => .ok ((⟨b, p, ts, a⟩ : Lt), L5)))
    clear hi3 HA
    generalize Ps.stO (Ps.run (.ok L) (Ps.term E)) = s3 at *
    have V3 := b3.heap (show S + 1 ≠ p by omega) Vc
    have Z3 := b3.heap (show S ≠ p by omega) Zc
    have B3 := Bc.trans b3
    clear Qc Vc Zc Bc b3
    go_wp2_with (first
      | (refine wpList_store_rec rfl 50 _ _ rfl (S + 1) 0 10 4 58 (tv b) (lcs b [] (.slice none 0 0) t0).toArray rfl rfl V3 rfl rfl (by decide) (by kernel_rfl) rfl rfl ?_; intro w4 V4 b4))
    have q4 := q3.but b4 V3 (by decide) (by decide)
    have Z4 := b4.heap (show S ≠ S + 1 by omega) Z3
    have B4 := B3.fresh b4 (by rw [HS.out]; exact Nat.le_succ _)
    clear V3 Z3 B3 q3 b4
    refine (must_word p E [115, 97, 121, 115] s3 w4 q4 (by decide)).mono ?_
    rintro e w5 ⟨b5, v5, _, rfl, rfl, hi5, q5⟩
    have HB := hideP (HA3.out.trans (Ps.run_step (p := Ps.need E 1 Ps.says) hi5 fun _ L2 => Ps.bnd (Ps.word E L2) fun p L3 => Ps.bnd (Ps.paren E L3) fun ts L4 => Ps.bnd (Ps.opt E Ps.at_ L4) fun a L5 => .ok ((⟨b, p, ts, a⟩ : Lt), L5)))
    have q5 : QAt w5 p E (Ps.stO (Ps.run s3 (Ps.need E 1 Ps.says))) := q5
    clear hi5 HA3
    generalize Ps.stO (Ps.run s3 (Ps.need E 1 Ps.says)) = sB at *
    have V5 := b5.heap (show S + 1 ≠ p by omega) V4
    have Z5 := b5.heap (show S ≠ p by omega) Z4
    have B5 := B4.trans b5
    clear V4 Z4 B4 q4 b5
    go_wp2_with fail
    refine (word_q p E sB w5 q5).mono ?_
    rintro e w6 ⟨b6, pr, _, rfl, rfl, hi6, q6⟩
    have HR6 := hideP (HB.out.trans (Ps.run_step hi6 fun p L2 => Ps.bnd (Ps.paren E L2) fun ts L3 => Ps.bnd (Ps.opt E Ps.at_ L3) fun a L4 => .ok ((⟨b, p, ts, a⟩ : Lt), L4)))
    clear hi6
    generalize Ps.stO (Ps.run sB (Ps.word E)) = s6 at *
    have V6 := b6.heap (show S + 1 ≠ p by omega) V5
    have Z6 := b6.heap (show S ≠ p by omega) Z5
    have B6 := B5.trans b6
    clear V5 Z5 B5 q5 b6 HB
    go_wp2_with (first
      | (refine wpList_store_cel rfl 9 _ _ rfl (S + 1) 4 10 58 (str pr) (lcs b pr (.slice none 0 0) t0).toArray rfl rfl V6 rfl (by decide) (by kernel_rfl) rfl rfl ?_; intro w7 V7 b7))
    have q7 := q6.but b7 V6 (by decide) (by decide)
    have Z7 := b7.heap (show S ≠ S + 1 by omega) Z6
    have B7 := B6.fresh b7 (by rw [HS.out]; exact Nat.le_succ _)
    clear V6 Z6 B6 q6 b7
    refine (args_q p E s6 w7 q7).mono ?_
    rintro e w8 ⟨b8, ts, _, rfl, ⟨a8, c8, rfl, r8⟩, hi8, q8⟩
    have HR8 := hideP (HR6.out.trans (Ps.run_step hi8 fun ts L3 => Ps.bnd (Ps.opt E Ps.at_ L3) fun a L4 => .ok ((⟨b, pr, ts, a⟩ : Lt), L4)))
    clear hi8
    generalize Ps.stO (Ps.run s6 (Ps.paren E)) = s8 at *
    have V8 := b8.heap (show S + 1 ≠ p by omega) V7
    have Z8 := b8.heap (show S ≠ p by omega) Z7
    have B8 := B7.trans b8
    clear V7 Z7 B7 q7 b8 HR6
    go_wp2_with (first
      | (refine wpList_store_cel rfl 51 _ _ rfl (S + 1) 5 10 58 (.slice a8 ts.length c8) (lcs b pr (.slice a8 ts.length c8) t0).toArray rfl rfl V8 rfl (by decide) (by kernel_rfl) rfl rfl ?_; intro w9 V9 b9))
    have q9 := q8.but b9 V8 (by decide) (by decide)
    have r9 := r8.safe (Safe.but b9 V8 (by decide))
    have Z9 := b9.heap (show S ≠ S + 1 by omega) Z8
    have B9 := B8.fresh b9 (by rw [HS.out]; exact Nat.le_succ _)
    clear V8 Z8 B8 q8 b9 r8
    refine (ok_q p E s8 w9 q9).mono ?_
    rintro e w10 ⟨rfl, rfl⟩
    rcases s8 with x | L3
    · have HX := hideP (HR8.out.trans (Ps.run_err x _))
      clear HR8
      simp only [isOk]
      go_wp2_with (first
        | (refine wpList_load_all rfl 58 _ rfl (S + 1) 10 58 (lcs b pr (.slice a8 ts.length c8) t0) _ rfl V9 rfl Tryd.underlying58 rfl iN ?_)
        | (refine wpList_store_all rfl 58 _ _ rfl S 10 _ 58 (lcs b pr (.slice a8 ts.length c8) t0) rfl rfl Z9 rfl rfl iN rfl ?_; intro wf Vf bf))
      refine bodyPost_ret (results_cell (b := S) rfl rfl Vf Tryd.underlying58 rfl (by kernel_rfl)) rfl ?_
      rw [HX.out]
      exact ⟨B9.fresh bf (Nat.le_of_eq HS.out), _, _, rfl, ⟨⟨b, pr, a8, c8, ts, t0⟩, rfl, rfl, r9.safe (Safe.but bf Z9 (by decide))⟩, Ps.Is.err _ _, q9.but bf Z9 (by decide) (by decide)⟩
    simp only [isOk]
    go_wp2_with fail
    refine (is_word p E L3 [97, 116] w9 q9 (by decide)).mono ?_
    rintro e w10 ⟨rfl, b10⟩
    have q10 := q9.below b10
    have r10 := r9.safe (Safe.below b10)
    have V10 := below_heap b10 V9
    have Z10 := below_heap b10 Z9
    have B10 := B9.below b10
    clear V9 Z9 B9 q9 b10 r9
    by_cases hc : Ps.isT 1 [97, 116] (Ps.hd L3) = true
    rotate_left
    · have HX : Hid (Ps.run (.ok L) (Ps.lit E) = .ok ((⟨b, pr, ts, t0⟩ : Lt), L3)) := by
        show _ = _
        rw [HR8.out, Ps.run_ok]; unfold Ps.opt Ps.at_; rw [if_neg hc]; rfl
      have hc' : Ps.isT 1 [97, 116] (Ps.hd L3) = false := by simpa using hc
      rw [hc']
      clear HR8 hc hc'
      go_wp2_with (first
        | (refine wpList_load_all rfl 58 _ rfl (S + 1) 10 58 (lcs b pr (.slice a8 ts.length c8) t0) _ rfl V10 rfl Tryd.underlying58 rfl iN ?_)
        | (refine wpList_store_all rfl 58 _ _ rfl S 10 _ 58 (lcs b pr (.slice a8 ts.length c8) t0) rfl rfl Z10 rfl rfl iN rfl ?_; intro wf Vf bf))
      refine bodyPost_ret (results_cell (b := S) rfl rfl Vf Tryd.underlying58 rfl (by kernel_rfl)) rfl ?_
      rw [HX.out]
      exact ⟨B10.fresh bf (Nat.le_of_eq HS.out), _, _, rfl, ⟨⟨b, pr, a8, c8, ts, t0⟩, rfl, rfl, r10.safe (Safe.but bf Z10 (by decide))⟩, Ps.Is.ok _ _, q10.but bf Z10 (by decide) (by decide)⟩
    rw [hc]
    cases L3 with
    | nil => exact absurd rfl (Ps.hd_ne (by decide) hc)
    | cons t3 R3 =>
      have HR9 : Hid (Ps.run (.ok L) (Ps.lit E) = Ps.bnd (Ps.run (.ok R3) (Ps.term E)) fun a L4 => .ok ((⟨b, pr, ts, a⟩ : Lt), L4)) := by
        show _ = _
        rw [HR8.out, Ps.run_ok]; unfold Ps.opt Ps.at_; rw [if_pos hc]; rfl
      clear HR8 hc
      go_wp2_with fail
      refine (take_q p E t3 R3 w10 q10).mono ?_
      rintro e w11 ⟨rfl, q11, b11⟩
      have r11 := r10.safe (q10.safe b11 (by decide))
      have V11 := b11.heap (show S + 1 ≠ p by omega) V10
      have Z11 := b11.heap (show S ≠ p by omega) Z10
      have B11 := B10.trans b11
      clear V10 Z10 B10 q10 b11 r10
      go_wp2_with fail
      refine (term_q p E _ w11 q11).mono ?_
      rintro e w12 ⟨b12, a, _, rfl, rfl, hi12, q12⟩
      have r12 := r11.safe (q11.safe b12 (by decide))
      have V12 := b12.heap (show S + 1 ≠ p by omega) V11
      have Z12 := b12.heap (show S ≠ p by omega) Z11
      have B12 := B11.trans b12
      have HR12 := hideP (HR9.out.trans (Ps.bnd_run hi12 fun a L4 => .ok ((⟨b, pr, ts, a⟩ : Lt), L4)))
      clear V11 Z11 B11 q11 b12 r11 HR9 hi12
      generalize Ps.stO (Ps.run (.ok R3) (Ps.term E)) = s12 at *
      go_wp2_with (first
        | (refine wpList_store_rec rfl 50 _ _ rfl (S + 1) 6 10 4 58 (tv a) (lcs b pr (.slice a8 ts.length c8) a).toArray rfl rfl V12 rfl rfl (by decide) (by kernel_rfl) rfl rfl ?_; intro w13 V13 b13; have Z13 := b13.heap (show S ≠ S + 1 by omega) Z12)
        | (refine wpList_load_all rfl 58 _ rfl (S + 1) 10 58 (lcs b pr (.slice a8 ts.length c8) a) _ rfl V13 rfl Tryd.underlying58 rfl iN ?_)
        | (refine wpList_store_all rfl 58 _ _ rfl S 10 _ 58 (lcs b pr (.slice a8 ts.length c8) a) rfl rfl Z13 rfl rfl iN rfl ?_; intro wf Vf bf))
      have q13 := q12.but b13 V12 (by decide) (by decide)
      have r13 := r12.safe (Safe.but b13 V12 (by decide))
      have B13 := B12.fresh b13 (by rw [HS.out]; exact Nat.le_succ _)
      refine bodyPost_ret (results_cell (b := S) rfl rfl Vf Tryd.underlying58 rfl (by kernel_rfl)) rfl ?_
      refine ⟨B13.fresh bf (Nat.le_of_eq HS.out), (⟨b, pr, ts, a⟩ : Lt), _, rfl, ⟨⟨b, pr, a8, c8, ts, a⟩, rfl, rfl, r13.safe (Safe.but bf Z13 (by decide))⟩, ?_, ?_⟩
      · rw [HR12.out]
        rcases s12 with x | L5
        · exact Ps.Is.err _ _
        · exact Ps.Is.ok _ _
      · rw [HR12.out, Ps.stO_ret]
        exact q13.but bf Z13 (by decide) (by decide)
end Go.Proofs.YtcjfdackhgaigaaDoor
