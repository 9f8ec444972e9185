/-
  The reference's parser: arguments.
-/
import Derived.Test.YtcjfdackhgaigaaDoorQb8
namespace Go.Proofs.YtcjfdackhgaigaaDoor
open Go.RowKit Go.Lib Go.Shelf

theorem argsP_yes {E n : Nat} {L L1 : List Lx.Tok} (ys : List Tm) {t : Tm} (h : Ps.term E L = .ok (t, L1)) (hc : Ps.isT 5 [41] (Ps.hd L1) = true) : aprep ys (Ps.argsP E (n + 1) L) = .ok (ys ++ [t], L1.tail) := by
  rw [Ps.argsP_succ, h, Ps.bnd_ok, if_pos hc]; rfl
theorem argsP_more {E n : Nat} {L L1 L2 : List Lx.Tok} (ys : List Tm) {t : Tm} (h : Ps.term E L = .ok (t, L1)) (hc : ¬ Ps.isT 5 [41] (Ps.hd L1) = true) (hn : Ps.need E 5 [44] L1 = .ok ((), L2)) : aprep ys (Ps.argsP E (n + 1) L) = aprep (ys ++ [t]) (Ps.argsP E n L2) := by
  rw [Ps.argsP_succ, h, Ps.bnd_ok, if_neg hc, hn, Ps.bnd_ok]
  rcases Ps.argsP E n L2 with x | ⟨ts, L3⟩
  · rfl
  · simp [Ps.bnd, aprep]
theorem argsP_no {E n : Nat} {L L1 : List Lx.Tok} (ys : List Tm) {t : Tm} {x : Nat × Int} (h : Ps.term E L = .ok (t, L1)) (hc : ¬ Ps.isT 5 [41] (Ps.hd L1) = true) (hn : Ps.need E 5 [44] L1 = .error x) : aprep ys (Ps.argsP E (n + 1) L) = .error x := by
  rw [Ps.argsP_succ, h, Ps.bnd_ok, if_neg hc, hn]; rfl
theorem argsP_bad {E n : Nat} {L : List Lx.Tok} (ys : List Tm) {x : Nat × Int} (h : Ps.term E L = .error x) : aprep ys (Ps.argsP E (n + 1) L) = .error x := by
  rw [Ps.argsP_succ, h]; rfl
theorem many_yes {E : Nat} {L : List Lx.Tok} (h : Ps.mayT (Ps.hd L) = true) : (Ps.pl E L, (81 : Int)) = Ps.many E L := by unfold Ps.many; rw [if_pos h]

set_option maxRecDepth 100000 in
set_option maxHeartbeats 4000000 in
theorem args_q (p E : Nat) (st : Ps.St) (w : World) (h : QAt w p E st) :
    Calls Tryd.prog 32 #[ptr p] w (QDoes p E w (Ps.run st (Ps.paren E)) vTerms) := by
  go_enter Tryd.func32, Tryd.ntmps32
  go_wp2_with fail
  refine (must_sign p E [40] st w h (by decide)).mono ?_
  rintro e w1 ⟨b1, v1, u1, rfl, rfl, hi1, q1⟩
  have HR : Hid (Ps.run st (Ps.paren E) = Ps.run (Ps.stO (Ps.run st (Ps.need E 5 [40]))) fun L2 => if Ps.isT 5 [41] (Ps.hd L2) = true then .ok ([], L2.tail) else Ps.argsP E 4 L2) := by
    show _ = _
    exact Ps.run_step hi1 fun _ L2 => if Ps.isT 5 [41] (Ps.hd L2) = true then .ok ([], L2.tail) else Ps.argsP E 4 L2
  clear hi1
  generalize Ps.stO (Ps.run st (Ps.need E 5 [40])) = s1 at *
  go_wp2_with fail
  refine (ok_q p E s1 w1 q1).mono ?_
  rintro e w2 ⟨rfl, rfl⟩
  have LOOPJ : True := trivial
  rcases s1 with x | L2
  · have HE := hideP (HR.out.trans (Ps.run_err x _))
    clear HR
    simp only [isOk]
    go_wp2_with fail
    go_loopw [3] (fun v wr => w1 = wr) (fun _ _ => 0)
    case atStart => rfl
    case round =>
      obtain rfl := hrel
      go_wp2_with fail
      refine (ok_q p E _ w1 q1).mono ?_
      rintro e w2 ⟨rfl, rfl⟩
      simp only [isOk]
      go_wp2_with fail
      go_ret
      rw [HE.out]
      exact ⟨b1, [], _, rfl, ⟨none, 0, rfl, RowT.nil _ _ _⟩, Ps.Is.err _ _, q1⟩
  simp only [isOk]
  go_wp2_with fail
  refine (is_sign p E L2 [41] w1 q1 (by decide)).mono ?_
  rintro e w2 ⟨rfl, b2⟩
  have q2 := q1.below b2
  have B2 := b1.below b2
  by_cases hc : Ps.isT 5 [41] (Ps.hd L2) = true
  · have HE := hideP (HR.out.trans ((Ps.run_ok L2 _).trans (if_pos hc)))
    rw [hc]
    cases L2 with
    | nil => exact absurd rfl (Ps.hd_ne (by decide) hc)
    | cons t R =>
      clear HR hc
      go_wp2_with fail
      refine (take_q p E t R w2 q2).mono ?_
      rintro e w3 ⟨rfl, q3, b3⟩
      go_wp2_with fail
      go_ret
      rw [HE.out]
      exact ⟨B2.trans b3, [], _, rfl, ⟨none, 0, rfl, RowT.nil _ _ _⟩, Ps.Is.ok _ _, q3⟩
  have HE := hideP (HR.out.trans ((Ps.run_ok L2 _).trans (if_neg hc)))
  have hc' : Ps.isT 5 [41] (Ps.hd L2) = false := by simpa using hc
  rw [hc']
  clear HR hc hc'
  go_wp2_with fail
  go_loopw [3] (fun v wr => ∃ (ys : List Tm) (s : Ps.St), But p w wr ∧ QAt wr p E s ∧ wr.ownsRow w.heap.size 50 4 v ys.length (ys.flatMap tv) ∧ ((∃ L' n, s = .ok L' ∧ ys.length + n = 4 ∧ Ps.run st (Ps.paren E) = aprep ys (Ps.argsP E n L')) ∨ (∃ x, s = .error x ∧ Ps.run st (Ps.paren E) = .error x ∧ ys.length ≤ 5))) (fun v _ => 6 - lenOf v)
  case atStart => exact ⟨[], .ok L2, B2, q2, ⟨rfl, .inl ⟨rfl, rfl⟩⟩, .inl ⟨L2, 4, rfl, rfl, by rw [aprep_nil]; exact HE.out⟩⟩
  case round =>
    obtain ⟨ys, s, hb, hq, hown, hcase⟩ := hrel
    have hy5 : ys.length ≤ 5 := by
      rcases hcase with ⟨L', n, rfl, hn, hans⟩ | ⟨x, rfl, hx, hyl⟩ <;> omega
    obtain ⟨a0, c0, rfl, hrow, _⟩ := own_row (D := tK) hown (by omega)
    rcases hcase with ⟨L', n, rfl, hn, hans⟩ | ⟨x, rfl, hx, hyl⟩
    rotate_left
    · have HX := hideP hx
      clear hx
      go_wp2_with fail
      refine (ok_q p E _ wr hq).mono ?_
      rintro e w2 ⟨rfl, rfl⟩
      simp only [isOk]
      go_wp2_with fail
      go_ret
      rw [HX.out]
      exact ⟨hb, [], _, rfl, ⟨none, 0, rfl, RowT.nil _ _ _⟩, Ps.Is.err _ _, hq⟩
    have HAN := hideP hans
    clear hans HE
    have HBG := hideP (begins_q p E L' wr hq)
    cases n with
    | zero =>
      have HX0 := hideP (HAN.out.trans (show aprep ys (Ps.argsP E 0 L') = .error (Ps.many E L') from rfl))
      have HY : Hid (ys.length = 4) := by show _ = _; omega
      by_cases hm : Ps.mayT (Ps.hd L') = true
      · rw [hm] at HBG
        have HMY := hideP (many_yes (E := E) hm)
        have q0 : ((ys.length : Int) == 4) = true := by rw [beq_iff_eq]; omega
        clear hm
        go_wp2_with fail
        refine (ok_q p E _ wr hq).mono ?_
        rintro e w2 ⟨rfl, rfl⟩
        simp only [isOk]
        go_wp2_with fail
        refine HBG.out.mono ?_
        rintro e y1 ⟨rfl, d1⟩
        have k1 := hq.below d1
        go_wp2_with fail
        refine (fail_q p E 81 L' y1 k1 (by decide)).mono ?_
        rintro e y2 ⟨rfl, k2, d2⟩
        rw [HMY.out] at k2
        have OY := ownsRow_keep hown ((Safe.below (ty := 50) d1).trans (k1.safe d2 (by decide)))
        have BY := (hb.below d1).trans d2
        generalize Ps.many E L' = x at *
        have HX := HX0
        go_wp2_with fail
        refine (term_q p E (.error x) y2 k2).mono ?_
        rintro e w3 ⟨b3, t, u, rfl, rfl, ht3, q3⟩
        have O3 := ownsRow_keep OY ((k2.safe (ty := 50) b3 (by decide)).trans (Safe.below (below_alloc w3 (.cells (tv t).toArray 50))))
        have R3 := row_new tK w3 (tv t).toArray 50 t rfl
        have Q3 := q3.below (below_alloc w3 (.cells (tv t).toArray 50))
        have B3 := (BY.trans b3).below (below_alloc w3 (.cells (tv t).toArray 50))
        have HT3 := hideP ht3
        clear ht3
        have hfew : ys.length + [t].length ≤ 879609302220 := by simp only [List.length_cons, List.length_nil]; omega
        have q3 : QAt w3 p E (.error x) := q3
        have Q3 : QAt (w3.alloc (.cells (tv t).toArray 50)) p E (.error x) := Q3
        go_wp2_with (first
          | (refine wpList_build_one rfl 51 50 _ rfl (tv t) _ 4 48 rfl rfl (by decide) (by decide) Tryd.underlying51 Tryd.iTerm ?_)
          | (at_builtin; refine wpList_append_rec tK _ rfl _ _ 51 50 rfl _ 48 Tryd.underlying51 Tryd.iTerm rfl (by decide) w.heap.size (.slice a0 ys.length c0) ys [t] (some ⟨w3.heap.size, 0, none⟩) 1 1 rfl O3 rfl rfl R3 B3.size hfew ?_; intro v4 w4 o4 g4; have q4 := Q3.grown O3 g4 (by decide) (by decide); have B4 := B3.low (grown_low O3 g4 B3.size)))
        refine (ok_q p E _ w4 q4).mono ?_
        rintro e w5 ⟨rfl, rfl⟩
        simp only [isOk]
        go_wp2_with fail
        refine (must_sign p E [44] _ w4 q4 (by decide)).mono ?_
        rintro e w6 ⟨b6, _, _, rfl, rfl, _, q6⟩
        have q6 : QAt w6 p E (.error x) := q6
        have O6 := ownsRow_keep o4 (q4.safe (ty := 50) b6 (by decide))
        go_wp2_with fail
        refine ⟨⟨ys ++ [t], .error x, B4.trans b6, q6, O6, .inr ⟨x, rfl, HX.out, by simp only [List.length_append, List.length_cons, List.length_nil]; omega⟩⟩, ?_⟩
        obtain ⟨a5, c5, hv5, _, _⟩ := own_row (D := tK) O6 (by simp only [List.length_append, List.length_cons, List.length_nil]; omega)
        subst hv5
        simp only [lenOf, List.length_append, List.length_cons, List.length_nil]
        show 6 - (ys.length + 1) < 6 - ys.length
        omega
      · have hm' : Ps.mayT (Ps.hd L') = false := by simpa using hm
        rw [hm'] at HBG
        have HTB := hideP (term_bad (E := E) hm)
        clear hm hm'
        go_wp2_with fail
        refine (ok_q p E _ wr hq).mono ?_
        rintro e w2 ⟨rfl, rfl⟩
        simp only [isOk]
        go_wp2_with fail
        refine HBG.out.mono ?_
        rintro e y2 ⟨rfl, d1⟩
        have k2 := hq.below d1
        have OY := ownsRow_keep hown (Safe.below (ty := 50) d1)
        have BY := hb.below d1
        go_wp2_with fail
        refine (term_q p E (.ok L') y2 k2).mono ?_
        rintro e w3 ⟨b3, t, u, rfl, rfl, ht3, q3⟩
        have O3 := ownsRow_keep OY ((k2.safe (ty := 50) b3 (by decide)).trans (Safe.below (below_alloc w3 (.cells (tv t).toArray 50))))
        have R3 := row_new tK w3 (tv t).toArray 50 t rfl
        have Q3 := q3.below (below_alloc w3 (.cells (tv t).toArray 50))
        have B3 := (BY.trans b3).below (below_alloc w3 (.cells (tv t).toArray 50))
        have HT3 := hideP ht3
        clear ht3
        have hfew : ys.length + [t].length ≤ 879609302220 := by simp only [List.length_cons, List.length_nil]; omega
        have e3 : Ps.stO (Ps.run (.ok L') (Ps.term E)) = .error (Ps.many E L') := by rw [Ps.run_ok, HTB.out]; rfl
        rw [e3] at q3 Q3
        clear e3 HT3
        generalize Ps.many E L' = x at *
        have HX := HX0
        go_wp2_with (first
          | (refine wpList_build_one rfl 51 50 _ rfl (tv t) _ 4 48 rfl rfl (by decide) (by decide) Tryd.underlying51 Tryd.iTerm ?_)
          | (at_builtin; refine wpList_append_rec tK _ rfl _ _ 51 50 rfl _ 48 Tryd.underlying51 Tryd.iTerm rfl (by decide) w.heap.size (.slice a0 ys.length c0) ys [t] (some ⟨w3.heap.size, 0, none⟩) 1 1 rfl O3 rfl rfl R3 B3.size hfew ?_; intro v4 w4 o4 g4; have q4 := Q3.grown O3 g4 (by decide) (by decide); have B4 := B3.low (grown_low O3 g4 B3.size)))
        refine (ok_q p E _ w4 q4).mono ?_
        rintro e w5 ⟨rfl, rfl⟩
        simp only [isOk]
        go_wp2_with fail
        refine (must_sign p E [44] _ w4 q4 (by decide)).mono ?_
        rintro e w6 ⟨b6, _, _, rfl, rfl, _, q6⟩
        have q6 : QAt w6 p E (.error x) := q6
        have O6 := ownsRow_keep o4 (q4.safe (ty := 50) b6 (by decide))
        go_wp2_with fail
        refine ⟨⟨ys ++ [t], .error x, B4.trans b6, q6, O6, .inr ⟨x, rfl, HX.out, by simp only [List.length_append, List.length_cons, List.length_nil]; omega⟩⟩, ?_⟩
        obtain ⟨a5, c5, hv5, _, _⟩ := own_row (D := tK) O6 (by simp only [List.length_append, List.length_cons, List.length_nil]; omega)
        subst hv5
        simp only [lenOf, List.length_append, List.length_cons, List.length_nil]
        show 6 - (ys.length + 1) < 6 - ys.length
        omega
    | succ n =>
      have q0 : ((ys.length : Int) == 4) = false := beq_eq_false_iff_ne.2 (by omega)
      have q0' : ¬ (ys.length : Int) = 4 := by omega
      rcases term_split E L' with ⟨tk, R, rfl, ht, htm⟩ | ⟨ht, htm⟩
      rotate_left
      · rw [ht] at HBG
        have HX0 := hideP (HAN.out.trans (argsP_bad ys htm))
        have HTB := hideP htm
        clear ht htm HAN
        go_wp2_with fail
        refine (ok_q p E _ wr hq).mono ?_
        rintro e w2 ⟨rfl, rfl⟩
        simp only [isOk]
        go_wp2_with fail
        refine HBG.out.mono ?_
        rintro e y2 ⟨rfl, d1⟩
        have k2 := hq.below d1
        have OY := ownsRow_keep hown (Safe.below (ty := 50) d1)
        have BY := hb.below d1
        go_wp2_with fail
        refine (term_q p E (.ok L') y2 k2).mono ?_
        rintro e w3 ⟨b3, t, u, rfl, rfl, ht3, q3⟩
        have O3 := ownsRow_keep OY ((k2.safe (ty := 50) b3 (by decide)).trans (Safe.below (below_alloc w3 (.cells (tv t).toArray 50))))
        have R3 := row_new tK w3 (tv t).toArray 50 t rfl
        have Q3 := q3.below (below_alloc w3 (.cells (tv t).toArray 50))
        have B3 := (BY.trans b3).below (below_alloc w3 (.cells (tv t).toArray 50))
        have HT3 := hideP ht3
        clear ht3
        have hfew : ys.length + [t].length ≤ 879609302220 := by simp only [List.length_cons, List.length_nil]; omega
        have e3 : Ps.stO (Ps.run (.ok L') (Ps.term E)) = .error (Ps.bad E L') := by rw [Ps.run_ok, HTB.out]; rfl
        rw [e3] at q3 Q3
        clear e3 HT3
        generalize Ps.bad E L' = x at *
        have HX := HX0
        go_wp2_with (first
          | (refine wpList_build_one rfl 51 50 _ rfl (tv t) _ 4 48 rfl rfl (by decide) (by decide) Tryd.underlying51 Tryd.iTerm ?_)
          | (at_builtin; refine wpList_append_rec tK _ rfl _ _ 51 50 rfl _ 48 Tryd.underlying51 Tryd.iTerm rfl (by decide) w.heap.size (.slice a0 ys.length c0) ys [t] (some ⟨w3.heap.size, 0, none⟩) 1 1 rfl O3 rfl rfl R3 B3.size hfew ?_; intro v4 w4 o4 g4; have q4 := Q3.grown O3 g4 (by decide) (by decide); have B4 := B3.low (grown_low O3 g4 B3.size)))
        refine (ok_q p E _ w4 q4).mono ?_
        rintro e w5 ⟨rfl, rfl⟩
        simp only [isOk]
        go_wp2_with fail
        refine (must_sign p E [44] _ w4 q4 (by decide)).mono ?_
        rintro e w6 ⟨b6, _, _, rfl, rfl, _, q6⟩
        have q6 : QAt w6 p E (.error x) := q6
        have O6 := ownsRow_keep o4 (q4.safe (ty := 50) b6 (by decide))
        go_wp2_with fail
        refine ⟨⟨ys ++ [t], .error x, B4.trans b6, q6, O6, .inr ⟨x, rfl, HX.out, by simp only [List.length_append, List.length_cons, List.length_nil]; omega⟩⟩, ?_⟩
        obtain ⟨a5, c5, hv5, _, _⟩ := own_row (D := tK) O6 (by simp only [List.length_append, List.length_cons, List.length_nil]; omega)
        subst hv5
        simp only [lenOf, List.length_append, List.length_cons, List.length_nil]
        show 6 - (ys.length + 1) < 6 - ys.length
        omega
      rw [show Ps.hd (tk :: R) = tk from rfl, ht] at HBG
      have HTB := hideP htm
      clear ht
      go_wp2_with fail
      refine (ok_q p E _ wr hq).mono ?_
      rintro e w2 ⟨rfl, rfl⟩
      simp only [isOk]
      go_wp2_with fail
      refine HBG.out.mono ?_
      rintro e y2 ⟨rfl, d1⟩
      have k2 := hq.below d1
      have OY := ownsRow_keep hown (Safe.below (ty := 50) d1)
      have BY := hb.below d1
      go_wp2_with fail
      refine (term_q p E (.ok (tk :: R)) y2 k2).mono ?_
      rintro e w3 ⟨b3, t, u, rfl, rfl, ht3, q3⟩
      have O3 := ownsRow_keep OY ((k2.safe (ty := 50) b3 (by decide)).trans (Safe.below (below_alloc w3 (.cells (tv t).toArray 50))))
      have R3 := row_new tK w3 (tv t).toArray 50 t rfl
      have Q3 := q3.below (below_alloc w3 (.cells (tv t).toArray 50))
      have B3 := (BY.trans b3).below (below_alloc w3 (.cells (tv t).toArray 50))
      have HT3 := hideP ht3
      clear ht3
      have hfew : ys.length + [t].length ≤ 879609302220 := by simp only [List.length_cons, List.length_nil]; omega
      have et : t = Ps.tm tk := HT3.out _ R (by rw [Ps.run_ok, HTB.out])
      have e3 : Ps.stO (Ps.run (.ok (tk :: R)) (Ps.term E)) = .ok R := by rw [Ps.run_ok, HTB.out]; rfl
      rw [e3] at q3 Q3
      rw [← et] at htm
      have HTM := hideP htm
      clear e3 HT3 HTB htm et
      go_wp2_with (first
        | (refine wpList_build_one rfl 51 50 _ rfl (tv t) _ 4 48 rfl rfl (by decide) (by decide) Tryd.underlying51 Tryd.iTerm ?_)
        | (at_builtin; refine wpList_append_rec tK _ rfl _ _ 51 50 rfl _ 48 Tryd.underlying51 Tryd.iTerm rfl (by decide) w.heap.size (.slice a0 ys.length c0) ys [t] (some ⟨w3.heap.size, 0, none⟩) 1 1 rfl O3 rfl rfl R3 B3.size hfew ?_; intro v4 w4 o4 g4; have q4 := Q3.grown O3 g4 (by decide) (by decide); have B4 := B3.low (grown_low O3 g4 B3.size)))
      refine (ok_q p E _ w4 q4).mono ?_
      rintro e w5 ⟨rfl, rfl⟩
      simp only [isOk]
      go_wp2_with fail
      refine (is_sign p E R [41] w4 q4 (by decide)).mono ?_
      rintro e y5 ⟨rfl, d5⟩
      have q5 := q4.below d5
      have o5 := ownsRow_keep o4 (Safe.below (ty := 50) d5)
      have B5 := B4.below d5
      by_cases hc : Ps.isT 5 [41] (Ps.hd R) = true
      · have HE := hideP (HAN.out.trans (argsP_yes (n := n) ys HTM.out hc))
        rw [hc]
        cases R with
        | nil => exact absurd rfl (Ps.hd_ne (by decide) hc)
        | cons t2 R =>
          clear hc HAN
          go_wp2_with fail
          refine (take_q p E t2 R y5 q5).mono ?_
          rintro e w6 ⟨rfl, q6, b6⟩
          have o6 := ownsRow_keep o5 (q5.safe (ty := 50) b6 (by decide))
          go_wp2_with fail
          go_ret
          obtain ⟨a6, c6, hv6, r6, _⟩ := own_row (D := tK) o6 (by simp only [List.length_append, List.length_cons, List.length_nil]; omega)
          rw [HE.out]
          exact ⟨B5.trans b6, ys ++ [t], _, rfl, ⟨a6, c6, hv6, r6⟩, Ps.Is.ok _ _, q6⟩
      · have hc' : Ps.isT 5 [41] (Ps.hd R) = false := by simpa using hc
        rw [hc']
        have HC := hideP hc
        clear hc hc'
        go_wp2_with fail
        refine (must_sign p E [44] (.ok R) y5 q5 (by decide)).mono ?_
        rintro e w6 ⟨b6, _, _, rfl, rfl, _, q6⟩
        rw [Ps.run_ok] at q6
        have O6 := ownsRow_keep o5 (q5.safe (ty := 50) b6 (by decide))
        have HC6 : Hid ((∃ L'' n', Ps.stO (Ps.need E 5 [44] R) = .ok L'' ∧ (ys ++ [t]).length + n' = 4 ∧ Ps.run st (Ps.paren E) = aprep (ys ++ [t]) (Ps.argsP E n' L'')) ∨ (∃ x, Ps.stO (Ps.need E 5 [44] R) = .error x ∧ Ps.run st (Ps.paren E) = .error x ∧ (ys ++ [t]).length ≤ 5)) := by
          rcases hn4 : Ps.need E 5 [44] R with x | ⟨u, L2'⟩
          · exact .inr ⟨x, rfl, HAN.out.trans (argsP_no ys HTM.out HC.out hn4), by simp only [List.length_append, List.length_cons, List.length_nil]; omega⟩
          · exact .inl ⟨L2', n, rfl, by simp only [List.length_append, List.length_cons, List.length_nil]; omega, HAN.out.trans (argsP_more ys HTM.out HC.out hn4)⟩
        generalize Ps.stO (Ps.need E 5 [44] R) = s6 at *
        go_wp2_with fail
        refine ⟨⟨ys ++ [t], s6, B5.trans b6, q6, O6, HC6.out⟩, ?_⟩
        obtain ⟨a6, c6, hv6, _, _⟩ := own_row (D := tK) O6 (by simp only [List.length_append, List.length_cons, List.length_nil]; omega)
        subst hv6
        simp only [lenOf, List.length_append, List.length_cons, List.length_nil]
        show 6 - (ys.length + 1) < 6 - ys.length
        omega
end Go.Proofs.YtcjfdackhgaigaaDoor
