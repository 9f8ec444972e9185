/-
  The program's parser: bodies, rules, programs.
-/
import Derived.Test.YtcncmpgababfjaaDoorQPf
import Derived.Test.YtcncmpgababfjaaDoorQSn
namespace Go.Proofs.YtcncmpgababfjaaDoor
open Go.RowKit Go.Lib Go.Shelf

theorem Tryd.iLit : (Tryd.prog.info? 39).map (fun i => (i.zero, i.size, i.bytes)) = some (some (.agg #[.string .empty, .bool false, .int .i64 0, .string .empty, .string .empty, .slice none 0 0, .string .empty, .bool false, .int .i64 0, .string .empty]), 10, 136) := by kernel_rfl
theorem Tryd.iRule : (Tryd.prog.info? 29).map (fun i => (i.zero, i.size, i.bytes)) = some (some (.agg #[.string .empty, .bool false, .int .i64 0, .string .empty, .string .empty, .slice none 0 0, .string .empty, .bool false, .int .i64 0, .string .empty, .slice none 0 0]), 11, 160) := by kernel_rfl
theorem body_zero {E : Nat} {L : List Lx.Tok} (ys : List Lt) : aprep ys (Ps.body E 0 L) = .error (Ps.many E L) := rfl
theorem body_err {E n : Nat} {L : List Lx.Tok} (ys : List Lt) {x : Nat × Int} (h : Ps.lit E L = .error x) : aprep ys (Ps.body E (n + 1) L) = .error x := by
  rw [Ps.body, h]; rfl
theorem body_more {E n : Nat} {L L1 : List Lx.Tok} (ys : List Lt) {t : Lt} (h : Ps.lit E L = .ok (t, L1)) (hc : Ps.isT 5 [44] (Ps.hd L1) = true) : aprep ys (Ps.body E (n + 1) L) = aprep (ys ++ [t]) (Ps.body E n L1.tail) := by
  rw [Ps.body, h, Ps.bnd_ok, if_pos hc]
  rcases Ps.body E n L1.tail with x | ⟨ts, L2⟩
  · rfl
  · simp [Ps.bnd, aprep]
theorem body_end {E n : Nat} {L L1 : List Lx.Tok} (ys : List Lt) {t : Lt} (h : Ps.lit E L = .ok (t, L1)) (hc : ¬ Ps.isT 5 [44] (Ps.hd L1) = true) : aprep ys (Ps.body E (n + 1) L) = .ok (ys ++ [t], L1) := by
  rw [Ps.body, h, Ps.bnd_ok, if_neg hc]; rfl
theorem lit_bad {E : Nat} {L : List Lx.Tok} (h : ¬ Ps.mayT (Ps.hd L) = true) : Ps.lit E L = .error (Ps.many E L) := by
  have hw : Ps.mayW (Ps.hd L) = false := by
    cases hm : Ps.mayW (Ps.hd L) with
    | true => exact absurd (Ps.mayW_T hm) h
    | false => rfl
  unfold Ps.lit Ps.by_ Ps.said
  rw [hw, if_pos (by rfl), term_bad h]; rfl
theorem rule_bad {E : Nat} {L : List Lx.Tok} (h : ¬ Ps.mayT (Ps.hd L) = true) : Ps.rule E L = .error (Ps.many E L) := by
  unfold Ps.rule; rw [term_bad h]; rfl

set_option maxRecDepth 100000 in
set_option maxHeartbeats 4000000 in
theorem body_at (p E : Nat) (L : List Lx.Tok) (w : World) (h : PAt w p E L) :
    Calls Tryd.prog 43 #[ptr p] w (Does p E w (Ps.body E 4 L) vLits) := by
  go_enter Tryd.func43, Tryd.ntmps43
  go_wp2_with fail
  go_loopw [2] (fun v wr => ∃ (ys : List Lv) (L' : List Lx.Tok) (n : Nat), ys.length + n = 4 ∧ wr.ownsRow w.heap.size 39 10 v ys.length (ys.flatMap lv) ∧ (∀ y ∈ ys, Lv.At wr y) ∧ PAt wr p E L' ∧ But p w wr ∧ Ps.body E 4 L = aprep (ys.map Lv.l) (Ps.body E n L')) (fun v _ => 4 - lenOf v)
  case atStart => exact ⟨[], L, 4, rfl, ⟨rfl, .inl ⟨rfl, rfl⟩⟩, (fun y hy => by simp at hy), h, But.refl _ _, (aprep_nil _).symm⟩
  case round =>
    obtain ⟨ys, L', n, hn, hown, each, hp, hb, hans⟩ := hrel
    have HAN := hideP hans
    clear hans
    obtain ⟨a0, c0, rfl, hrow, _⟩ := own_row (D := lK) hown (by omega)
    cases n with
    | zero =>
      have hy : ys.length = 4 := by omega
      have AL := hideP (allow_full p E 4 L' wr hp)
      have HE := hideP (HAN.out.trans (body_zero (ys.map Lv.l)))
      rw [HE.out]
      clear HAN
      rw [hy] at hown ⊢
      by_cases hm : Ps.mayT (Ps.hd L') = true
      · simp only [if_pos hm] at AL
        clear hm
        go_wp2_with (first
          | (go_at_call 25; refine AL.out.mono ?_; rintro e w1 ⟨b1, rfl⟩; simp only [Pan]))
        exact ⟨rfl, does_no (hb.below b1)⟩
      · simp only [if_neg hm] at AL
        have T := hideP (fun w hp => literal_at p E L' w hp)
        rw [lit_bad hm] at T
        clear hm
        go_wp2_with (first
          | (go_at_call 25; refine AL.out.mono ?_; rintro e w1 ⟨b1, rfl⟩; have p1 := hp.below b1)
          | (go_at_call 53; refine (T.out _ p1).mono ?_; rintro e w2 ⟨b2, rfl⟩; simp only [Pan]))
        exact ⟨rfl, does_no ((hb.below b1).trans b2)⟩
    | succ n =>
      have hy : ¬ (ys.length : Int) = 4 := by omega
      have AL := hideP (fun w => allow_few p (ys.length : Int) 4 w hy)
      have T := hideP (literal_at p E L' wr hp)
      rcases hq : Ps.lit E L' with z | ⟨t, R⟩
      · rw [hq] at T
        have HE := hideP (HAN.out.trans (body_err (ys.map Lv.l) hq))
        rw [HE.out]
        clear HAN hq
        go_wp2_with (first
          | (go_at_call 25; refine (AL.out _).mono ?_; rintro e w1 ⟨rfl, rfl⟩)
          | (go_at_call 53; refine T.out.mono ?_; rintro e w2 ⟨b2, rfl⟩; simp only [Pan]))
        exact ⟨rfl, does_no (hb.trans b2)⟩
      · rw [hq] at T
        have TK := hideP (fun w hp => took_at p E 5 [44] R w hp (by decide))
        by_cases hc : Ps.isT 5 [44] (Ps.hd R) = true
        · have HE := hideP (HAN.out.trans (body_more (n := n) (ys.map Lv.l) hq hc))
          rw [took_eq_yes hc] at TK
          clear HAN hq hc
          go_wp2_with (first
            | (go_at_call 25; refine (AL.out _).mono ?_; rintro e w1 ⟨rfl, rfl⟩)
            | (go_at_call 53; refine T.out.mono ?_; rintro e w2 ⟨b2, ⟨u, rfl, ⟨x, rfl, rfl, hx⟩⟩, p2⟩; have O2 := ownsRow_keep hown ((hp.safe (ty := 39) b2 (by decide)).trans (Safe.below (below_alloc w2 (.cells (lv x).toArray 39)))); have R2 := row_new lK w2 (lv x).toArray 39 x rfl; have P3 := p2.below (below_alloc w2 (.cells (lv x).toArray 39)); have b3 := (hb.trans b2).below (below_alloc w2 (.cells (lv x).toArray 39)); have hfew : ys.length + [x].length ≤ 879609302220 := (by simp only [List.length_cons, List.length_nil]; omega))
            | (refine wpList_build_one rfl 27 39 _ rfl (lv x) _ 10 136 rfl rfl (by decide) (by decide) Tryd.underlying27 Tryd.iLit ?_)
            | (at_builtin; refine wpList_append_rec lK _ rfl _ _ 27 39 rfl _ 136 Tryd.underlying27 Tryd.iLit rfl (by decide) w.heap.size (.slice a0 ys.length c0) ys [x] (some ⟨w2.heap.size, 0, none⟩) 1 1 rfl O2 rfl rfl R2 b3.size hfew ?_; intro v4 w4 o4 g4; have p4 := P3.grown O2 g4 (by decide) (by decide); have b4 := b3.low (grown_low O2 g4 b3.size); have S4 := (Safe.below (ty := 25) (below_alloc w2 (.cells (lv x).toArray 39))).trans (Safe.grown O2 g4 (by decide)))
            | (go_at_call 42; refine (TK.out _ p4).mono ?_; rintro e w5 ⟨rfl, p5, b5⟩))
          have O5 := ownsRow_keep o4 (p4.safe (ty := 39) b5 (by decide))
          have S5 := S4.trans (p4.safe (ty := 25) b5 (by decide))
          have each5 : ∀ y ∈ ys ++ [x], Lv.At w5 y := fun y hy => by
            rcases List.mem_append.1 hy with h1 | h1
            · exact (each y h1).safe ((hp.safe b2 (by decide)).trans S5)
            · obtain rfl := List.mem_singleton.1 h1
              exact hx.safe S5
          have hmap : (ys ++ [x]).map Lv.l = ys.map Lv.l ++ [x.l] := by simp
          refine ⟨⟨ys ++ [x], R.tail, n, by simp only [List.length_append, List.length_cons, List.length_nil]; omega, O5, each5, p5, b4.trans b5, by rw [hmap]; exact HE.out⟩, ?_⟩
          obtain ⟨a5, c5, hv5, _, _⟩ := own_row (D := lK) O5 (by simp only [List.length_append, List.length_cons, List.length_nil]; omega)
          subst hv5
          simp only [lenOf, List.length_append, List.length_cons, List.length_nil]
          show 4 - (ys.length + 1) < 4 - ys.length
          omega
        · have HE := hideP (HAN.out.trans (body_end (n := n) (ys.map Lv.l) hq hc))
          rw [took_eq_no hc] at TK
          clear HAN hq hc
          go_wp2_with (first
            | (go_at_call 25; refine (AL.out _).mono ?_; rintro e w1 ⟨rfl, rfl⟩)
            | (go_at_call 53; refine T.out.mono ?_; rintro e w2 ⟨b2, ⟨u, rfl, ⟨x, rfl, rfl, hx⟩⟩, p2⟩; have O2 := ownsRow_keep hown ((hp.safe (ty := 39) b2 (by decide)).trans (Safe.below (below_alloc w2 (.cells (lv x).toArray 39)))); have R2 := row_new lK w2 (lv x).toArray 39 x rfl; have P3 := p2.below (below_alloc w2 (.cells (lv x).toArray 39)); have b3 := (hb.trans b2).below (below_alloc w2 (.cells (lv x).toArray 39)); have hfew : ys.length + [x].length ≤ 879609302220 := (by simp only [List.length_cons, List.length_nil]; omega))
            | (refine wpList_build_one rfl 27 39 _ rfl (lv x) _ 10 136 rfl rfl (by decide) (by decide) Tryd.underlying27 Tryd.iLit ?_)
            | (at_builtin; refine wpList_append_rec lK _ rfl _ _ 27 39 rfl _ 136 Tryd.underlying27 Tryd.iLit rfl (by decide) w.heap.size (.slice a0 ys.length c0) ys [x] (some ⟨w2.heap.size, 0, none⟩) 1 1 rfl O2 rfl rfl R2 b3.size hfew ?_; intro v4 w4 o4 g4; have p4 := P3.grown O2 g4 (by decide) (by decide); have b4 := b3.low (grown_low O2 g4 b3.size); have S4 := (Safe.below (ty := 25) (below_alloc w2 (.cells (lv x).toArray 39))).trans (Safe.grown O2 g4 (by decide)))
            | (go_at_call 42; refine (TK.out _ p4).mono ?_; rintro e w5 ⟨rfl, p5, b5⟩))
          have O5 := ownsRow_keep o4 (p4.safe (ty := 39) b5 (by decide))
          have S5 := S4.trans (p4.safe (ty := 25) b5 (by decide))
          have each5 : ∀ y ∈ ys ++ [x], Lv.At w5 y := fun y hy => by
            rcases List.mem_append.1 hy with h1 | h1
            · exact (each y h1).safe ((hp.safe b2 (by decide)).trans S5)
            · obtain rfl := List.mem_singleton.1 h1
              exact hx.safe S5
          have hmap : (ys ++ [x]).map Lv.l = ys.map Lv.l ++ [x.l] := by simp
          obtain ⟨a5, c5, hv5, r5, _⟩ := own_row (D := lK) O5 (by simp only [List.length_append, List.length_cons, List.length_nil]; omega)
          go_ret
          rw [HE.out]
          exact does_ok (b4.trans b5) ⟨a5, c5, ys ++ [x], hv5, hmap, r5, each5⟩ p5

set_option maxRecDepth 100000 in
set_option maxHeartbeats 4000000 in
theorem rule_at (p E : Nat) (L : List Lx.Tok) (w : World) (h : PAt w p E L) :
    Calls Tryd.prog 26 #[ptr p] w (Does p E w (Ps.rule E L) vRule) := by
  have HM := hideP (fun L w hp => term_at p E L w hp)
  have HN := hideP (fun s L w hp => need_at p E 5 s L w hp (by decide))
  have HAt := hideP (fun L w hp => atom_at p E L w hp)
  have HBd := hideP (fun L w hp => body_at p E L w hp)
  have HT := hideP (fun L w hp => took_at p E 1 [116, 111] L w hp (by decide))
  have iN : (Tryd.prog.info? 29).map (·.size) = some 11 := by kernel_rfl
  have hp := h.lt
  have B0 := below_alloc w zR
  have V0 := new_rule w
  have P0 := h.below B0
  have b0 : But p w (w.alloc zR) := But.of_below B0
  go_enter Tryd.func26, Tryd.ntmps26
  go_wp2_with fail
  refine (HM.out _ _ P0).mono ?_
  generalize hx : Ps.term E L = r1
  rintro e w1 ⟨b1, hd⟩
  generalize hS : w.heap.size = S at *
  have HS := hideP hS; clear hS
  have B1 := b0.trans b1
  rcases r1 with x | ⟨h0, L1⟩
  · obtain rfl := hd
    have HX := hideP hx; clear hx
    simp only [Pan]
    go_wp2_with fail
    exact ⟨rfl, by unfold Ps.rule; rw [HX.out]; exact does_no B1⟩
  have H1 := hideP hx; clear hx
  obtain ⟨⟨_, rfl, rfl⟩, p1⟩ := hd
  have V1 := b1.heap (show S ≠ p by omega) V0
  clear V0 P0 b0 b1 B0
  go_wp2_with (first
    | (refine wpList_store_rec rfl 25 _ _ rfl S 0 11 4 29 (tv h0) (rcs h0 [] (.slice none 0 0) t0 (.slice none 0 0)).toArray rfl rfl V1 rfl rfl (by decide) (by kernel_rfl) rfl rfl ?_; intro w2 V2 b2))
  have p2 := p1.but b2 V1 (by decide) (by decide)
  have B2 := B1.fresh b2 (Nat.le_of_eq HS.out)
  clear V1 p1 B1 b2
  refine (HN.out [58] L1 w2 p2).mono ?_
  generalize hx : Ps.need E 5 [58] L1 = r3
  rintro e w3 ⟨b3, hd⟩
  have B3 := B2.trans b3
  rcases r3 with x | ⟨_, L2⟩
  · obtain rfl := hd
    have HX := hideP hx; clear hx
    simp only [Pan]
    go_wp2_with fail
    exact ⟨rfl, by unfold Ps.rule; rw [H1.out, Ps.bnd_ok, HX.out]; exact does_no B3⟩
  have H3 := hideP hx; clear hx
  obtain ⟨⟨_, rfl, rfl⟩, p3⟩ := hd
  have V3 := b3.heap (show S ≠ p by omega) V2
  clear V2 p2 B2 b3
  go_wp2_with fail
  refine (HAt.out L2 w3 p3).mono ?_
  generalize hx : Ps.atom E L2 = r4
  rintro e w4 ⟨b4, hd⟩
  have B4 := B3.trans b4
  rcases r4 with x | ⟨⟨pr, ts⟩, L3⟩
  · obtain rfl := hd
    have HX := hideP hx; clear hx
    simp only [Pan]
    go_wp2_with fail
    exact ⟨rfl, by unfold Ps.rule; rw [H1.out, Ps.bnd_ok, H3.out, Ps.bnd_ok, HX.out]; exact does_no B4⟩
  have H4 := hideP hx; clear hx
  obtain ⟨⟨_, rfl, ⟨a4, c4, rfl, r4⟩⟩, p4⟩ := hd
  have V4 := b4.heap (show S ≠ p by omega) V3
  go_wp2_with (first
    | (refine wpList_store_cel rfl 9 _ _ rfl S 4 11 29 (str pr) (rcs h0 pr (.slice none 0 0) t0 (.slice none 0 0)).toArray rfl rfl V4 rfl (by decide) (by kernel_rfl) rfl rfl ?_; intro z5 U5 d5)
    | (refine wpList_store_cel rfl 26 _ _ rfl S 5 11 29 (.slice a4 ts.length c4) (rcs h0 pr (.slice a4 ts.length c4) t0 (.slice none 0 0)).toArray rfl rfl U5 rfl (by decide) (by kernel_rfl) rfl rfl ?_; intro w5 V5 b5))
  have p5 := (p4.but d5 V4 (by decide) (by decide)).but b5 U5 (by decide) (by decide)
  have r5 := (r4.safe (Safe.but d5 V4 (by decide))).safe (Safe.but b5 U5 (by decide))
  have B5 := (B4.fresh d5 (Nat.le_of_eq HS.out)).fresh b5 (Nat.le_of_eq HS.out)
  clear V3 p3 B3 b4 p4 r4 B4 V4 U5 d5 b5
  have TK := HT.out L3 w5 p5
  by_cases hc : Ps.isT 1 [116, 111] (Ps.hd L3) = true
  · rw [took_eq_yes hc] at TK
    have HC := hideP hc; clear hc
    refine TK.mono ?_
    rintro e z6 ⟨rfl, q6, d6⟩
    have U6 := d6.heap (show S ≠ p by omega) V5
    have t6 := r5.safe (p5.safe d6 (by decide))
    have D6 := B5.trans d6
    clear TK V5 p5 r5 B5 d6
    go_wp2_with fail
    refine (HM.out L3.tail z6 q6).mono ?_
    generalize hx : Ps.term E L3.tail = r6
    rintro e z7 ⟨d7, hd⟩
    have D7 := D6.trans d7
    rcases r6 with x | ⟨to, L4⟩
    · obtain rfl := hd
      have HX := hideP hx; clear hx
      simp only [Pan]
      go_wp2_with fail
      exact ⟨rfl, by unfold Ps.rule; rw [H1.out, Ps.bnd_ok, H3.out, Ps.bnd_ok, H4.out, Ps.bnd_ok]; unfold Ps.opt Ps.to; rw [if_pos HC.out, HX.out]; exact does_no D7⟩
    have H6 := hideP hx; clear hx
    obtain ⟨⟨_, rfl, rfl⟩, q7⟩ := hd
    have U7 := d7.heap (show S ≠ p by omega) U6
    have t7 := t6.safe (q6.safe d7 (by decide))
    go_wp2_with (first
      | (refine wpList_store_rec rfl 25 _ _ rfl S 6 11 4 29 (tv to) (rcs h0 pr (.slice a4 ts.length c4) to (.slice none 0 0)).toArray rfl rfl U7 rfl rfl (by decide) (by kernel_rfl) rfl rfl ?_; intro w6 V6 d8))
    have p6 := q7.but d8 U7 (by decide) (by decide)
    have r6 := t7.safe (Safe.but d8 U7 (by decide))
    have B6 := D7.fresh d8 (Nat.le_of_eq HS.out)
    have HEQ : Hid (Ps.rule E L = Ps.bnd (Ps.need E 5 [58, 45] L4) fun _ L5 => Ps.bnd (Ps.body E 4 L5) fun b L6 => Ps.bnd (Ps.need E 5 [46] L6) fun _ L7 => .ok (⟨h0, pr, ts, to, b⟩, L7)) := by
      show _ = _
      unfold Ps.rule; rw [H1.out, Ps.bnd_ok, H3.out, Ps.bnd_ok, H4.out, Ps.bnd_ok]; unfold Ps.opt Ps.to; rw [if_pos HC.out, H6.out]; rfl
    clear U6 t6 D6 q6 d7 D7 q7 U7 t7 d8 H1 H3 H4 H6 HC
    refine (HN.out [58, 45] L4 w6 p6).mono ?_
    generalize hx : Ps.need E 5 [58, 45] L4 = r7
    rintro e w7 ⟨b7, hd⟩
    have B7 := B6.trans b7
    rcases r7 with x | ⟨_, L5⟩
    · obtain rfl := hd
      have HX := hideP hx; clear hx
      simp only [Pan]
      go_wp2_with fail
      exact ⟨rfl, by rw [HEQ.out, HX.out]; exact does_no B7⟩
    have H7 := hideP hx; clear hx
    obtain ⟨⟨_, rfl, rfl⟩, p7⟩ := hd
    have V7 := b7.heap (show S ≠ p by omega) V6
    have r7 := r6.safe (p6.safe b7 (by decide))
    clear V6 p6 r6 B6 b7
    go_wp2_with fail
    refine (HBd.out L5 w7 p7).mono ?_
    generalize hx : Ps.body E 4 L5 = r8
    rintro e w8 ⟨b8, hd⟩
    have B8 := B7.trans b8
    rcases r8 with x | ⟨ls, L6⟩
    · obtain rfl := hd
      have HX := hideP hx; clear hx
      simp only [Pan]
      go_wp2_with fail
      exact ⟨rfl, by rw [HEQ.out, H7.out, Ps.bnd_ok, HX.out]; exact does_no B8⟩
    have H8 := hideP hx; clear hx
    obtain ⟨⟨_, rfl, ⟨a8, c8, xs, rfl, hls, s8, e8⟩⟩, p8⟩ := hd
    have V8 := b8.heap (show S ≠ p by omega) V7
    have r8 := r7.safe (p7.safe b8 (by decide))
    clear V7 p7 r7 B7 b8
    have HLS := hideP hls; clear hls
    go_wp2_with (first
      | (refine wpList_store_cel rfl 27 _ _ rfl S 10 11 29 (.slice a8 xs.length c8) (rcs h0 pr (.slice a4 ts.length c4) to (.slice a8 xs.length c8)).toArray rfl rfl V8 rfl (by decide) (by kernel_rfl) rfl rfl ?_; intro w9 V9 b9))
    have p9 := p8.but b9 V8 (by decide) (by decide)
    have r9 := r8.safe (Safe.but b9 V8 (by decide))
    have s9 := s8.safe (Safe.but b9 V8 (by decide))
    have e9 : ∀ y ∈ xs, Lv.At w9 y := fun y hy => (e8 y hy).safe (Safe.but b9 V8 (by decide))
    have B9 := B8.fresh b9 (Nat.le_of_eq HS.out)
    clear V8 p8 r8 s8 e8 B8 b9
    refine (HN.out [46] L6 w9 p9).mono ?_
    generalize hx : Ps.need E 5 [46] L6 = r10
    rintro e w10 ⟨b10, hd⟩
    have B10 := B9.trans b10
    rcases r10 with x | ⟨_, L7⟩
    · obtain rfl := hd
      have HX := hideP hx; clear hx
      simp only [Pan]
      go_wp2_with fail
      exact ⟨rfl, by rw [HEQ.out, H7.out, Ps.bnd_ok, H8.out, Ps.bnd_ok, HX.out]; exact does_no B10⟩
    have H10 := hideP hx; clear hx
    obtain ⟨⟨_, rfl, rfl⟩, p10⟩ := hd
    have V10 := b10.heap (show S ≠ p by omega) V9
    have sT := p9.safe (ty := 25) b10 (by decide)
    have sL := p9.safe (ty := 39) b10 (by decide)
    go_wp2_with (first
      | (refine wpList_load_all rfl 29 _ rfl S 11 29 (rcs h0 pr (.slice a4 ts.length c4) to (.slice a8 xs.length c8)) _ rfl V10 rfl Tryd.underlying29 rfl iN ?_)
      | (refine wpList_store_all rfl 29 _ _ rfl S 11 _ 29 (rcs h0 pr (.slice a4 ts.length c4) to (.slice a8 xs.length c8)) rfl rfl V10 rfl rfl iN rfl ?_; intro w11 V11 b11))
    have p11 := p10.but b11 V10 (by decide) (by decide)
    have zT := sT.trans (Safe.but (ty := 25) b11 V10 (by decide))
    have zL := sL.trans (Safe.but (ty := 39) b11 V10 (by decide))
    have B11 := B10.fresh b11 (Nat.le_of_eq HS.out)
    refine bodyPost_ret (results_cell (b := S) rfl rfl V11 Tryd.underlying29 rfl (by kernel_rfl)) rfl ?_
    rw [HEQ.out, H7.out, Ps.bnd_ok, H8.out, Ps.bnd_ok, H10.out, Ps.bnd_ok]
    exact does_ok B11 ⟨⟨h0, pr, a4, c4, ts, to, a8, c8, xs⟩, rfl, by show Ru.mk _ _ _ _ _ = _; rw [HLS.out], ⟨r9.safe zT, s9.safe zL, fun y hy => (e9 y hy).safe zT⟩⟩ p11
  · rw [took_eq_no hc] at TK
    have HC := hideP hc; clear hc
    refine TK.mono ?_
    rintro e w6 ⟨rfl, p6', d6⟩
    obtain ⟨to, hto⟩ : ∃ to, to = t0 := ⟨t0, rfl⟩
    obtain ⟨L4, hL4⟩ : ∃ L4, L4 = L3 := ⟨L3, rfl⟩
    have p6 : PAt w6 p E L4 := by rw [hL4]; exact p6'
    have V6 : w6.heap[S]? = some (.cells (rcs h0 pr (.slice a4 ts.length c4) to (.slice none 0 0)).toArray 29) := by rw [hto]; exact d6.heap (show S ≠ p by omega) V5
    have r6 := r5.safe (p5.safe d6 (by decide))
    have B6 := B5.trans d6
    have HEQ : Hid (Ps.rule E L = Ps.bnd (Ps.need E 5 [58, 45] L4) fun _ L5 => Ps.bnd (Ps.body E 4 L5) fun b L6 => Ps.bnd (Ps.need E 5 [46] L6) fun _ L7 => .ok (⟨h0, pr, ts, to, b⟩, L7)) := by
      show _ = _
      rw [hto, hL4]
      unfold Ps.rule; rw [H1.out, Ps.bnd_ok, H3.out, Ps.bnd_ok, H4.out, Ps.bnd_ok]; unfold Ps.opt Ps.to; rw [if_neg HC.out]; rfl
    clear TK V5 p5 r5 B5 d6 p6' hto hL4 H1 H3 H4 HC
    go_wp2_with fail
    refine (HN.out [58, 45] L4 w6 p6).mono ?_
    generalize hx : Ps.need E 5 [58, 45] L4 = r7
    rintro e w7 ⟨b7, hd⟩
    have B7 := B6.trans b7
    rcases r7 with x | ⟨_, L5⟩
    · obtain rfl := hd
      have HX := hideP hx; clear hx
      simp only [Pan]
      go_wp2_with fail
      exact ⟨rfl, by rw [HEQ.out, HX.out]; exact does_no B7⟩
    have H7 := hideP hx; clear hx
    obtain ⟨⟨_, rfl, rfl⟩, p7⟩ := hd
    have V7 := b7.heap (show S ≠ p by omega) V6
    have r7 := r6.safe (p6.safe b7 (by decide))
    clear V6 p6 r6 B6 b7
    go_wp2_with fail
    refine (HBd.out L5 w7 p7).mono ?_
    generalize hx : Ps.body E 4 L5 = r8
    rintro e w8 ⟨b8, hd⟩
    have B8 := B7.trans b8
    rcases r8 with x | ⟨ls, L6⟩
    · obtain rfl := hd
      have HX := hideP hx; clear hx
      simp only [Pan]
      go_wp2_with fail
      exact ⟨rfl, by rw [HEQ.out, H7.out, Ps.bnd_ok, HX.out]; exact does_no B8⟩
    have H8 := hideP hx; clear hx
    obtain ⟨⟨_, rfl, ⟨a8, c8, xs, rfl, hls, s8, e8⟩⟩, p8⟩ := hd
    have V8 := b8.heap (show S ≠ p by omega) V7
    have r8 := r7.safe (p7.safe b8 (by decide))
    clear V7 p7 r7 B7 b8
    have HLS := hideP hls; clear hls
    go_wp2_with (first
      | (refine wpList_store_cel rfl 27 _ _ rfl S 10 11 29 (.slice a8 xs.length c8) (rcs h0 pr (.slice a4 ts.length c4) to (.slice a8 xs.length c8)).toArray rfl rfl V8 rfl (by decide) (by kernel_rfl) rfl rfl ?_; intro w9 V9 b9))
    have p9 := p8.but b9 V8 (by decide) (by decide)
    have r9 := r8.safe (Safe.but b9 V8 (by decide))
    have s9 := s8.safe (Safe.but b9 V8 (by decide))
    have e9 : ∀ y ∈ xs, Lv.At w9 y := fun y hy => (e8 y hy).safe (Safe.but b9 V8 (by decide))
    have B9 := B8.fresh b9 (Nat.le_of_eq HS.out)
    clear V8 p8 r8 s8 e8 B8 b9
    refine (HN.out [46] L6 w9 p9).mono ?_
    generalize hx : Ps.need E 5 [46] L6 = r10
    rintro e w10 ⟨b10, hd⟩
    have B10 := B9.trans b10
    rcases r10 with x | ⟨_, L7⟩
    · obtain rfl := hd
      have HX := hideP hx; clear hx
      simp only [Pan]
      go_wp2_with fail
      exact ⟨rfl, by rw [HEQ.out, H7.out, Ps.bnd_ok, H8.out, Ps.bnd_ok, HX.out]; exact does_no B10⟩
    have H10 := hideP hx; clear hx
    obtain ⟨⟨_, rfl, rfl⟩, p10⟩ := hd
    have V10 := b10.heap (show S ≠ p by omega) V9
    have sT := p9.safe (ty := 25) b10 (by decide)
    have sL := p9.safe (ty := 39) b10 (by decide)
    go_wp2_with (first
      | (refine wpList_load_all rfl 29 _ rfl S 11 29 (rcs h0 pr (.slice a4 ts.length c4) to (.slice a8 xs.length c8)) _ rfl V10 rfl Tryd.underlying29 rfl iN ?_)
      | (refine wpList_store_all rfl 29 _ _ rfl S 11 _ 29 (rcs h0 pr (.slice a4 ts.length c4) to (.slice a8 xs.length c8)) rfl rfl V10 rfl rfl iN rfl ?_; intro w11 V11 b11))
    have p11 := p10.but b11 V10 (by decide) (by decide)
    have zT := sT.trans (Safe.but (ty := 25) b11 V10 (by decide))
    have zL := sL.trans (Safe.but (ty := 39) b11 V10 (by decide))
    have B11 := B10.fresh b11 (Nat.le_of_eq HS.out)
    refine bodyPost_ret (results_cell (b := S) rfl rfl V11 Tryd.underlying29 rfl (by kernel_rfl)) rfl ?_
    rw [HEQ.out, H7.out, Ps.bnd_ok, H8.out, Ps.bnd_ok, H10.out, Ps.bnd_ok]
    exact does_ok B11 ⟨⟨h0, pr, a4, c4, ts, to, a8, c8, xs⟩, rfl, by show Ru.mk _ _ _ _ _ = _; rw [HLS.out], ⟨r9.safe zT, s9.safe zL, fun y hy => (e9 y hy).safe zT⟩⟩ p11
end Go.Proofs.YtcncmpgababfjaaDoor
