/-
  The reference's parser: a token that must come, a term, a word.
-/
import Derived.Test.YtcjfdackhgaigaaDoorQa
namespace Go.Proofs.YtcjfdackhgaigaaDoor
open Go.RowKit Go.Lib Go.Shelf

/-- what a part of the reference's parser does, whatever its state: its value is the mathematics', if there is one; its state, too -/
def QDoes {α : Type} (p E : Nat) (w : World) (r : Ps.Rz α) (V : α → Value → World → Prop) (e : Ending) (w' : World) : Prop :=
  But p w w' ∧ ∃ v u, e = .returned u ∧ V v u w' ∧ Ps.Is r v ∧ QAt w' p E (Ps.stO r)
def vWord : List UInt8 → Value → World → Prop := fun t u _ => u = str t

theorem must_err (p E : Nat) (k : Int) (s : List UInt8) (x : Nat × Int) (w : World) (h : QAt w p E (.error x)) :
    Calls Tryd.prog 30 #[ptr p, str s] w (QDoes p E w (Ps.run (.error x) (Ps.need E k s)) vUnit) := by
  have OK := hideP (ok_q p E _ w h)
  simp only [isOk] at OK
  go_enter Tryd.func30, Tryd.ntmps30
  go_wp2_with (first
    | (go_at_call 16; refine OK.out.mono ?_; rintro e w1 ⟨rfl, rfl⟩))
  refine bodyPost_ret (results_none rfl _ _ _) rfl ?_
  exact ⟨But.refl _ _, (), _, rfl, rfl, Ps.Is.err _ _, h⟩
theorem must_ok (p E : Nat) (k : Int) (s : List UInt8) (L : List Lx.Tok) (w : World) (h : QAt w p E (.ok L)) (hk0 : k ≠ 0)
    (hI : ∀ W, QAt W p E (.ok L) → Calls Tryd.prog 33 #[ptr p, str s] W fun e w' => e = .returned (.bool (Ps.isT k s (Ps.hd L))) ∧ Below W.heap.size W w') :
    Calls Tryd.prog 30 #[ptr p, str s] w (QDoes p E w (Ps.run (.ok L) (Ps.need E k s)) vUnit) := by
  have OK := hideP (ok_q p E _ w h)
  simp only [isOk] at OK
  have IS := hideP (hI w h)
  clear hI
  rw [Ps.run_ok]
  rcases need_split E k s L hk0 with ⟨t, R, rfl, ht, hn⟩ | ⟨ht, hn⟩
  · rw [show Ps.hd (t :: R) = t from rfl, ht] at IS
    rw [hn]
    clear ht hn hk0
    go_enter Tryd.func30, Tryd.ntmps30
    go_wp2_with (first
      | (go_at_call 16; refine OK.out.mono ?_; rintro e w1 ⟨rfl, rfl⟩)
      | (go_at_call 33; refine IS.out.mono ?_; rintro e w2 ⟨rfl, b2⟩)
      | (go_at_call 34; refine (take_q p E t R w2 (h.below b2)).mono ?_; rintro e w3 ⟨rfl, q3, b3⟩))
    go_end0
    exact ⟨(But.of_below b2).trans b3, (), _, rfl, rfl, Ps.Is.ok _ _, q3⟩
  · rw [ht] at IS
    rw [hn]
    clear ht hn hk0
    go_enter Tryd.func30, Tryd.ntmps30
    go_wp2_with (first
      | (go_at_call 16; refine OK.out.mono ?_; rintro e w1 ⟨rfl, rfl⟩)
      | (go_at_call 33; refine IS.out.mono ?_; rintro e w2 ⟨rfl, b2⟩)
      | (go_at_call 18; refine (fail_q p E 80 L w2 (h.below b2) (by decide)).mono ?_; rintro e w3 ⟨rfl, q3, b3⟩))
    refine bodyPost_ret (results_none rfl _ _ _) rfl ?_
    exact ⟨(But.of_below b2).trans b3, (), _, rfl, rfl, Ps.Is.err _ _, q3⟩
theorem must_sign (p E : Nat) (s : List UInt8) (st : Ps.St) (w : World) (h : QAt w p E st) (hs : Ps.kept s = false) :
    Calls Tryd.prog 30 #[ptr p, str s] w (QDoes p E w (Ps.run st (Ps.need E 5 s)) vUnit) := by
  rcases st with x | L
  · exact must_err p E 5 s x w h
  · exact must_ok p E 5 s L w h (by decide) fun W hW => is_sign p E L s W hW hs
theorem must_word (p E : Nat) (s : List UInt8) (st : Ps.St) (w : World) (h : QAt w p E st) (hs : Ps.kept s = true) :
    Calls Tryd.prog 30 #[ptr p, str s] w (QDoes p E w (Ps.run st (Ps.need E 1 s)) vUnit) := by
  rcases st with x | L
  · exact must_err p E 1 s x w h
  · exact must_ok p E 1 s L w h (by decide) fun W hW => is_word p E L s W hW hs

abbrev zTm : Obj := .cells #[.string { data := #[] }, .bool false, .int .i64 0, .string { data := #[] }] 50
set_option maxRecDepth 100000 in
set_option maxHeartbeats 2000000 in
theorem term_q (p E : Nat) (st : Ps.St) (w : World) (h : QAt w p E st) :
    Calls Tryd.prog 29 #[ptr p] w (QDoes p E w (Ps.run st (Ps.term E)) vTerm) := by
  have iN : (Tryd.prog.info? 35).map (·.size) = some 4 := by kernel_rfl
  have iT : (Tryd.prog.info? 50).map (·.size) = some 4 := by kernel_rfl
  have B0 := below_alloc w zTm
  have Z0 := heap_alloc_new w zTm
  have H0 := h.below B0
  have hp := h.lt
  have OK := hideP (ok_q p E st _ H0)
  rcases st with x | L
  · simp only [isOk] at OK
    go_enter Tryd.func29, Tryd.ntmps29
    go_wp2_with (first
      | (go_at_call 16; refine OK.out.mono ?_; rintro e w1 ⟨rfl, rfl⟩)
      | (refine wpList_store_all rfl 50 _ _ rfl w.heap.size 4 _ 50 (tv t0) rfl rfl Z0 rfl rfl iT rfl ?_; intro w5 V5 b5))
    exact bodyPost_ret (results_cell rfl rfl V5 Tryd.underlying50 rfl (by kernel_rfl)) rfl ⟨(But.of_below B0).fresh b5 (Nat.le_refl _), t0, _, rfl, rfl, Ps.Is.err _ _, H0.but b5 Z0 (by decide) (by decide)⟩
  · simp only [isOk] at OK
    rw [Ps.run_ok]
    have BG := hideP (begins_q p E L _ H0)
    rcases term_split E L with ⟨t, R, rfl, ht, hn⟩ | ⟨ht, hn⟩
    · rw [show Ps.hd (t :: R) = t from rfl, ht] at BG
      rw [hn]
      clear ht hn
      have NX := hideP (fun W hW => next_q p E (t :: R) W hW)
      simp only [nx] at NX
      obtain ⟨kd, tx, n, pl⟩ := t
      by_cases k2 : kd = 2
      · subst k2
        have HT := hideP (show vTerm (Ps.tm ⟨2, tx, n, pl⟩) (tval ⟨tx, k0⟩) w from rfl)
        go_enter Tryd.func29, Tryd.ntmps29
        go_wp2_with (first
          | (go_at_call 16; refine OK.out.mono ?_; rintro e w1 ⟨rfl, rfl⟩)
          | (go_at_call 17; refine BG.out.mono ?_; rintro e w2 ⟨rfl, b2⟩; have H2 := H0.below b2; have Z2 := below_heap b2 Z0)
          | (go_at_call 27; refine (NX.out _ H2).mono ?_; rintro e w3 ⟨rfl, b3⟩; have H3 := H2.below b3; have Z3 := below_heap b3 Z2)
          | (refine wpList_store_all rfl 35 _ _ rfl w3.heap.size 4 _ 35 (tokv ⟨2, tx, n, pl⟩) rfl rfl (heap_alloc_new w3 zT) rfl rfl iN rfl ?_; intro w4 V4 b4; have H4 := H3.below (below_tok b4); have Z4 := below_heap (below_tok b4) Z3; have s4 := heap_lt Z3)
          | (go_at_call 34; refine (take_q p E _ R w4 H4).mono ?_; rintro e w5 ⟨rfl, q5, b5⟩; have Z5 := b5.heap (show w.heap.size ≠ p by omega) Z4; have V5 := b5.heap (show w3.heap.size ≠ p by omega) V4; obtain ⟨x1, x2, x3, x4⟩ := tok_blk V5)
          | (refine wpList_store_all rfl 50 _ _ rfl w.heap.size 4 _ 50 (tv ⟨tx, k0⟩) rfl rfl Z5 rfl rfl iT rfl ?_; intro w6 V6 b6))
        have hb : But p w w6 := (((But.of_below B0).below (Below.then (Below.then b2 b3) (below_tok b4))).trans b5).fresh b6 (Nat.le_refl _)
        exact bodyPost_ret (results_cell rfl rfl V6 Tryd.underlying50 rfl (by kernel_rfl)) rfl ⟨hb, _, _, rfl, HT.out, Ps.Is.ok _ _, q5.but b6 Z5 (by decide) (by decide)⟩
      by_cases k3 : kd = 3
      · subst k3
        clear k2
        have HT := hideP (show vTerm (Ps.tm ⟨3, tx, n, pl⟩) (tval ⟨[], ⟨true, n, []⟩⟩) w from rfl)
        go_enter Tryd.func29, Tryd.ntmps29
        go_wp2_with (first
          | (go_at_call 16; refine OK.out.mono ?_; rintro e w1 ⟨rfl, rfl⟩)
          | (go_at_call 17; refine BG.out.mono ?_; rintro e w2 ⟨rfl, b2⟩; have H2 := H0.below b2; have Z2 := below_heap b2 Z0)
          | (go_at_call 27; refine (NX.out _ H2).mono ?_; rintro e w3 ⟨rfl, b3⟩; have H3 := H2.below b3; have Z3 := below_heap b3 Z2)
          | (refine wpList_store_all rfl 35 _ _ rfl w3.heap.size 4 _ 35 (tokv ⟨3, tx, n, pl⟩) rfl rfl (heap_alloc_new w3 zT) rfl rfl iN rfl ?_; intro w4 V4 b4; have H4 := H3.below (below_tok b4); have Z4 := below_heap (below_tok b4) Z3; have s4 := heap_lt Z3)
          | (go_at_call 34; refine (take_q p E _ R w4 H4).mono ?_; rintro e w5 ⟨rfl, q5, b5⟩; have Z5 := b5.heap (show w.heap.size ≠ p by omega) Z4; have V5 := b5.heap (show w3.heap.size ≠ p by omega) V4; obtain ⟨x1, x2, x3, x4⟩ := tok_blk V5)
          | (refine wpList_store_all rfl 50 _ _ rfl w.heap.size 4 _ 50 (tv ⟨[], ⟨true, n, []⟩⟩) rfl rfl Z5 rfl rfl iT rfl ?_; intro w6 V6 b6))
        have hb : But p w w6 := (((But.of_below B0).below (Below.then (Below.then b2 b3) (below_tok b4))).trans b5).fresh b6 (Nat.le_refl _)
        exact bodyPost_ret (results_cell rfl rfl V6 Tryd.underlying50 rfl (by kernel_rfl)) rfl ⟨hb, _, _, rfl, HT.out, Ps.Is.ok _ _, q5.but b6 Z5 (by decide) (by decide)⟩
      · have HT := hideP (show vTerm (Ps.tm ⟨kd, tx, n, pl⟩) (tval ⟨[], ⟨false, 0, tx⟩⟩) w by unfold vTerm Ps.tm; rw [if_neg k2, if_neg k3])
        go_enter Tryd.func29, Tryd.ntmps29
        go_wp2_with (first
          | (go_at_call 16; refine OK.out.mono ?_; rintro e w1 ⟨rfl, rfl⟩)
          | (go_at_call 17; refine BG.out.mono ?_; rintro e w2 ⟨rfl, b2⟩; have H2 := H0.below b2; have Z2 := below_heap b2 Z0)
          | (go_at_call 27; refine (NX.out _ H2).mono ?_; rintro e w3 ⟨rfl, b3⟩; have H3 := H2.below b3; have Z3 := below_heap b3 Z2)
          | (refine wpList_store_all rfl 35 _ _ rfl w3.heap.size 4 _ 35 (tokv ⟨kd, tx, n, pl⟩) rfl rfl (heap_alloc_new w3 zT) rfl rfl iN rfl ?_; intro w4 V4 b4; have H4 := H3.below (below_tok b4); have Z4 := below_heap (below_tok b4) Z3; have s4 := heap_lt Z3)
          | (go_at_call 34; refine (take_q p E _ R w4 H4).mono ?_; rintro e w5 ⟨rfl, q5, b5⟩; have Z5 := b5.heap (show w.heap.size ≠ p by omega) Z4; have V5 := b5.heap (show w3.heap.size ≠ p by omega) V4; obtain ⟨x1, x2, x3, x4⟩ := tok_blk V5)
          | (refine wpList_store_all rfl 50 _ _ rfl w.heap.size 4 _ 50 (tv ⟨[], ⟨false, 0, tx⟩⟩) rfl rfl Z5 rfl rfl iT rfl ?_; intro w6 V6 b6))
        have hb : But p w w6 := (((But.of_below B0).below (Below.then (Below.then b2 b3) (below_tok b4))).trans b5).fresh b6 (Nat.le_refl _)
        exact bodyPost_ret (results_cell rfl rfl V6 Tryd.underlying50 rfl (by kernel_rfl)) rfl ⟨hb, _, _, rfl, HT.out, Ps.Is.ok _ _, q5.but b6 Z5 (by decide) (by decide)⟩
    · rw [ht] at BG
      rw [hn]
      clear ht hn
      go_enter Tryd.func29, Tryd.ntmps29
      go_wp2_with (first
        | (go_at_call 16; refine OK.out.mono ?_; rintro e w1 ⟨rfl, rfl⟩)
        | (go_at_call 17; refine BG.out.mono ?_; rintro e w2 ⟨rfl, b2⟩; have H2 := H0.below b2; have Z2 := below_heap b2 Z0)
        | (go_at_call 18; refine (fail_q p E 80 L w2 H2 (by decide)).mono ?_; rintro e w3 ⟨rfl, q3, b3⟩; have Z3 := b3.heap (show w.heap.size ≠ p by omega) Z2)
        | (refine wpList_store_all rfl 50 _ _ rfl w.heap.size 4 _ 50 (tv t0) rfl rfl Z3 rfl rfl iT rfl ?_; intro w6 V6 b6))
      have hb : But p w w6 := (((But.of_below B0).below b2).trans b3).fresh b6 (Nat.le_refl _)
      exact bodyPost_ret (results_cell rfl rfl V6 Tryd.underlying50 rfl (by kernel_rfl)) rfl ⟨hb, t0, _, rfl, rfl, Ps.Is.err _ _, q3.but b6 Z3 (by decide) (by decide)⟩

set_option maxRecDepth 100000 in
set_option maxHeartbeats 2000000 in
theorem word_q (p E : Nat) (st : Ps.St) (w : World) (h : QAt w p E st) :
    Calls Tryd.prog 31 #[ptr p] w (QDoes p E w (Ps.run st (Ps.word E)) vWord) := by
  have iN : (Tryd.prog.info? 35).map (·.size) = some 4 := by kernel_rfl
  have hp := h.lt
  have OK := hideP (ok_q p E st w h)
  rcases st with x | L
  · simp only [isOk] at OK
    go_enter Tryd.func31, Tryd.ntmps31
    go_wp2_with (first
      | (go_at_call 16; refine OK.out.mono ?_; rintro e w1 ⟨rfl, rfl⟩))
    go_ret
    exact ⟨But.refl _ _, [], _, rfl, rfl, Ps.Is.err _ _, h⟩
  · simp only [isOk] at OK
    rw [Ps.run_ok]
    have NX := hideP (next_q p E L w h)
    have KP := hideP (fun W => kept_q (nx E L).text W)
    have HW : Hid (Ps.mayW (Ps.hd L) = (((nx E L).kind == 1) && !Ps.kept (nx E L).text)) := by show _ = _; rw [← nx_mayW E]; rfl
    rcases word_split E L with ⟨t, R, rfl, ht, hn⟩ | ⟨ht, hn⟩
    · rw [hn]
      have ht : Ps.mayW t = true := ht
      simp only [nx] at NX KP
      have hk : t.kind = 1 ∧ Ps.kept t.text = false := by
        simp only [Ps.mayW, Bool.and_eq_true, beq_iff_eq, Bool.not_eq_true'] at ht; exact ht
      rw [hk.2] at KP
      obtain ⟨kd, tx, n, pl⟩ := t
      obtain rfl : kd = 1 := hk.1
      clear ht hn hk HW
      go_enter Tryd.func31, Tryd.ntmps31
      go_wp2_with (first
        | (go_at_call 16; refine OK.out.mono ?_; rintro e w1 ⟨rfl, rfl⟩)
        | (go_at_call 27; refine NX.out.mono ?_; rintro e w3 ⟨rfl, b3⟩; have H3 := h.below b3)
        | (refine wpList_store_all rfl 35 _ _ rfl w3.heap.size 4 _ 35 (tokv ⟨1, tx, n, pl⟩) rfl rfl (heap_alloc_new w3 zT) rfl rfl iN rfl ?_; intro w4 V4 b4; have H4 := H3.below (below_tok b4); have s3 := b3.size; obtain ⟨x1, x2, x3, x4⟩ := tok_blk V4; simp only at x1 x2 x3 x4)
        | (go_at_call 28; refine (KP.out _).mono ?_; rintro e w7 ⟨rfl, rfl⟩)
        | (go_at_call 34; refine (take_q p E _ R w4 H4).mono ?_; rintro e w5 ⟨rfl, q5, b5⟩; have V5 := b5.heap (show w3.heap.size ≠ p by omega) V4; obtain ⟨y1, y2, y3, y4⟩ := tok_blk V5; simp only at y1 y2 y3 y4))
      go_ret
      have hb : But p w w5 := (But.of_below (Below.then b3 (below_tok b4))).trans b5
      exact ⟨hb, tx, _, rfl, rfl, Ps.Is.ok _ _, q5⟩
    · rw [ht] at HW
      rw [hn]
      clear ht hn
      generalize Ps.kept (nx E L).text = kp at *
      generalize nx E L = t at *
      obtain ⟨kd, tx, n, pl⟩ := t
      simp only at HW KP
      by_cases k1 : kd = 1
      · subst k1
        have hkp : kp = true := by
          have := HW.out
          cases kp
          · simp at this
          · rfl
        subst hkp
        clear HW
        go_enter Tryd.func31, Tryd.ntmps31
        go_wp2_with (first
          | (go_at_call 16; refine OK.out.mono ?_; rintro e w1 ⟨rfl, rfl⟩)
          | (go_at_call 27; refine NX.out.mono ?_; rintro e w3 ⟨rfl, b3⟩; have H3 := h.below b3)
          | (refine wpList_store_all rfl 35 _ _ rfl w3.heap.size 4 _ 35 (tokv ⟨1, tx, n, pl⟩) rfl rfl (heap_alloc_new w3 zT) rfl rfl iN rfl ?_; intro w4 V4 b4; have H4 := H3.below (below_tok b4); have s3 := b3.size; obtain ⟨x1, x2, x3, x4⟩ := tok_blk V4; simp only at x1 x2 x3 x4)
          | (go_at_call 28; refine (KP.out _).mono ?_; rintro e w7 ⟨rfl, rfl⟩)
          | (go_at_call 18; refine (fail_q p E 80 L w4 H4 (by decide)).mono ?_; rintro e w5 ⟨rfl, q5, b5⟩))
        go_ret
        have hb : But p w w5 := (But.of_below (Below.then b3 (below_tok b4))).trans b5
        exact ⟨hb, [], _, rfl, rfl, Ps.Is.err _ _, q5⟩
      · clear HW
        have q1 : (kd != 1) = true := by simpa using k1
        go_enter Tryd.func31, Tryd.ntmps31
        go_wp2_with (first
          | (go_at_call 16; refine OK.out.mono ?_; rintro e w1 ⟨rfl, rfl⟩)
          | (go_at_call 27; refine NX.out.mono ?_; rintro e w3 ⟨rfl, b3⟩; have H3 := h.below b3)
          | (refine wpList_store_all rfl 35 _ _ rfl w3.heap.size 4 _ 35 (tokv ⟨kd, tx, n, pl⟩) rfl rfl (heap_alloc_new w3 zT) rfl rfl iN rfl ?_; intro w4 V4 b4; have H4 := H3.below (below_tok b4); have s3 := b3.size; obtain ⟨x1, x2, x3, x4⟩ := tok_blk V4; simp only at x1 x2 x3 x4)
          | (go_at_call 28; refine (KP.out _).mono ?_; rintro e w7 ⟨rfl, rfl⟩)
          | (go_at_call 18; refine (fail_q p E 80 L w4 H4 (by decide)).mono ?_; rintro e w5 ⟨rfl, q5, b5⟩))
        go_ret
        have hb : But p w w5 := (But.of_below (Below.then b3 (below_tok b4))).trans b5
        exact ⟨hb, [], _, rfl, rfl, Ps.Is.err _ _, q5⟩
end Go.Proofs.YtcjfdackhgaigaaDoor
