/-
  ParseBlanks: its walk.
-/
import Derived.Test.YtcjfdackhgaigaaDoorPj
import Derived.Test.YtcjfdackhgaigaaDoorLs8
import Derived.Test.YtcjfdackhgaigaaDoorLm4
namespace Go.Proofs.YtcjfdackhgaigaaDoor
open Go.RowKit Go.Lib Go.Shelf

theorem wide_step {l m : List UInt8} {L : List Lx.Tok} {j f : Nat} {acc : List UInt8} (h : j < L.length) : (acc ++ (Lx.sub l f L[j].pl ++ m)) ++ Lx.wide l m L[j].pl (L.drop (j + 1)) = acc ++ Lx.wide l m f (L.drop j) := by
  rw [List.drop_eq_getElem_cons h, Lx.wide]
  simp [List.append_assoc]
theorem tks_pair {l : List UInt8} : ∀ (L : List Lx.Tok) (i : Nat), Lx.tks l i = .ok L → L.Pairwise fun a b => a.pl ≤ b.pl
  | [], _, _ => List.Pairwise.nil
  | t :: R, i, h => by
    obtain ⟨hi, e, ho, hn⟩ := Lx.tks_inv h
    have hp := Lx.one_pl ho
    have hg := Lx.one_gt hi ho
    refine List.Pairwise.cons (fun u hu => ?_) (tks_pair R _ hn)
    have := Lx.tks_rise R e hn u hu
    omega
theorem ans_pair {l : List UInt8} {L : List Lx.Tok} (h : Lx.ans l = .ok L) : L.Pairwise fun a b => a.pl ≤ b.pl := by
  unfold Lx.ans at h
  split at h
  · cases h
  · exact tks_pair L _ h
theorem pair_drop {L : List Lx.Tok} (h : L.Pairwise fun a b => a.pl ≤ b.pl) {j : Nat} (hj : j < L.length) : ∀ t ∈ L.drop (j + 1), L[j].pl ≤ t.pl := by
  have h1 : (L.drop j).Pairwise fun a b => a.pl ≤ b.pl := h.sublist (List.drop_sublist _ _)
  rw [List.drop_eq_getElem_cons hj] at h1
  exact fun t ht => (List.pairwise_cons.1 h1).1 t ht
theorem str_add (a b : List UInt8) : (⟨a.toArray⟩ : ByteArray) ++ ⟨b.toArray⟩ = ⟨(a ++ b).toArray⟩ := by
  apply ByteArray.ext
  simp
abbrev mores : Value := .agg #[str [32], str [10], str [32, 37, 32, 120, 40, 10], str [9, 13, 10, 32]]
theorem more_at (r : Int) (h0 : 0 ≤ r) (h1 : r < 4) : ∃ m : List UInt8, Lx.More m ∧ m.length ≤ 6 ∧ ∀ W, (Instr.index 30 mores (.int .i64 r)).run Tryd.prog W = .ok (str m) W := by
  have hr : r = 0 ∨ r = 1 ∨ r = 2 ∨ r = 3 := by omega
  rcases hr with rfl | rfl | rfl | rfl
  · exact ⟨_, Lx.more0, by decide, fun W => by kernel_rfl⟩
  · exact ⟨_, Lx.more1, by decide, fun W => by kernel_rfl⟩
  · exact ⟨_, Lx.more2, by decide, fun W => by kernel_rfl⟩
  · exact ⟨_, Lx.more3, by decide, fun W => by kernel_rfl⟩

set_option maxRecDepth 100000 in
set_option maxHeartbeats 4000000 in
theorem parseBlanks_walk (l : List UInt8) (x : Int) (w : World) (hL : Laid w) (hr : l.length ≤ 140737488351232) (_k0 : -9223372036854775808 ≤ x) (_k1 : x ≤ 9223372036854775807) :
    Calls Tryd.prog 5 #[str l, .int .i64 x] w fun e w' => e = .returned (.bool true) ∧ Below w.heap.size w w' := by
  have hsz := str_size l
  have T2 := hideP (fun w => rtokens_at l w (by omega))
  have LV := hideP live_at
  obtain ⟨r, hx⟩ : ∃ r, (x.tmod 4 + 4).tmod 4 = r := ⟨_, rfl⟩
  have hb1 : -4 < x.tmod 4 := Int.lt_tmod_of_pos x (by decide)
  have hb2 : x.tmod 4 < 4 := Int.tmod_lt_of_pos x (by decide)
  have hr0 : 0 ≤ r := by rw [← hx]; exact Int.tmod_nonneg _ (by omega)
  have hr1 : r < 4 := by rw [← hx]; exact Int.tmod_lt_of_pos _ (by decide)
  obtain ⟨m, hm, hml, hidx⟩ := more_at r hr0 hr1
  have hmsz := str_size m
  go_enter Tryd.func5, Tryd.ntmps5
  go_wp2_with fail
  refine (T2.out _).mono ?_
  rintro e w2 ⟨⟨a2, c2, rfl, r2, _⟩, b2⟩
  have L2 := hL.below b2
  cases ha : Lx.ans l with
  | error z =>
    obtain ⟨p, er⟩ := z
    have hne := (Lx.ans_err ha).2
    have q1 : (er != 0) = true := by simpa using hne
    simp only [Lx.toks, Lx.place, Lx.err, List.length_nil]
    clear ha r2
    go_wp2_with (first
      | (go_at_call 11; refine (LV.out _ L2).mono ?_; rintro e w4 ⟨rfl, b4⟩))
    go_ret
    exact ⟨rfl, Below.then b2 b4⟩
  | ok L =>
    rw [ha] at r2
    simp only [Lx.toks, Lx.place, Lx.err] at r2 ⊢
    simp only [Int.natCast_zero] at *
    have few := r2.row.few
    have room := r2.row.room
    have hpl := Lx.ans_pl ha
    have hpair := ans_pair ha
    have HA := hideP ha
    clear ha
    go_wp2_with fail
    go_loopw [9, 10, 11] (fun v u t wr => ∃ (acc : List UInt8) (f j : Nat), v = str acc ∧ u = .int .i64 (f : Int) ∧ t = .int .i64 (j : Int) ∧ j ≤ L.length ∧ f ≤ l.length ∧ acc.length ≤ f + 6 * j ∧ acc ++ Lx.wide l m f (L.drop j) = Lx.wide l m 0 L ∧ (∀ t ∈ L.drop j, f ≤ t.pl) ∧ w2 = wr) (fun _ _ t _ => L.length - (Lib.intOf t).toNat)
    case atStart => exact ⟨[], 0, 0, rfl, rfl, rfl, Nat.zero_le _, Nat.zero_le _, by simp, by simp, fun _ _ => Nat.zero_le _, rfl⟩
    case round =>
      obtain ⟨acc, f, j, rfl, rfl, rfl, hj, hf, hal, hacc, hall, rfl⟩ := hrel
      rcases Nat.lt_or_ge j L.length with hlt | hge
      · have q1 : (j : Int) < (L.length : Int) := by omega
        obtain ⟨P1, O1, rfl⟩ := r2.row.addr (by omega)
        have RG := r2.row.range j hlt 3 _ rfl
        change w2.cell? ⟨P1, O1 + j * 4 + 3, none⟩ = some (.int .i64 (L[j].pl : Int)) at RG
        have hq := hpl L[j] (List.getElem_mem hlt)
        have hfq := hall L[j] (by rw [List.drop_eq_getElem_cons hlt]; exact List.mem_cons_self)
        have HN := hideP (pair_drop hpair hlt)
        have HW := hideP ((wide_step (l := l) (m := m) (f := f) (acc := acc) hlt).trans hacc)
        clear hall hacc hpl hpair
        generalize L[j].pl = q at *
        have e1 := extract_sub l f q (by omega)
        have n1 := Lx.sub_length (l := l) (i := f) (j := q) (by omega)
        generalize Lx.sub l f q = s1 at *
        have e2 := str_add s1 m
        have n2 : (s1 ++ m).length = s1.length + m.length := List.length_append
        have e3 := str_add acc (s1 ++ m)
        have n3 : (acc ++ (s1 ++ m)).length = acc.length + (s1 ++ m).length := List.length_append
        have z1 := str_size s1
        have z2 := str_size (s1 ++ m)
        have z3 := str_size acc
        generalize s1 ++ m = s2 at *
        generalize acc ++ s2 = s3 at *
        have q2 : (f : Int) ≤ (q : Int) := by omega
        have q3 : (q : Int) ≤ (l.length : Int) := by omega
        go_wp2_with fail
        exact ⟨⟨s3, q, j + 1, rfl, rfl, by go_num, by omega, by omega, by omega, HW.out, HN.out, trivial⟩, by simp [Lib.intOf]; omega⟩
      · have q1 : ¬ (j : Int) < (L.length : Int) := by omega
        have hd : L.drop j = [] := List.drop_of_length_le hge
        rw [hd] at hacc
        have hacc : acc ++ l.drop f = Lx.wide l m 0 L := hacc
        have e1 := extract_sub l f l.length (Nat.le_refl _)
        have hs1 : Lx.sub l f l.length = l.drop f := Lx.sub_tail
        rw [hs1] at e1
        have e2 := str_add acc (l.drop f)
        have n1 : (l.drop f).length = l.length - f := List.length_drop
        have n2 : (acc ++ l.drop f).length = acc.length + (l.drop f).length := List.length_append
        have z1 := str_size (l.drop f)
        have z2 := str_size acc
        rw [hacc] at e2 n2
        have T3 := hideP (fun w hL => pprog_any l w (by omega) hL)
        have T4 := hideP (fun w hL => pprog_any (Lx.wide l m 0 L) w (by omega) hL)
        have z3 := str_size (Lx.wide l m 0 L)
        clear hall hacc hpl hpair hs1
        rcases Nat.lt_or_ge 4096 (Lx.wide l m 0 L).length with hbig | hsmall
        · have hg := Ps.prog_big hbig
          rw [hg] at T4
          generalize Lx.wide l m 0 L = W at *
          generalize l.drop f = s1 at *
          have q2 : (W.length : Int) > 4096 := by omega
          go_wp2_with fail
          refine (T3.out _ L2).mono ?_
          rintro e w3 ⟨⟨a3, c3, rfl, r3⟩, b3⟩
          go_wp2_with fail
          refine (T4.out _ (L2.below b3)).mono ?_
          rintro e w4 ⟨⟨a4, c4, rfl, r4⟩, b4⟩
          go_wp2_with (first
            | (go_at_call 11; refine (LV.out _ (L2.below (Below.then b3 b4))).mono ?_; rintro e w5 ⟨rfl, b5⟩))
          go_ret
          exact ⟨rfl, Below.then (Below.then b2 (Below.then b3 b4)) b5⟩
        · obtain ⟨g1, g2⟩ := Ps.prog_wide hm HA.out hsmall
          rw [← g1, ← g2] at T4
          clear g1 g2
          generalize Ps.rs (Ps.prog l) = R at *
          generalize Ps.err (Ps.prog l) = er at *
          generalize Ps.place (Ps.prog l) = p1 at *
          generalize Ps.place (Ps.prog (Lx.wide l m 0 L)) = p2 at *
          generalize Lx.wide l m 0 L = W at *
          generalize l.drop f = s1 at *
          have q2 : ¬ (W.length : Int) > 4096 := by omega
          go_wp2_with fail
          refine (T3.out _ L2).mono ?_
          rintro e w3 ⟨⟨a3, c3, rfl, r3⟩, b3⟩
          go_wp2_with fail
          refine (T4.out _ (L2.below b3)).mono ?_
          rintro e w4 ⟨⟨a4, c4, rfl, r4⟩, b4⟩
          have LK := hideP (rlike_rows (r3.below b4) r4)
          go_wp2_with (first
            | (go_at_call 10; refine LK.out.mono ?_; rintro e w6 ⟨rfl, b6⟩)
            | (go_at_call 11; refine (LV.out _ (L2.below (Below.then (Below.then b3 b4) b6))).mono ?_; rintro e w5 ⟨rfl, b5⟩))
          go_ret
          exact ⟨rfl, Below.then (Below.then b2 (Below.then (Below.then b3 b4) b6)) b5⟩
end Go.Proofs.YtcjfdackhgaigaaDoor
