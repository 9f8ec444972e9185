/-
  ParsePlaces: its walk.
-/
import Derived.Test.YtcjfdackhgaigaaDoorLv8
import Derived.Test.YtcjfdackhgaigaaDoorRTk
namespace Go.Proofs.YtcjfdackhgaigaaDoor
open Go.RowKit Go.Lib Go.Shelf

theorem RowsAt.none {w : World} {u : Value} (h : RowsAt w [] u) : ∃ a c, u = .slice a 0 c := by
  obtain ⟨a, c, xs, rfl, h1, _⟩ := h
  have : xs = [] := List.map_eq_nil_iff.1 h1
  subst this
  exact ⟨a, c, rfl⟩
theorem RowsAt.len {w : World} {l : List Ru} {u : Value} (h : RowsAt w l u) : ∃ a c, u = .slice a l.length c := by
  obtain ⟨a, c, xs, rfl, h1, _⟩ := h
  exact ⟨a, c, by rw [← h1, List.length_map]⟩
theorem prog_err_ne {l : List UInt8} {p : Nat} {e : Int} (h : Ps.prog l = .error (p, e)) : e ≠ 0 := by
  unfold Ps.prog at h
  cases ha : Lx.ans l with
  | error x =>
    rw [ha] at h
    obtain ⟨x1, x2⟩ := x
    cases h
    exact (Lx.ans_err ha).2
  | ok L =>
    rw [ha] at h
    have := (Ps.rules_told h).2
    simp only at this
    omega
theorem any_take {L : List Lx.Tok} {j : Nat} (h : j < L.length) (f : Lx.Tok → Bool) : (L.take (j + 1)).any f = ((L.take j).any f || f L[j]) := by
  rw [List.take_succ_eq_append_getElem h, List.any_append]; simp

set_option maxRecDepth 100000 in
set_option maxHeartbeats 4000000 in
theorem parsePlaces_walk (l : List UInt8) (w : World) (hL : Laid w) (hr : l.length ≤ 140737488351232) :
    Calls Tryd.prog 7 #[str l] w fun e w' => e = .returned (.bool true) ∧ Below w.heap.size w w' := by
  have hsz := str_size l
  have T1 := hideP (pprogram_at l w (by omega) hL)
  have T2 := hideP (fun w => rtokens_at l w (by omega))
  have LV := hideP live_at
  go_enter Tryd.func7, Tryd.ntmps7
  go_wp2_with fail
  refine T1.out.mono ?_
  rintro e w1 ⟨⟨u1, rfl, r1⟩, b1⟩
  have L1 := hL.below b1
  cases hp : Ps.prog l with
  | ok r =>
    rw [hp] at r1
    simp only [Ps.rs, Ps.place, Ps.err] at r1 ⊢
    obtain ⟨a, c, rfl⟩ := r1.len
    have few := Ps.prog_few hp
    have q1 : (r.length : Int) ≤ 16 := by omega
    clear hp r1
    go_wp2_with (first
      | (go_at_call 11; refine (LV.out _ L1).mono ?_; rintro e w4 ⟨rfl, b4⟩))
    go_ret
    exact ⟨rfl, Below.then b1 b4⟩
  | error x =>
    obtain ⟨p, er⟩ := x
    have hne := prog_err_ne hp
    rw [hp] at r1
    simp only [Ps.rs, Ps.place, Ps.err] at r1 ⊢
    obtain ⟨a, c, rfl⟩ := r1.none
    have q0 : (er == 0) = false := by simpa using hne
    clear r1
    go_wp2_with fail
    refine (T2.out _).mono ?_
    rintro e w2 ⟨⟨a2, c2, rfl, r2, _⟩, b2⟩
    have L2 := L1.below b2
    have B2 := Below.then b1 b2
    cases ha : Lx.ans l with
    | error z =>
      have hz : z = (p, er) := by
        unfold Ps.prog at hp; rw [ha] at hp; cases hp; rfl
      subst hz
      simp only [Lx.toks, Lx.place, Lx.err, List.length_nil]
      have q1 : (er != 0) = true := by simpa using hne
      clear ha hp r2
      go_wp2_with (first
        | (go_at_call 11; refine (LV.out _ L2).mono ?_; rintro e w4 ⟨rfl, b4⟩))
      go_ret
      exact ⟨rfl, Below.then B2 b4⟩
    | ok L =>
      obtain ⟨ht, hk⟩ := Ps.prog_told ha hp
      rw [ha] at r2
      simp only [Lx.toks, Lx.place, Lx.err] at r2 ⊢
      simp only [Int.natCast_zero] at *
      have few := r2.row.few
      have room := r2.row.room
      have HK := hideP hk
      have hmet : (((p : Int) == (l.length : Int)) || L.any fun t => ((t.pl : Int) == (p : Int))) = true := by
        rcases ht with h1 | ⟨t, h1, h2⟩
        · rw [h1]; simp
        · rw [Bool.or_eq_true]; right
          rw [List.any_eq_true]
          exact ⟨t, h1, by rw [h2]; simp⟩
      have HM := hideP hmet
      clear ha hp ht hmet hk
      go_wp2_with fail
      go_loopw [9, 10] (fun v u wr => ∃ j : Nat, v = .bool (((p : Int) == (l.length : Int)) || (L.take j).any fun t => ((t.pl : Int) == (p : Int))) ∧ u = .int .i64 (j : Int) ∧ j ≤ L.length ∧ w2 = wr) (fun _ u _ => L.length - (Lib.intOf u).toNat)
      case atStart => exact ⟨0, by simp, rfl, Nat.zero_le _, rfl⟩
      case round =>
        obtain ⟨j, rfl, rfl, hj, rfl⟩ := hrel
        rcases Nat.lt_or_ge j L.length with hlt | hge
        · have q1 : (j : Int) < (L.length : Int) := by omega
          obtain ⟨P1, O1, rfl⟩ := r2.row.addr (by omega)
          have RG := r2.row.range j hlt 3 _ rfl
          change w2.cell? ⟨P1, O1 + j * 4 + 3, none⟩ = some (.int .i64 (L[j].pl : Int)) at RG
          have HS := hideP (any_take hlt fun t => ((t.pl : Int) == (p : Int)))
          generalize ((p : Int) == (l.length : Int)) = m0 at *
          generalize (L.take j).any (fun t => ((t.pl : Int) == (p : Int))) = m1 at *
          generalize L[j] = t at *
          cases hm : (m0 || m1)
          · go_wp2_with fail
            refine ⟨⟨j + 1, ?_, by go_num, by omega, trivial⟩, by simp [Lib.intOf]; omega⟩
            rw [HS.out, ← Bool.or_assoc, hm, Bool.false_or]
          · go_wp2_with fail
            refine ⟨⟨j + 1, ?_, by go_num, by omega, trivial⟩, by simp [Lib.intOf]; omega⟩
            rw [HS.out, ← Bool.or_assoc, hm, Bool.true_or]
        · have q1 : ¬ (j : Int) < (L.length : Int) := by omega
          have e1 : L.take j = L := List.take_of_length_le hge
          rw [e1, HM.out]
          rcases HK.out with rfl | rfl
          · go_wp2_with (first
              | (go_at_call 11; refine (LV.out _ L2).mono ?_; rintro e w4 ⟨rfl, b4⟩))
            go_ret
            exact ⟨rfl, Below.then B2 b4⟩
          · go_wp2_with (first
              | (go_at_call 11; refine (LV.out _ L2).mono ?_; rintro e w4 ⟨rfl, b4⟩))
            go_ret
            exact ⟨rfl, Below.then B2 b4⟩
end Go.Proofs.YtcjfdackhgaigaaDoor
