/-
  open: has a head a variable of its own? A place reckoned out of any number; one cell of a row of records stored.
-/
import Derived.Test.YtbahbibibpkddaaRb
import Derived.Test.YtbahbibibpkddaaMc
import Derived.Test.YtbahbibibpkddaaY1
namespace Go.Proofs.Ytbahbibibpkddaa
open Go.RowKit Go.Lib Go.Shelf

theorem tmod_ix (i : Int) (n : Nat) (hn : 0 < n) : (-(n : Int) < i.tmod n ∧ i.tmod n < n) ∧ ∃ I : Nat, (i.tmod n + n).tmod n = (I : Int) ∧ I < n := by
  have hp : (0 : Int) < n := by omega
  have h1 : -(n : Int) < i.tmod n := Int.lt_tmod_of_pos i hp
  have h2 : i.tmod n < n := Int.tmod_lt_of_pos i hp
  refine ⟨⟨h1, h2⟩, ((i.tmod n + n).tmod n).toNat, ?_, ?_⟩
  · rw [Int.toNat_of_nonneg (Int.tmod_nonneg _ (by omega))]
  · have := Int.tmod_lt_of_pos (i.tmod n + n) hp
    have h3 := Int.tmod_nonneg (a := i.tmod n + n) (b := n) (by omega)
    omega

set_option maxRecDepth 100000 in
set_option maxHeartbeats 2000000 in
theorem open_at (x : Rv) (w : World) (hx : Rv.Aw w x) (hv : Ck.Vok x.r) (hf : x.args.length ≤ 900000) :
    Calls Try.prog 26 #[rval x] w fun e w' => e = .returned (.bool (Mt.opn x.r)) ∧ Below w.heap.size w w' := by
  have iR : (Try.prog.info? 37).map (·.size) = some 11 := by kernel_rfl
  have A0 := below_alloc w (.cells (rv x).toArray 37)
  have h0 := heap_alloc_new w (.cells (rv x).toArray 37)
  have TV := hideP (rvars_at x _ (hx.below A0 (Nat.le_refl _)) hv)
  have HO : Hid (Mt.opn x.r = (Mt.ownV (Ck.vars x.r) x.to_ || x.args.any (Mt.ownV (Ck.vars x.r)))) := rfl
  go_enter Try.func26, Try.ntmps26
  go_wp2_with (refine wpList_load_all rfl 37 _ rfl w.heap.size 11 37 (rv x) _ rfl h0 rfl Try.underlying37 rfl iR ?_)
  refine TV.out.mono ?_
  rintro e w1 ⟨⟨a1, c1, rfl, R1⟩, b1⟩
  have B1 := Below.then A0 b1
  have H1 := below_heap b1 h0
  generalize Ck.vars x.r = N at *
  have c6 := (rule_parts10 H1).2.2.2.2.2.1
  have OV : Hid (Mt.ownV N x.to_ = (!x.to_.v.isEmpty && !decide (x.to_.v ∈ N))) := rfl
  clear TV A0 h0 b1
  generalize hq0 : Mt.ownV N x.to_ = q0 at *
  clear hq0
  have TH := hideP (rhas_at w1 a1 c1 N x.to_.v R1)
  cases hm : x.to_.v.isEmpty with
  | true =>
    rw [hm] at OV
    have z0 : q0 = false := OV.out
    subst z0
    clear OV TH
    go_wp2_with fail
    clear hm
    go_loopw [4, 5] (fun v4 v5 wr => ∃ (i : Nat) (q : Bool), v4 = .bool q ∧ v5 = .int .i64 (i : Int) ∧ i ≤ x.args.length ∧ Hid (q = (false || (x.args.take i).any (Mt.ownV N))) ∧ w1 = wr) (fun _ v5 _ => x.args.length - (RowKit.intOf v5).toNat)
    case atStart => exact ⟨0, false, rfl, rfl, Nat.zero_le _, by show _ = _; simp, rfl⟩
    case round =>
      obtain ⟨i, q, rfl, rfl, hi, hq, rfl⟩ := hrel
      have c5 := (rule_parts10 H1).2.2.2.2.1
      by_cases hlt : i < x.args.length
      · have q3 : (i : Int) < (x.args.length : Int) := by omega
        obtain ⟨P1, O1, hP⟩ := hx.args.addr (Nat.lt_of_le_of_lt (Nat.zero_le _) hlt)
        have hB := hx.args.below B1 (Nat.le_refl _)
        rw [hP] at hB c5
        have d0 : w1.cell? ⟨P1, O1 + i * 4, none⟩ = some (str (x.args[i]'hlt).v) := hB.range i hlt 0 _ rfl
        have ST : Hid ((x.args.take (i + 1)).any (Mt.ownV N) = ((x.args.take i).any (Mt.ownV N) || Mt.ownV N (x.args[i]'hlt))) := by
          show _ = _
          rw [List.take_succ_eq_append_getElem hlt, List.any_append]; simp
        clear hB hP
        have OV : Hid (Mt.ownV N (x.args[i]'hlt) = (!(x.args[i]'hlt).v.isEmpty && !decide ((x.args[i]'hlt).v ∈ N))) := rfl
        generalize (x.args[i]'hlt) = t at *
        have TG := hideP (rhas_at w1 a1 c1 N t.v R1)
        cases q with
        | true =>
          clear OV TG
          go_wp2_with fail
          exact ⟨⟨i + 1, true, rfl, by go_num, by omega, by show _ = _; rw [ST.out, ← Bool.or_assoc, ← hq.out]; rfl, by first | rfl | trivial⟩, by simp [RowKit.intOf]; omega⟩
        | false =>
          cases hm : t.v.isEmpty with
          | true =>
            rw [hm] at OV
            clear TG
            go_wp2_with fail
            exact ⟨⟨i + 1, false, rfl, by go_num, by omega, by show _ = _; rw [ST.out, ← Bool.or_assoc, ← hq.out, OV.out]; rfl, by first | rfl | trivial⟩, by simp [RowKit.intOf]; omega⟩
          | false =>
            rw [hm] at OV
            generalize decide (t.v ∈ N) = dd at *
            go_wp2_with fail
            refine TG.out.mono ?_
            rintro e w3 ⟨rfl, rfl⟩
            go_wp2_with fail
            exact ⟨⟨i + 1, !dd, rfl, by go_num, by omega, by show _ = _; rw [ST.out, ← Bool.or_assoc, ← hq.out, OV.out]; simp, by first | rfl | trivial⟩, by simp [RowKit.intOf]; omega⟩
      · have q3 : ¬ (i : Int) < (x.args.length : Int) := by omega
        have z1 := hq.out
        rw [List.take_of_length_le (by omega)] at z1
        have Z := hideP (z1.trans HO.out.symm)
        clear z1 hq
        go_wp2_with fail
        go_ret
        exact ⟨ret_bool Z.out, B1⟩
  | false =>
    rw [hm] at OV
    generalize hd : decide (x.to_.v ∈ N) = dd at *
    clear hd
    cases dd with
    | true =>
      have z0 : q0 = false := OV.out
      subst z0
      clear OV
      go_wp2_with fail
      refine TH.out.mono ?_
      rintro e w2 ⟨rfl, rfl⟩
      clear hm
      go_wp2_with fail
      go_loopw [4, 5] (fun v4 v5 wr => ∃ (i : Nat) (q : Bool), v4 = .bool q ∧ v5 = .int .i64 (i : Int) ∧ i ≤ x.args.length ∧ Hid (q = (false || (x.args.take i).any (Mt.ownV N))) ∧ w1 = wr) (fun _ v5 _ => x.args.length - (RowKit.intOf v5).toNat)
      case atStart => exact ⟨0, false, rfl, rfl, Nat.zero_le _, by show _ = _; simp, rfl⟩
      case round =>
        obtain ⟨i, q, rfl, rfl, hi, hq, rfl⟩ := hrel
        have c5 := (rule_parts10 H1).2.2.2.2.1
        by_cases hlt : i < x.args.length
        · have q3 : (i : Int) < (x.args.length : Int) := by omega
          obtain ⟨P1, O1, hP⟩ := hx.args.addr (Nat.lt_of_le_of_lt (Nat.zero_le _) hlt)
          have hB := hx.args.below B1 (Nat.le_refl _)
          rw [hP] at hB c5
          have d0 : w1.cell? ⟨P1, O1 + i * 4, none⟩ = some (str (x.args[i]'hlt).v) := hB.range i hlt 0 _ rfl
          have ST : Hid ((x.args.take (i + 1)).any (Mt.ownV N) = ((x.args.take i).any (Mt.ownV N) || Mt.ownV N (x.args[i]'hlt))) := by
            show _ = _
            rw [List.take_succ_eq_append_getElem hlt, List.any_append]; simp
          clear hB hP
          have OV : Hid (Mt.ownV N (x.args[i]'hlt) = (!(x.args[i]'hlt).v.isEmpty && !decide ((x.args[i]'hlt).v ∈ N))) := rfl
          generalize (x.args[i]'hlt) = t at *
          have TG := hideP (rhas_at w1 a1 c1 N t.v R1)
          cases q with
          | true =>
            clear OV TG
            go_wp2_with fail
            exact ⟨⟨i + 1, true, rfl, by go_num, by omega, by show _ = _; rw [ST.out, ← Bool.or_assoc, ← hq.out]; rfl, by first | rfl | trivial⟩, by simp [RowKit.intOf]; omega⟩
          | false =>
            cases hm : t.v.isEmpty with
            | true =>
              rw [hm] at OV
              clear TG
              go_wp2_with fail
              exact ⟨⟨i + 1, false, rfl, by go_num, by omega, by show _ = _; rw [ST.out, ← Bool.or_assoc, ← hq.out, OV.out]; rfl, by first | rfl | trivial⟩, by simp [RowKit.intOf]; omega⟩
            | false =>
              rw [hm] at OV
              generalize decide (t.v ∈ N) = dd at *
              go_wp2_with fail
              refine TG.out.mono ?_
              rintro e w3 ⟨rfl, rfl⟩
              go_wp2_with fail
              exact ⟨⟨i + 1, !dd, rfl, by go_num, by omega, by show _ = _; rw [ST.out, ← Bool.or_assoc, ← hq.out, OV.out]; simp, by first | rfl | trivial⟩, by simp [RowKit.intOf]; omega⟩
        · have q3 : ¬ (i : Int) < (x.args.length : Int) := by omega
          have z1 := hq.out
          rw [List.take_of_length_le (by omega)] at z1
          have Z := hideP (z1.trans HO.out.symm)
          clear z1 hq
          go_wp2_with fail
          go_ret
          exact ⟨ret_bool Z.out, B1⟩
    | false =>
      have z0 : q0 = true := OV.out
      subst z0
      clear OV
      go_wp2_with fail
      refine TH.out.mono ?_
      rintro e w2 ⟨rfl, rfl⟩
      clear hm
      go_wp2_with fail
      go_loopw [4, 5] (fun v4 v5 wr => ∃ (i : Nat) (q : Bool), v4 = .bool q ∧ v5 = .int .i64 (i : Int) ∧ i ≤ x.args.length ∧ Hid (q = (true || (x.args.take i).any (Mt.ownV N))) ∧ w1 = wr) (fun _ v5 _ => x.args.length - (RowKit.intOf v5).toNat)
      case atStart => exact ⟨0, true, rfl, rfl, Nat.zero_le _, by show _ = _; simp, rfl⟩
      case round =>
        obtain ⟨i, q, rfl, rfl, hi, hq, rfl⟩ := hrel
        have c5 := (rule_parts10 H1).2.2.2.2.1
        by_cases hlt : i < x.args.length
        · have q3 : (i : Int) < (x.args.length : Int) := by omega
          obtain ⟨P1, O1, hP⟩ := hx.args.addr (Nat.lt_of_le_of_lt (Nat.zero_le _) hlt)
          have hB := hx.args.below B1 (Nat.le_refl _)
          rw [hP] at hB c5
          have d0 : w1.cell? ⟨P1, O1 + i * 4, none⟩ = some (str (x.args[i]'hlt).v) := hB.range i hlt 0 _ rfl
          have ST : Hid ((x.args.take (i + 1)).any (Mt.ownV N) = ((x.args.take i).any (Mt.ownV N) || Mt.ownV N (x.args[i]'hlt))) := by
            show _ = _
            rw [List.take_succ_eq_append_getElem hlt, List.any_append]; simp
          clear hB hP
          have OV : Hid (Mt.ownV N (x.args[i]'hlt) = (!(x.args[i]'hlt).v.isEmpty && !decide ((x.args[i]'hlt).v ∈ N))) := rfl
          generalize (x.args[i]'hlt) = t at *
          have TG := hideP (rhas_at w1 a1 c1 N t.v R1)
          cases q with
          | true =>
            clear OV TG
            go_wp2_with fail
            exact ⟨⟨i + 1, true, rfl, by go_num, by omega, by show _ = _; rw [ST.out, ← Bool.or_assoc, ← hq.out]; rfl, by first | rfl | trivial⟩, by simp [RowKit.intOf]; omega⟩
          | false =>
            cases hm : t.v.isEmpty with
            | true =>
              rw [hm] at OV
              clear TG
              go_wp2_with fail
              exact ⟨⟨i + 1, false, rfl, by go_num, by omega, by show _ = _; rw [ST.out, ← Bool.or_assoc, ← hq.out, OV.out]; rfl, by first | rfl | trivial⟩, by simp [RowKit.intOf]; omega⟩
            | false =>
              rw [hm] at OV
              generalize decide (t.v ∈ N) = dd at *
              go_wp2_with fail
              refine TG.out.mono ?_
              rintro e w3 ⟨rfl, rfl⟩
              go_wp2_with fail
              exact ⟨⟨i + 1, !dd, rfl, by go_num, by omega, by show _ = _; rw [ST.out, ← Bool.or_assoc, ← hq.out, OV.out]; simp, by first | rfl | trivial⟩, by simp [RowKit.intOf]; omega⟩
        · have q3 : ¬ (i : Int) < (x.args.length : Int) := by omega
          have z1 := hq.out
          rw [List.take_of_length_le (by omega)] at z1
          have Z := hideP (z1.trans HO.out.symm)
          clear z1 hq
          go_wp2_with fail
          go_ret
          exact ⟨ret_bool Z.out, B1⟩
end Go.Proofs.Ytbahbibibpkddaa
