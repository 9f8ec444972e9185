/-
  The reference's number, places, free, open, odd, arities.
-/
import Derived.Test.YtpdmmmdkpipmkaaGreatDoorQRb
import Derived.Test.YtpdmmmdkpipmkaaGreatDoorQVd
namespace Go.Proofs.YtpdmmmdkpipmkaaGreatDoor
open Go.RowKit Go.Lib Go.Shelf

/-- a whole record read, guarded -/
theorem wpList_load_g {P : Program} {ops : Array Oper} {rest : List Oper} {op : Oper} {a : Act} {w : World} {Q : Exit → Act → World → Prop} (hgw : Region.wanted op (yielded ops a.tmps) = true) (ty : TypeId) (x : Operand) (ho : op.op = .load ty x)
    (b o : Nat) (hx : a.eval x = .pointer (some ⟨b, o, none⟩)) (cs : List Value) (d : TypeDesc) (hc : w.rangeAt b o cs)
    (hu : P.underlying ty = some d) (hd : d.isRow = true) (hi : (P.info? ty).map (·.size) = some cs.length)
    (h : wpList P ops Q rest (a.put op.dst (.agg cs.toArray)) w) : wpList P ops Q (op :: rest) a w := by
  refine wpList_step fun K hK => ?_
  rw [if_pos hgw]
  unfold Oper.wp execOp
  simp only [ho, hx, Instr.loadAt, Instr.sureAddr, Sem.run_bind, Sem.run_pure, Result.andThen_ok, run_loadVar_mid w b o ty cs d hc hu hd hi]
  exact hK _ _ h

set_option maxRecDepth 100000 in
set_option maxHeartbeats 400000 in
theorem rnumber_at (t : Tm) (w : World) : Calls Tryz.prog 83 #[tval t] w fun e w' => e = .returned (.bool (Ck.num t)) ∧ Below w.heap.size w w' := by
  have HN : Hid (Ck.num t = (t.v.isEmpty && t.k.num)) := rfl
  obtain ⟨v, ⟨nm, n, s⟩⟩ := t
  simp only at HN
  have A0 := below_alloc w (.cells #[str v, .bool nm, .int .i64 n, str s] 44)
  cases hq : v.isEmpty with
  | true =>
    rw [hq] at HN
    go_enter Tryz.func83, Tryz.ntmps83
    go_wp2_with fail
    go_ret
    exact ⟨by rw [HN.out]; rfl, A0⟩
  | false =>
    rw [hq] at HN
    go_enter Tryz.func83, Tryz.ntmps83
    go_wp2_with fail
    go_ret
    exact ⟨by rw [HN.out]; rfl, A0⟩

/-- a place, or none: -2 -/
def plI (o : Option Int) : Int := match o with | some k => k | none => -2

set_option maxRecDepth 100000 in
set_option maxHeartbeats 1000000 in
theorem rplaces_at (x : Rv) (w : World) (hx : Rv.Aw w x) : Calls Tryz.prog 49 #[rval x] w fun e w' => e = .returned (.int .i64 (plI (Ck.places x.r))) ∧ Below w.heap.size w w' := by
  have iT : (Tryz.prog.info? 44).map (·.size) = some 4 := by kernel_rfl
  have hrl : x.r.body.length = x.body.length := List.length_map ..
  have few := hx.body.few
  have HP : Hid (Ck.places x.r = if (Ck.num x.home || Ck.num x.to_) = true then some (-1) else Ck.first (fun _ y => Ck.num y.by_ || Ck.num y.at_) 0 x.r.body) := rfl
  have A0 := below_alloc w (.cells (rv x).toArray 48)
  have H0 := heap_alloc_new w (.cells (rv x).toArray 48)
  have p0 := rule_parts10 H0
  have p00 := p0.1
  have T1 := hideP (rnumber_at x.home (w.alloc (.cells (rv x).toArray 48)))
  have T2 := hideP (fun W => rnumber_at x.to_ W)
  clear p0
  go_enter Tryz.func49, Tryz.ntmps49
  cases hq1 : Ck.num x.home with
  | true =>
    rw [hq1] at T1 HP
    rw [if_pos (by rfl)] at HP
    clear hq1
    go_wp2_with (refine wpList_load_mid rfl 44 _ rfl w.heap.size 0 rfl (tv x.home) _ p00 Tryz.underlying44 rfl iT ?_)
    refine T1.out.mono ?_
    rintro e w1 ⟨rfl, b1⟩
    go_wp2_with fail
    go_ret
    exact ⟨by rw [HP.out]; rfl, Below.then A0 b1⟩
  | false =>
    rw [hq1] at T1 HP
    rw [Bool.false_or] at HP
    clear hq1
    go_wp2_with (refine wpList_load_mid rfl 44 _ rfl w.heap.size 0 rfl (tv x.home) _ p00 Tryz.underlying44 rfl iT ?_)
    refine T1.out.mono ?_
    rintro e w1 ⟨rfl, b1⟩
    have B1 := Below.then A0 b1
    have H1 := below_heap b1 H0
    have p1 := (rule_parts10 H1).2.1
    clear T1 p00 H0 A0 b1
    go_wp2_with (refine wpList_load_g (by rfl) 44 _ rfl w.heap.size 6 rfl (tv x.to_) _ p1 Tryz.underlying44 rfl iT ?_)
    refine (T2.out w1).mono ?_
    rintro e w2 ⟨rfl, b2⟩
    have B2 := Below.then B1 b2
    have H2 := below_heap b2 H1
    clear p1 H1 B1 b2 T2
    cases hq2 : Ck.num x.to_ with
    | true =>
      rw [hq2, if_pos rfl] at HP
      clear hq2
      go_wp2_with fail
      go_ret
      exact ⟨by rw [HP.out]; rfl, B2⟩
    | false =>
      rw [hq2, if_neg (by decide)] at HP
      clear hq2
      go_wp2_with fail
      go_loopw [3] (fun v wr => ∃ j : Nat, v = .int .i64 (j : Int) ∧ j ≤ x.body.length ∧ Hid (Ck.places x.r = Ck.first (fun _ y => Ck.num y.by_ || Ck.num y.at_) j (x.r.body.drop j)) ∧ Below w.heap.size w wr ∧ wr.heap[w.heap.size]? = some (.cells (rv x).toArray 48)) (fun v _ => x.body.length - (RowKit.intOf v).toNat)
      case atStart => exact ⟨0, rfl, Nat.zero_le _, by rw [List.drop_zero]; exact HP, B2, H2⟩
      case round =>
        obtain ⟨j, rfl, hj, HJ, B, H⟩ := hrel
        have c10 := (rule_parts10 H).2.2.2.2.2.2
        by_cases hlt : j < x.body.length
        · have q : (j : Int) < (x.body.length : Int) := by omega
          have hjr : j < x.r.body.length := by omega
          have hyr : x.r.body[j] = (x.body[j]'hlt).l := by simp [Rv.r]
          obtain ⟨P1, O1, hP⟩ := hx.body.addr (Nat.lt_of_le_of_lt (Nat.zero_le _) hlt)
          have RR := hideP (fun W (h : Below w.heap.size w W) => show W.rangeAt P1 (O1 + j * 10) (lv (x.body[j]'hlt)) by
            have := hx.body.below h (Nat.le_refl _)
            rw [hP] at this
            exact this.range j hlt)
          have CC := hideP (fun (W : World) (h : W.heap[w.heap.size]? = some (.cells (rv x).toArray 48)) => show W.cell? ⟨w.heap.size, 10, none⟩ = some (.slice (some ⟨P1, O1, none⟩) x.body.length x.bcap) by
            have := (rule_parts10 h).2.2.2.2.2.2
            rwa [hP] at this)
          rw [hP] at c10
          rw [List.drop_eq_getElem_cons hjr, Ck.first, hyr] at HJ
          generalize (x.body[j]'hlt) = y at *
          clear hyr
          replace HJ : Hid (Ck.places x.r = if (Ck.num y.by_ || Ck.num y.at_) = true then some (j : Int) else Ck.first (fun _ y => Ck.num y.by_ || Ck.num y.at_) (j + 1) (x.r.body.drop (j + 1))) := HJ
          have p1 := (lit_in (RR.out wr B)).1
          go_wp2_with (refine wpList_load_mid rfl 44 _ rfl P1 (O1 + j * 10) rfl (tv y.by_) _ p1 Tryz.underlying44 rfl iT ?_)
          refine (rnumber_at y.by_ wr).mono ?_
          rintro e w3 ⟨rfl, b3⟩
          have B3 := B.trans (b3.mono B.size)
          have H3 := below_heap b3 H
          clear p1 c10 H B b3
          cases hq3 : Ck.num y.by_ with
          | true =>
            rw [hq3, if_pos (by rfl)] at HJ
            clear hq3
            go_wp2_with fail
            go_ret
            exact ⟨by rw [HJ.out]; rfl, B3⟩
          | false =>
            rw [hq3, Bool.false_or] at HJ
            clear hq3
            have c10 := CC.out w3 H3
            have p2 := (lit_in (RR.out w3 B3)).2.1
            go_wp2_with (refine wpList_load_g (by rfl) 44 _ rfl P1 (O1 + j * 10 + 6) rfl (tv y.at_) _ p2 Tryz.underlying44 rfl iT ?_)
            refine (rnumber_at y.at_ w3).mono ?_
            rintro e w4 ⟨rfl, b4⟩
            have B4 := B3.trans (b4.mono B3.size)
            have H4 := below_heap b4 H3
            clear p2 c10 H3 B3 b4
            cases hq4 : Ck.num y.at_ with
            | true =>
              rw [hq4, if_pos rfl] at HJ
              clear hq4
              go_wp2_with fail
              go_ret
              exact ⟨by rw [HJ.out]; rfl, B4⟩
            | false =>
              rw [hq4, if_neg (by decide)] at HJ
              clear hq4
              go_wp2_with fail
              exact ⟨⟨j + 1, by go_num, by omega, HJ, B4, H4⟩, by simp [RowKit.intOf]; omega⟩
        · have q : ¬ (j : Int) < (x.body.length : Int) := by omega
          rw [List.drop_of_length_le (by omega), Ck.first] at HJ
          go_wp2_with fail
          go_ret
          exact ⟨by rw [HJ.out]; rfl, B⟩

/-! free, open -/
set_option maxRecDepth 100000 in
set_option maxHeartbeats 1000000 in
theorem rfree_at (x : Rv) (w : World) (hx : Rv.Aw w x) (hv : Ck.Vok x.r) : Calls Tryz.prog 51 #[rval x] w fun e w' => e = .returned (.int .i64 (plI (Ck.free x.r))) ∧ Below w.heap.size w w' := by
  have hrl : x.r.body.length = x.body.length := List.length_map ..
  have few := hx.body.few
  have HP : Hid (Ck.free x.r = Ck.first (Ck.isFree x.r) 0 x.r.body) := rfl
  have A0 := below_alloc w (.cells (rv x).toArray 48)
  have H0 := heap_alloc_new w (.cells (rv x).toArray 48)
  go_enter Tryz.func51, Tryz.ntmps51
  go_wp2_with fail
  go_loopw [3, 4] (fun v _ wr => ∃ j : Nat, v = .int .i64 (j : Int) ∧ j ≤ x.body.length ∧ Hid (Ck.free x.r = Ck.first (Ck.isFree x.r) j (x.r.body.drop j)) ∧ Below w.heap.size w wr ∧ wr.heap[w.heap.size]? = some (.cells (rv x).toArray 48)) (fun v _ _ => x.body.length - (RowKit.intOf v).toNat)
  case atStart => exact ⟨0, rfl, Nat.zero_le _, by rw [List.drop_zero]; exact HP, A0, H0⟩
  case round =>
    obtain ⟨j, rfl, hj, HJ, B, H⟩ := hrel
    have c10 := (rule_parts10 H).2.2.2.2.2.2
    by_cases hlt : j < x.body.length
    · have q : (j : Int) < (x.body.length : Int) := by omega
      have hjr : j < x.r.body.length := by omega
      have hyr : x.r.body[j] = (x.body[j]'hlt).l := by simp [Rv.r]
      obtain ⟨P1, O1, hP⟩ := hx.body.addr (Nat.lt_of_le_of_lt (Nat.zero_le _) hlt)
      have r1 : wr.rangeAt P1 (O1 + j * 10) (lv (x.body[j]'hlt)) := by
        have := hx.body.below B (Nat.le_refl _)
        rw [hP] at this
        exact this.range j hlt
      rw [hP] at c10
      rw [List.drop_eq_getElem_cons hjr, Ck.first, hyr] at HJ
      generalize (x.body[j]'hlt) = y at *
      clear hyr
      have he : Ck.isFree x.r j y.l = (!y.at_.v.isEmpty && !decide (y.at_.v ∈ Ck.bnd x.r j)) := outV_eq (Ck.bnd x.r j) y.at_
      rw [he] at HJ
      clear he
      have p6 := (lit_in r1).2.2.2.2
      have T1 := hideP (rbound_at x (j : Int) wr (hx.below B (Nat.le_refl _)) hv)
      rw [Int.toNat_natCast] at T1
      generalize Ck.bnd x.r j = N at *
      have T2 := hideP (fun W a c (h : Row sK W a c N) => rhas_at W a c N y.at_.v h)
      have rN := World.rangeAt_of_block H 0 11
      have rN' : wr.rangeAt w.heap.size 0 (rv x) := rN
      clear rN
      generalize y.at_.v = v at *
      cases hq : v.isEmpty with
      | true =>
        rw [hq, Bool.not_true, Bool.false_and, if_neg (by decide)] at HJ
        go_wp2_with fail
        exact ⟨⟨j + 1, by go_num, by omega, HJ, B, H⟩, by simp [RowKit.intOf]; omega⟩
      | false =>
        rw [hq, Bool.not_false, Bool.true_and] at HJ
        go_wp2_with (refine wpList_load_g (by rfl) 48 _ rfl w.heap.size 0 rfl (rv x) _ rN' Tryz.underlying48 rfl (by kernel_rfl) ?_)
        refine T1.out.mono ?_
        rintro e w1 ⟨⟨a1, c1, rfl, R1⟩, b1⟩
        have B1 := B.trans (b1.mono B.size)
        have H1 := below_heap b1 H
        go_wp2_with fail
        refine (T2.out w1 a1 c1 R1).mono ?_
        rintro e w2 ⟨rfl, rfl⟩
        cases hd : decide (v ∈ N) with
        | true =>
          rw [hd, Bool.not_true, if_neg (by decide)] at HJ
          clear hd
          go_wp2_with fail
          exact ⟨⟨j + 1, by go_num, by omega, HJ, B1, H1⟩, by simp [RowKit.intOf]; omega⟩
        | false =>
          rw [hd, Bool.not_false, if_pos rfl] at HJ
          clear hd
          go_wp2_with fail
          go_ret
          exact ⟨by rw [HJ.out]; rfl, B1⟩
    · have q : ¬ (j : Int) < (x.body.length : Int) := by omega
      rw [List.drop_of_length_le (by omega), Ck.first] at HJ
      go_wp2_with fail
      go_ret
      exact ⟨by rw [HJ.out]; rfl, B⟩

set_option maxRecDepth 100000 in
set_option maxHeartbeats 1000000 in
theorem ropen_at (x : Rv) (w : World) (hx : Rv.Aw w x) (hv : Ck.Vok x.r) : Calls Tryz.prog 52 #[rval x] w fun e w' => e = .returned (.bool (Ck.opn x.r)) ∧ Below w.heap.size w w' := by
  have few := hx.args.few
  have HP : Hid (Ck.opn x.r = (Ck.outV (Ck.vars x.r) x.to_ || x.args.any (Ck.outV (Ck.vars x.r)))) := rfl
  have A0 := below_alloc w (.cells (rv x).toArray 48)
  have H0 := heap_alloc_new w (.cells (rv x).toArray 48)
  have T1 := hideP (rvars_at x _ (hx.below A0 (Nat.le_refl _)) hv)
  generalize Ck.vars x.r = N at *
  have TH := hideP (fun W a c v (h : Row sK W a c N) => rhas_at W a c N v h)
  have OV := hideP (outV_eq N)
  rw [OV.out x.to_] at HP
  go_enter Tryz.func52, Tryz.ntmps52
  go_wp2_with (refine wpList_load_all rfl 48 _ rfl w.heap.size 11 48 (rv x) _ rfl H0 rfl Tryz.underlying48 rfl (by kernel_rfl) ?_)
  refine T1.out.mono ?_
  rintro e w1 ⟨⟨a1, c1, rfl, R1⟩, b1⟩
  have B1 := Below.then A0 b1
  have H1 := below_heap b1 H0
  have c6 := (rule_parts10 H1).2.2.2.2.2.1
  clear T1 A0 H0 b1
  have LOOP : Hid ((Ck.opn x.r = x.args.any (Ck.outV N)) → True) := fun _ => trivial
  clear LOOP
  generalize hv0 : x.to_.v = v0 at *
  obtain ⟨d0, hd0⟩ : ∃ d0, (!v0.isEmpty && !decide (v0 ∈ N)) = d0 := ⟨_, rfl⟩
  rw [hd0] at HP
  cases d0 with
  | true =>
    rw [Bool.true_or] at HP
    have hq : v0.isEmpty = false := by cases h : v0.isEmpty <;> simp_all
    have hn : decide (v0 ∈ N) = false := by cases h : decide (v0 ∈ N) <;> simp_all
    clear hd0
    go_wp2_with fail
    refine (TH.out w1 a1 c1 v0 R1).mono ?_
    rintro e w2 ⟨rfl, rfl⟩
    rw [hn]
    clear hn
    go_wp2_with fail
    go_ret
    exact ⟨by rw [HP.out]; rfl, B1⟩
  | false =>
    rw [Bool.false_or] at HP
    cases hq : v0.isEmpty
    have hn : decide (v0 ∈ N) = true := by cases h : decide (v0 ∈ N) <;> simp_all
    clear hd0
    go_wp2_with fail
    refine (TH.out w1 a1 c1 v0 R1).mono ?_
    rintro e w2 ⟨rfl, hww⟩
    subst hww
    rw [hn]
    clear hn
    go_wp2_with fail
    rotate_left
    clear hd0
    go_wp2_with fail
    all_goals (
      go_loopw [4] (fun v wr => ∃ j : Nat, v = .int .i64 (j : Int) ∧ j ≤ x.args.length ∧ Hid ((x.args.take j).any (Ck.outV N) = false) ∧ Below w.heap.size w wr ∧ wr.heap[w.heap.size]? = some (.cells (rv x).toArray 48) ∧ Row sK wr a1 c1 N) (fun v _ => x.args.length - (RowKit.intOf v).toNat)
      case atStart => exact ⟨0, rfl, Nat.zero_le _, by show _ = _; simp, B1, H1, R1⟩
      case round =>
        obtain ⟨j, rfl, hj, HJ, B, H, R⟩ := hrel
        have c5 := (rule_parts10 H).2.2.2.2.1
        by_cases hlt : j < x.args.length
        · have q : (j : Int) < (x.args.length : Int) := by omega
          obtain ⟨P1, O1, hP⟩ := hx.args.addr (Nat.lt_of_le_of_lt (Nat.zero_le _) hlt)
          have r1 : wr.rangeAt P1 (O1 + j * 4) (tv (x.args[j]'hlt)) := by
            have := hx.args.below B (Nat.le_refl _)
            rw [hP] at this
            exact this.range j hlt
          have ST : Hid ((x.args.take (j + 1)).any (Ck.outV N) = Ck.outV N (x.args[j]'hlt)) := by
            show _ = _
            rw [List.take_succ_eq_append_getElem hlt, List.any_append, HJ.out]; simp
          have YE : Hid (Ck.outV N (x.args[j]'hlt) = true → x.args.any (Ck.outV N) = true) := fun h => List.any_eq_true.2 ⟨_, List.getElem_mem hlt, h⟩
          rw [hP] at c5
          generalize (x.args[j]'hlt) = t at *
          rw [OV.out t] at ST YE
          have cv : wr.cell? ⟨P1, O1 + j * 4, none⟩ = some (str t.v) := r1 0 _ rfl
          generalize t.v = v at *
          cases hq2 : v.isEmpty with
          | true =>
            rw [hq2, Bool.not_true, Bool.false_and] at ST
            go_wp2_with fail
            exact ⟨⟨j + 1, by go_num, by omega, ST, B, H, R⟩, by simp [RowKit.intOf]; omega⟩
          | false =>
            rw [hq2, Bool.not_false, Bool.true_and] at ST YE
            go_wp2_with fail
            refine (TH.out wr a1 c1 v R).mono ?_
            rintro e w2 ⟨rfl, hww⟩
            subst hww
            cases hd : decide (v ∈ N) with
            | true =>
              rw [hd, Bool.not_true] at ST
              clear hd YE
              go_wp2_with fail
              exact ⟨⟨j + 1, by go_num, by omega, ST, B, H, R⟩, by simp [RowKit.intOf]; omega⟩
            | false =>
              rw [hd, Bool.not_false] at YE
              have YE' := hideP (YE.out rfl)
              clear hd YE
              go_wp2_with fail
              go_ret
              exact ⟨by rw [HP.out, YE'.out]; rfl, B⟩
        · have q : ¬ (j : Int) < (x.args.length : Int) := by omega
          have HN : Hid (x.args.any (Ck.outV N) = false) := by
            have := HJ.out
            rwa [List.take_of_length_le (by omega)] at this
          go_wp2_with fail
          go_ret
          exact ⟨by rw [HP.out, HN.out]; rfl, B⟩)
end Go.Proofs.YtpdmmmdkpipmkaaGreatDoor
