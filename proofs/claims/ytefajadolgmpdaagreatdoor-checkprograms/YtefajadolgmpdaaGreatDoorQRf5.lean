/-
  The reference's maybe and atom: what they answer.
-/
import Derived.Test.YtefajadolgmpdaaGreatDoorQRf3
namespace Go.Proofs.YtefajadolgmpdaaGreatDoor
open Go.RowKit Go.Lib Go.Shelf

theorem cat (a b : List UInt8) : ∃ c : List UInt8, Hid (c = a ++ b) ∧ (⟨a.toArray⟩ : ByteArray) ++ ⟨b.toArray⟩ = ⟨c.toArray⟩ ∧ (⟨c.toArray⟩ : ByteArray).size = c.length ∧ c.length = a.length + b.length :=
  ⟨a ++ b, rfl, str_add a b, str_size _, List.length_append⟩
theorem term_row {w : World} {b o c : Nat} {ys : List Tm} (h : Row tK w (some ⟨b, o, none⟩) c ys) (k : Nat) (hk : k < ys.length) :
    w.cell? ⟨b, o + k * 4, none⟩ = some (str ys[k].v) ∧ w.cell? ⟨b, o + k * 4 + 1, none⟩ = some (.bool ys[k].k.num) ∧ w.cell? ⟨b, o + k * 4 + 2, none⟩ = some (.int .i64 ys[k].k.n) ∧ w.cell? ⟨b, o + k * 4 + 3, none⟩ = some (str ys[k].k.s) := by
  have hr := h.range k hk
  exact ⟨hr 0 _ rfl, hr 1 _ rfl, hr 2 _ rfl, hr 3 _ rfl⟩

/-- what maybe answers: a text, which counts where the term can be shown or is none -/
def MayAns (x : List UInt8) (t : Tm) (y : List UInt8) (w : World) (e : Ending) (w' : World) : Prop :=
  (∃ u : List UInt8, e = .returned (.tuple #[str u, .bool (Sh.canM t)]) ∧ u.length ≤ 60 ∧ ∀ s, Sh.maybeS x t y = some s → u = s) ∧ Below w.heap.size w w'
set_option maxRecDepth 100000 in
set_option maxHeartbeats 2000000 in
theorem rmaybe_at (x : List UInt8) (t : Tm) (y : List UInt8) (w : World) (hi : Sh.KIn t) (hx : x.length ≤ 10) (hy : y.length ≤ 10) :
    Calls Tryz.prog 44 #[str x, tval t, str y] w (MayAns x t y w) := by
  have N := hideP (fun W => rnone_at t W)
  have T := hideP (fun W => rterm_at t W hi)
  have HC : Hid (Sh.canM t = (Sh.noneT t || (Sh.termS t).isSome)) := rfl
  have HM : Hid (∀ s, Sh.maybeS x t y = some s → (Sh.noneT t = true ∧ s = []) ∨ (Sh.noneT t = false ∧ ∃ m, Sh.termS t = some m ∧ s = x ++ (m ++ y))) := fun s hs => by
    unfold Sh.maybeS at hs
    split at hs
    · rename_i h0; cases hs; exact .inl ⟨h0, rfl⟩
    · rename_i h0
      obtain ⟨m, hm, rfl⟩ := Option.map_eq_some_iff.1 hs
      exact .inr ⟨by simpa using h0, m, hm, rfl⟩
  have A0 := below_alloc w (.cells (tv t).toArray 38)
  have H0 := heap_alloc_new w (.cells (tv t).toArray 38)
  have zx := str_size x
  have zy := str_size y
  cases hn : Sh.noneT t with
  | true =>
    rw [hn] at N HC
    rw [Bool.true_or] at HC
    have HM2 : Hid (∀ s, Sh.maybeS x t y = some s → s = []) := fun s hs => by
      rcases HM.out s hs with h | h
      · exact h.2
      · rw [hn] at h; cases h.1
    clear HM hn
    go_enter Tryz.func44, Tryz.ntmps44
    go_wp2_with fail
    refine (N.out _).mono ?_
    rintro e w1 ⟨rfl, b1⟩
    go_wp2_with fail
    go_ret2
    exact ⟨⟨[], by rw [HC.out]; rfl, by simp, fun s hs => (HM2.out s hs).symm⟩, Below.then A0 b1⟩
  | false =>
    rw [hn] at N HC
    rw [Bool.false_or] at HC
    have HM2 : Hid (∀ s, Sh.maybeS x t y = some s → ∃ m, Sh.termS t = some m ∧ s = x ++ (m ++ y)) := fun s hs => by
      rcases HM.out s hs with h | h
      · rw [hn] at h; cases h.1
      · exact h.2
    clear HM hn
    go_enter Tryz.func44, Tryz.ntmps44
    go_wp2_with fail
    refine (N.out _).mono ?_
    rintro e w1 ⟨rfl, b1⟩
    have H1 := below_heap b1 H0
    go_wp2_with (refine wpList_load_all rfl 38 _ rfl w.heap.size 4 38 (tv t) _ rfl H1 rfl Tryz.underlying38 rfl Tryz.iT4 ?_)
    refine (T.out w1).mono ?_
    rintro e w2 ⟨rfl, b2⟩
    have B2 := Below.then (Below.then A0 b1) b2
    cases hs : Sh.termS t with
    | none =>
      rw [hs] at HC
      obtain ⟨c1, h1, e1, z1, n1⟩ := cat x []
      obtain ⟨c2, h2, e2, z2, n2⟩ := cat c1 y
      simp only [List.length_nil] at n1
      simp only [sv]
      go_wp2_with fail
      go_ret2
      exact ⟨⟨c2, by rw [HC.out]; rfl, by omega, fun s hs' => by
        obtain ⟨m, hm, _⟩ := HM2.out s hs'
        rw [hs] at hm; cases hm⟩, B2⟩
    | some m =>
      rw [hs] at HC
      have hml := Sh.term_len hi hs
      have zm := str_size m
      obtain ⟨c1, h1, e1, z1, n1⟩ := cat x m
      obtain ⟨c2, h2, e2, z2, n2⟩ := cat c1 y
      simp only [sv]
      have HM3 : Hid (∀ s, Sh.maybeS x t y = some s → c2 = s) := fun s hs' => by
        obtain ⟨m', hm, rfl⟩ := HM2.out s hs'
        rw [hs] at hm; cases hm
        rw [h2.out, h1.out, List.append_assoc]
      clear hs HM2
      go_wp2_with fail
      go_ret2
      exact ⟨⟨c2, by rw [HC.out]; rfl, by omega, HM3.out⟩, B2⟩

def av (r : Option (List UInt8)) : Value := match r with | some s => .tuple #[str s, .bool true] | none => .tuple #[str [], .bool false]
set_option maxRecDepth 100000 in
set_option maxHeartbeats 4000000 in
theorem ratom_at (p : List UInt8) (a : Option Addr) (c : Nat) (ts : List Tm) (w : World) (hr : Row tK w a c ts) (hi : ∀ t ∈ ts, Sh.KIn t) :
    Calls Tryz.prog 43 #[str p, .slice a ts.length c] w fun e w' => e = .returned (av (Sh.atomS p ts)) ∧ Below w.heap.size w w' := by
  have W0 := hideP (fun W => rword_at p W)
  have few := hr.few
  have HA : Hid (Sh.atomS p ts = if Sh.wordB p = true ∧ ts.length ≤ 4 then (Sh.argsS ts).map fun s => p ++ (40 :: (s ++ [41])) else none) := rfl
  cases hw : Sh.wordB p with
  | false =>
    rw [hw] at W0
    have HA2 : Hid (Sh.atomS p ts = none) := by show _ = _; rw [HA.out]; simp [hw]
    clear HA hw
    go_enter Tryz.func43, Tryz.ntmps43
    go_wp2_with (first
      | (go_at_call 64; refine (W0.out _).mono ?_; rintro e w1 ⟨rfl, rfl⟩))
    go_ret2
    exact ⟨by rw [HA2.out]; rfl, Below.refl _ _⟩
  | true =>
  by_cases h4 : ts.length ≤ 4
  rotate_left
  · rw [hw] at W0
    have q : (ts.length : Int) > 4 := by omega
    have HA2 : Hid (Sh.atomS p ts = none) := by show _ = _; rw [HA.out]; simp [h4]
    clear HA hw
    go_enter Tryz.func43, Tryz.ntmps43
    go_wp2_with (first
      | (go_at_call 64; refine (W0.out _).mono ?_; rintro e w1 ⟨rfl, rfl⟩))
    go_ret2
    exact ⟨by rw [HA2.out]; rfl, Below.refl _ _⟩
  have hpl := Sh.word_len hw
  have q : ¬ (ts.length : Int) > 4 := by omega
  have HA2 : Hid (Sh.atomS p ts = (Sh.argsS ts).map fun s => p ++ (40 :: (s ++ [41]))) := by show _ = _; rw [HA.out, if_pos ⟨hw, h4⟩]
  rw [hw] at W0
  clear HA hw
  have zp := str_size p
  obtain ⟨c0, h0, e0, z0, n0⟩ := cat p [40]
  simp only [List.length_cons, List.length_nil] at n0
  go_enter Tryz.func43, Tryz.ntmps43
  go_wp2_with (first
    | (go_at_call 64; refine (W0.out _).mono ?_; rintro e w1 ⟨rfl, rfl⟩))
  go_loopw [6, 7] (fun v6 v7 wr => ∃ (k : Nat) (T x : List UInt8), v6 = str T ∧ v7 = .int .i64 (k : Int) ∧ k ≤ ts.length ∧ Hid (T = c0 ++ x) ∧ Hid (Sh.argsS (ts.take k) = some x) ∧ Below w.heap.size w wr) (fun _ v _ => ts.length - (Lib.intOf v).toNat)
  case atStart => exact ⟨0, c0, [], rfl, rfl, Nat.zero_le _, (by show _ = _; rw [List.append_nil]), rfl, Below.refl _ _⟩
  case round =>
    obtain ⟨k, T, x, rfl, rfl, hk, HT, HX, hb⟩ := hrel
    have zT := str_size T
    have hTl : T.length ≤ 180 := by
      have := Sh.args_len (fun t ht => hi t (List.mem_of_mem_take ht)) HX.out
      rw [HT.out]
      simp only [List.length_append, List.length_take] at *; omega
    by_cases hlt : k < ts.length
    · have q2 : (k : Int) < (ts.length : Int) := by omega
      obtain ⟨P1, O1, rfl⟩ := hr.addr (Nat.lt_of_le_of_lt (Nat.zero_le _) hlt)
      obtain ⟨a1, a2, a3, a4⟩ := term_row (hr.below hb (Nat.le_refl _)) k hlt
      have hti := hi _ (List.getElem_mem hlt)
      have TT := hideP (fun W => rterm_at (ts[k]'hlt) W hti)
      have hno : Hid (Sh.termS (ts[k]'hlt) = none → Sh.atomS p ts = none) := fun h => by
        have h1 : (Sh.argsS ts).isSome = false := by
          rw [Sh.args_some, List.all_eq_false]
          exact ⟨_, List.getElem_mem hlt, by unfold Sh.canT; rw [h]; decide⟩
        rw [HA2.out]
        cases h2 : Sh.argsS ts with
        | none => rfl
        | some _ => rw [h2] at h1; cases h1
      have HX2 : Hid (∀ y, Sh.termS (ts[k]'hlt) = some y → Sh.argsS (ts.take (k + 1)) = some (x ++ (Sh.sep k ++ y))) := fun y hy => by
        have := Sh.args_snoc HX.out hy
        rw [List.length_take, Nat.min_eq_left hk] at this
        rw [List.take_succ_eq_append_getElem hlt]; exact this
      have hyl : Hid (∀ y, Sh.termS (ts[k]'hlt) = some y → y.length ≤ 34) := fun y hy => Sh.term_len hti hy
      clear HX
      generalize (ts[k]'hlt) = t at *
      cases hs : Sh.termS t with
      | none =>
        have hno' := hideP (hno.out hs)
        rw [hs] at TT
        simp only [sv] at TT
        obtain ⟨v, ⟨b1, b2, b3⟩⟩ := t
        clear hno HX2 hyl hs
        go_wp2_with (first
          | (go_at_call 42; refine (TT.out wr).mono ?_; rintro e w2 ⟨rfl, b2⟩))
        go_ret2
        exact ⟨by rw [hno'.out]; rfl, hb.trans (b2.mono hb.size)⟩
      | some y =>
        have HX3 := hideP (HX2.out y hs)
        have ny := hyl.out y hs
        have zy := str_size y
        rw [hs] at TT
        simp only [sv] at TT
        obtain ⟨v, ⟨b1, b2, b3⟩⟩ := t
        clear hno HX2 hyl hs
        by_cases hk0 : k = 0
        · subst hk0
          simp only [Nat.zero_mul, Nat.add_zero] at a1 a2 a3 a4
          obtain ⟨c2, h2, e2, z2, n2⟩ := cat T y
          go_wp2_with (first
            | (go_at_call 42; refine (TT.out wr).mono ?_; rintro e w2 ⟨rfl, b2⟩))
          refine ⟨⟨1, c2, _, rfl, by go_num, by omega, ?_, HX3, hb.trans (b2.mono hb.size)⟩, by simp [Lib.intOf]; omega⟩
          show _ = _
          rw [h2.out, HT.out]; simp [Sh.sep]
        · have q3 : (k : Int) > 0 := by omega
          obtain ⟨c1, h1, e1, z1, n1⟩ := cat T [44, 32]
          obtain ⟨c2, h2, e2, z2, n2⟩ := cat c1 y
          simp only [List.length_cons, List.length_nil] at n1
          go_wp2_with (first
            | (go_at_call 42; refine (TT.out wr).mono ?_; rintro e w2 ⟨rfl, b2⟩))
          refine ⟨⟨k + 1, c2, _, rfl, by go_num, by omega, ?_, HX3, hb.trans (b2.mono hb.size)⟩, by simp [Lib.intOf]; omega⟩
          show _ = _
          rw [h2.out, h1.out, HT.out]; simp [Sh.sep, hk0]
    · have q2 : ¬ (k : Int) < (ts.length : Int) := by omega
      obtain ⟨c2, h2, e2, z2, n2⟩ := cat T [41]
      have HF : Hid (Sh.atomS p ts = some c2) := by
        have := HX.out
        rw [List.take_of_length_le (by omega)] at this
        show _ = _
        rw [HA2.out, this, h2.out, HT.out, h0.out]
        simp
      go_wp2_with fail
      go_ret2
      exact ⟨by rw [HF.out]; rfl, hb⟩
end Go.Proofs.YtefajadolgmpdaaGreatDoor

/-
  The reference's Rule and Program: what they answer.
-/
namespace Go.Proofs.YtefajadolgmpdaaGreatDoor
open Go.RowKit Go.Lib Go.Shelf

theorem lit_row {w : World} {b o c : Nat} {ys : List Lv} (h : Row lK w (some ⟨b, o, none⟩) c ys) (k : Nat) (hk : k < ys.length) :
    w.cell? ⟨b, o + k * 10, none⟩ = some (str ys[k].by_.v) ∧ w.cell? ⟨b, o + k * 10 + 1, none⟩ = some (.bool ys[k].by_.k.num) ∧ w.cell? ⟨b, o + k * 10 + 2, none⟩ = some (.int .i64 ys[k].by_.k.n) ∧ w.cell? ⟨b, o + k * 10 + 3, none⟩ = some (str ys[k].by_.k.s) ∧ w.cell? ⟨b, o + k * 10 + 4, none⟩ = some (str ys[k].pred) ∧ w.cell? ⟨b, o + k * 10 + 5, none⟩ = some (.slice ys[k].a ys[k].args.length ys[k].cap) ∧ w.cell? ⟨b, o + k * 10 + 6, none⟩ = some (str ys[k].at_.v) ∧ w.cell? ⟨b, o + k * 10 + 7, none⟩ = some (.bool ys[k].at_.k.num) ∧ w.cell? ⟨b, o + k * 10 + 8, none⟩ = some (.int .i64 ys[k].at_.k.n) ∧ w.cell? ⟨b, o + k * 10 + 9, none⟩ = some (str ys[k].at_.k.s) := by
  have hr := h.range k hk
  exact ⟨hr 0 _ rfl, hr 1 _ rfl, hr 2 _ rfl, hr 3 _ rfl, hr 4 _ rfl, hr 5 _ rfl, hr 6 _ rfl, hr 7 _ rfl, hr 8 _ rfl, hr 9 _ rfl⟩
theorem av_known (p : List UInt8) (ts : List Tm) (hi : ∀ t ∈ ts, Sh.KIn t) : ∃ u : List UInt8, av (Sh.atomS p ts) = .tuple #[str u, .bool (Sh.canA p ts)] ∧ u.length ≤ 178 ∧ ∀ s, Sh.atomS p ts = some s → u = s := by
  rw [← Sh.atom_some]
  cases h : Sh.atomS p ts with
  | none => exact ⟨[], rfl, by simp, fun s hs => by cases hs⟩
  | some s => exact ⟨s, rfl, Sh.atom_len hi h, fun s' hs => by cases hs; rfl⟩
theorem sv_known (t : Tm) (hi : Sh.KIn t) : ∃ (u : List UInt8) (e : Int), sv (Sh.termS t) = .tuple #[str u, .int .i64 e] ∧ u.length ≤ 34 ∧ (e = if Sh.canT t = true then 0 else 100) ∧ ∀ s, Sh.termS t = some s → u = s := by
  unfold Sh.canT
  cases h : Sh.termS t with
  | none => exact ⟨[], 100, rfl, by simp, by simp, fun s hs => by cases hs⟩
  | some s => exact ⟨s, 0, rfl, Sh.term_len hi h, by simp, fun s' hs => by cases hs; rfl⟩
/-- rules of which all parts can be shown -/
theorem rule_made {r : Ru} (h : Sh.canT r.home = true) (h2 : Sh.canA r.pred r.args = true) (h3 : Sh.canM r.to_ = true) : ∃ a x t, Sh.termS r.home = some a ∧ Sh.atomS r.pred r.args = some x ∧ Sh.maybeS [32, 116, 111, 32] r.to_ [] = some t := by
  rw [← Sh.atom_some] at h2
  rw [← Sh.maybe_some [32, 116, 111, 32] r.to_ []] at h3
  obtain ⟨a, ha⟩ := Option.isSome_iff_exists.1 h
  obtain ⟨x, hx⟩ := Option.isSome_iff_exists.1 h2
  obtain ⟨t, ht⟩ := Option.isSome_iff_exists.1 h3
  exact ⟨a, x, t, ha, hx, ht⟩
theorem lit_made {l : Lt} (h : Sh.canM l.by_ = true) (h2 : Sh.canA l.pred l.args = true) (h3 : Sh.canM l.at_ = true) : ∃ a x t, Sh.maybeS [] l.by_ [32, 115, 97, 121, 115, 32] = some a ∧ Sh.atomS l.pred l.args = some x ∧ Sh.maybeS [32, 97, 116, 32] l.at_ [] = some t ∧ Sh.litS l = some (a ++ (x ++ t)) := by
  rw [← Sh.atom_some] at h2
  rw [← Sh.maybe_some [32, 97, 116, 32] l.at_ []] at h3
  rw [← Sh.maybe_some [] l.by_ [32, 115, 97, 121, 115, 32]] at h
  obtain ⟨a, ha⟩ := Option.isSome_iff_exists.1 h
  obtain ⟨x, hx⟩ := Option.isSome_iff_exists.1 h2
  obtain ⟨t, ht⟩ := Option.isSome_iff_exists.1 h3
  exact ⟨a, x, t, ha, hx, ht, by unfold Sh.litS; rw [ha, hx, ht]; rfl⟩
theorem rule_not {r : Ru} (h : Sh.canR r = false) : Sh.ruleS r = none := by
  rw [← Sh.rule_some] at h
  cases hr : Sh.ruleS r with
  | none => rfl
  | some _ => rw [hr] at h; cases h

set_option maxRecDepth 100000 in
set_option maxHeartbeats 8000000 in
theorem rrule_at (x : Rv) (w : World) (hx : Rv.Aw w x) (hi : Sh.RIn x.r) :
    Calls Tryz.prog 25 #[rval x] w fun e w' => e = .returned (sv (Sh.ruleS x.r)) ∧ Below w.heap.size w w' := by
  have mixed : Tryz.prog.follows .mixedOrders = true := by kernel_rfl
  obtain ⟨r1, r2, r3⟩ := hx
  have i1 : Sh.KIn x.home := hi.1
  have i2 : ∀ t ∈ x.args, Sh.KIn t := hi.2.1
  have i3 : Sh.KIn x.to_ := hi.2.2.1
  have i4 : ∀ y ∈ x.body, Sh.LIn y.l := fun y hy => hi.2.2.2 _ (List.mem_map_of_mem hy)
  clear hi
  have A0 := below_alloc w (.cells (rv x).toArray 42)
  have H0 := heap_alloc_new w (.cells (rv x).toArray 42)
  have few := r2.few
  have hml : (x.body.map Lv.l).length = x.body.length := List.length_map ..
  have HC : Hid (Sh.canR x.r = (Sh.canT x.home && Sh.canA x.pred x.args && Sh.canM x.to_ && decide (1 ≤ (x.body.map Lv.l).length) && decide ((x.body.map Lv.l).length ≤ 4) && (x.body.map Lv.l).all Sh.canL)) := rfl
  rw [hml] at HC
  by_cases g1 : 1 ≤ x.body.length
  rotate_left
  · have q : (x.body.length : Int) < 1 := by omega
    have HN : Hid (Sh.ruleS x.r = none) := rule_not (by rw [HC.out]; simp [g1])
    clear HC
    go_enter Tryz.func25, Tryz.ntmps25
    go_wp2_with fail
    go_ret2
    exact ⟨by rw [HN.out]; rfl, A0⟩
  have q : ¬ (x.body.length : Int) < 1 := by omega
  by_cases g2 : x.body.length ≤ 4
  rotate_left
  · have q' : (x.body.length : Int) > 4 := by omega
    have HN : Hid (Sh.ruleS x.r = none) := rule_not (by rw [HC.out]; simp [g2])
    clear HC
    go_enter Tryz.func25, Tryz.ntmps25
    go_wp2_with fail
    go_ret2
    exact ⟨by rw [HN.out]; rfl, A0⟩
  have q' : ¬ (x.body.length : Int) > 4 := by omega
  have HC2 : Hid (Sh.canR x.r = (Sh.canT x.home && Sh.canA x.pred x.args && Sh.canM x.to_ && (x.body.map Lv.l).all Sh.canL)) := by show _ = _; rw [HC.out]; simp [g1, g2]
  clear HC
  have T1 := hideP (rterm_at x.home (w.alloc (.cells (rv x).toArray 42)) i1)
  obtain ⟨u1, er, hu1, nu1, her, ku1⟩ := sv_known x.home i1
  have KU1 := hideP ku1
  have KER := hideP her
  clear her
  rw [hu1] at T1
  have T2 := hideP (fun W (h : Below w.heap.size w W) => ratom_at x.pred x.a x.cap x.args W (r1.below h (Nat.le_refl _)) i2)
  obtain ⟨u2, hu2, nu2, ku2⟩ := av_known x.pred x.args i2
  have KU2 := hideP ku2
  rw [hu2] at T2
  have T3 := hideP (fun W => rmaybe_at [32, 116, 111, 32] x.to_ [] W i3 (by decide) (by decide))
  clear hu1 hu2 ku1 ku2
  have zu1 := str_size u1
  have zu2 := str_size u2
  have HM : Hid (Sh.canT x.home = true → Sh.canA x.pred x.args = true → Sh.canM x.to_ = true → Sh.termS x.home = some u1 ∧ Sh.atomS x.pred x.args = some u2 ∧ ∃ t, Sh.maybeS [32, 116, 111, 32] x.to_ [] = some t) := fun h1 h2 h3 => by
    obtain ⟨a, y, t, ha, hy, ht⟩ := rule_made (r := x.r) h1 h2 h3
    have ha : Sh.termS x.home = some a := ha
    have hy : Sh.atomS x.pred x.args = some y := hy
    rw [KU1.out a ha, KU2.out y hy]
    exact ⟨ha, hy, t, ht⟩
  have HR : Hid (Sh.ruleS x.r = (Sh.termS x.home).bind fun h => (Sh.atomS x.pred x.args).bind fun y => (Sh.maybeS [32, 116, 111, 32] x.to_ []).bind fun t => (Sh.litsS (x.body.map Lv.l)).map fun b => h ++ (58 :: 32 :: (y ++ (t ++ (32 :: 58 :: 45 :: 32 :: (b ++ [46])))))) := by
    show Sh.ruleS x.r = _
    unfold Sh.ruleS
    rw [if_pos ⟨by rw [show x.r.body.length = x.body.length from hml]; exact g1, by rw [show x.r.body.length = x.body.length from hml]; exact g2⟩]
    rfl
  clear KU1 KU2
  generalize Sh.canT x.home = s1 at *
  generalize Sh.canA x.pred x.args = s2 at *
  go_enter Tryz.func25, Tryz.ntmps25
  go_wp2_with fail
  refine T1.out.mono ?_
  rintro e w1 ⟨rfl, b1⟩
  have H1 := below_heap b1 H0
  have B1 := Below.then A0 b1
  obtain ⟨c0, c1, c2, c3, c4, c5, c6, c7, c8, c9, c10⟩ := rule_cells9 x H1
  clear c0 c1 c2 c3 c6 c7 c8 c9 c10
  go_wp2_with fail
  refine (T2.out w1 B1).mono ?_
  rintro e w2 ⟨rfl, b2⟩
  have H2 := below_heap b2 H1
  have B2 := Below.then B1 b2
  clear c4 c5
  obtain ⟨c0, c1, c2, c3, c4, c5, c6, c7, c8, c9, c10⟩ := rule_cells9 x H2
  clear c0 c1 c2 c3 c4 c5 c10
  go_wp2_with fail
  refine (T3.out w2).mono ?_
  rintro e w3 ⟨⟨u3, rfl, nu3, ku3⟩, b3⟩
  have KU3 := hideP ku3
  clear ku3
  have H3 := below_heap b3 H2
  have B3 := Below.then B2 b3
  clear c6 c7 c8 c9 T1 T2 T3 H0 H1 H2 b1 b2 b3 B1 B2 A0 r1
  generalize Sh.canM x.to_ = s3 at *
  have zu3 := str_size u3
  cases s1
  · have HN : Hid (Sh.ruleS x.r = none) := rule_not (by rw [HC2.out]; rfl)
    have her' : er = 100 := KER.out
    subst her'
    clear HM HC2 HR KER
    go_wp2_with fail
    go_ret2
    exact ⟨by rw [HN.out]; rfl, B3⟩
  have her' : er = 0 := KER.out
  subst her'
  clear KER
  cases s2
  · have HN : Hid (Sh.ruleS x.r = none) := rule_not (by rw [HC2.out]; rfl)
    clear HM HC2 HR
    go_wp2_with fail
    go_ret2
    exact ⟨by rw [HN.out]; rfl, B3⟩
  cases s3
  · have HN : Hid (Sh.ruleS x.r = none) := rule_not (by rw [HC2.out]; rfl)
    clear HM HC2 HR
    go_wp2_with fail
    go_ret2
    exact ⟨by rw [HN.out]; rfl, B3⟩
  have HC3 : Hid (Sh.canR x.r = (x.body.map Lv.l).all Sh.canL) := by show _ = _; rw [HC2.out]; rfl
  have HR2 : Hid (Sh.ruleS x.r = (Sh.litsS (x.body.map Lv.l)).map fun b => u1 ++ (58 :: 32 :: (u2 ++ (u3 ++ (32 :: 58 :: 45 :: 32 :: (b ++ [46])))))) := by
    obtain ⟨h1, h2, t, h3⟩ := HM.out rfl rfl rfl
    show _ = _
    rw [HR.out, h1, h2, h3, KU3.out t h3]; rfl
  clear HM HC2 HR KU3
  have c10 := (rule_cells9 x H3).2.2.2.2.2.2.2.2.2.2
  obtain ⟨t1, e1, f1, z1, n1⟩ := cat u1 [58, 32]
  obtain ⟨t2, e2, f2, z2, n2⟩ := cat t1 u2
  obtain ⟨t3, e3, f3, z3, n3⟩ := cat t2 u3
  obtain ⟨t4, e4, f4, z4, n4⟩ := cat t3 [32, 58, 45, 32]
  simp only [List.length_cons, List.length_nil] at n1 n4
  have HB : Hid (t4 = u1 ++ (58 :: 32 :: (u2 ++ (u3 ++ [32, 58, 45, 32])))) := by
    show _ = _
    rw [e4.out, e3.out, e2.out, e1.out]; simp
  clear e1 e2 e3 e4
  generalize hbody : x.body = ls at *
  generalize hba : x.ba = ba at *
  generalize hbc : x.bcap = bc at *
  have HBo := hideP hbody
  have HBa := hideP hba
  have HBc := hideP hbc
  clear hbody hba hbc
  go_wp2_with fail
  go_loopw [10, 11] (fun v10 v11 wr => ∃ (k : Nat) (T m : List UInt8), v10 = str T ∧ v11 = .int .i64 (k : Int) ∧ k ≤ ls.length ∧ Hid (T = t4 ++ m) ∧ Hid (Sh.litsS ((ls.take k).map Lv.l) = some m) ∧ Hid (wr.heap[w.heap.size]? = some (.cells (rv x).toArray 42)) ∧ Below w.heap.size w wr) (fun _ v _ => ls.length - (Lib.intOf v).toNat)
  case atStart => exact ⟨0, t4, [], rfl, rfl, Nat.zero_le _, (by show _ = _; simp), rfl, H3, B3⟩
  case round =>
    obtain ⟨k, T, m, rfl, rfl, hk, HT, HX, HH, hb⟩ := hrel
    have zT := str_size T
    have hTl : T.length ≤ 1500 := by
      have h5 := Sh.lits_len (fun t ht => by
        obtain ⟨y, hy, rfl⟩ := List.mem_map.1 ht
        exact i4 y (List.mem_of_mem_take hy)) HX.out
      rw [HT.out]
      rw [List.length_map, List.length_take] at h5
      simp only [List.length_append] at *; omega
    have KC : ∀ W, Below wr.heap.size wr W → W.cell? ⟨w.heap.size, 10, none⟩ = some (.slice ba ls.length bc) := fun W h => by
      have := (rule_cells9 x (below_heap h HH.out)).2.2.2.2.2.2.2.2.2.2
      rw [HBo.out, HBa.out, HBc.out] at this
      exact this
    have d10 := KC wr (Below.refl _ _)
    by_cases hlt : k < ls.length
    · have q2 : (k : Int) < (ls.length : Int) := by omega
      obtain ⟨P1, O1, rfl⟩ := r2.addr (Nat.lt_of_le_of_lt (Nat.zero_le _) hlt)
      have RC := hideP (fun W (h : Below w.heap.size w W) => lit_row (r2.below h (Nat.le_refl _)) k hlt)
      have aP : Row tK w (ls[k]'hlt).a (ls[k]'hlt).cap (ls[k]'hlt).args := r3 _ (List.getElem_mem hlt)
      have hyi := i4 _ (List.getElem_mem hlt)
      have hno : Hid (Sh.canL (ls[k]'hlt).l = false → Sh.ruleS x.r = none) := fun h => rule_not (by
        rw [HC3.out, List.all_eq_false]; exact ⟨_, List.mem_map_of_mem (List.getElem_mem hlt), by rw [h]; decide⟩)
      have HX2 : Hid (∀ z, Sh.litS (ls[k]'hlt).l = some z → Sh.litsS ((ls.take (k + 1)).map Lv.l) = some (m ++ (Sh.sep k ++ z))) := fun z hz => by
        have := Sh.lits_snoc HX.out hz
        rw [List.length_map, List.length_take, Nat.min_eq_left hk] at this
        rw [List.take_succ_eq_append_getElem hlt, List.map_append]; exact this
      clear HX
      generalize (ls[k]'hlt) = y at *
      have HL : Hid (Sh.canL y.l = (Sh.canM y.by_ && Sh.canA y.pred y.args && Sh.canM y.at_)) := rfl
      have T1 := hideP (fun W => rmaybe_at [] y.by_ [32, 115, 97, 121, 115, 32] W hyi.1 (by decide) (by decide))
      have T2 := hideP (fun W (h : Below w.heap.size w W) => ratom_at y.pred y.a y.cap y.args W (aP.below h (Nat.le_refl _)) hyi.2.1)
      obtain ⟨v2, hv2, nv2, kv2⟩ := av_known y.pred y.args hyi.2.1
      have KV2 := hideP kv2
      rw [hv2] at T2
      clear hv2 kv2
      have T3 := hideP (fun W => rmaybe_at [32, 97, 116, 32] y.at_ [] W hyi.2.2 (by decide) (by decide))
      obtain ⟨l0, l1, l2, l3, l4, l5, l6, l7, l8, l9⟩ := RC.out wr hb
      clear l4 l5 l6 l7 l8 l9
      go_wp2_with fail
      refine (T1.out wr).mono ?_
      rintro e w4 ⟨⟨v1, rfl, nv1, kv1⟩, b4⟩
      have KV1 := hideP kv1
      clear kv1 l0 l1 l2 l3 d10
      have B4 := hb.trans (b4.mono hb.size)
      have d10 := KC w4 b4
      obtain ⟨l0, l1, l2, l3, l4, l5, l6, l7, l8, l9⟩ := RC.out w4 B4
      clear l0 l1 l2 l3 l6 l7 l8 l9
      have KS : ∀ W, Below w4.heap.size w4 W → (W.cell? ⟨w.heap.size, 10, none⟩ = some (.slice (some ⟨P1, O1, none⟩) ls.length bc) ∧ W.cell? ⟨P1, O1 + k * 10 + 4, none⟩ = some (str y.pred) ∧ W.cell? ⟨P1, O1 + k * 10 + 5, none⟩ = some (.slice y.a y.args.length y.cap)) := fun W h => ⟨KC W (Below.then b4 h), (RC.out W (Below.then B4 h)).2.2.2.2.1, (RC.out W (Below.then B4 h)).2.2.2.2.2.1⟩
      go_wp2_with fail
      go_region_held3 (fun W => W.cell? ⟨w.heap.size, 10, none⟩ = some (.slice (some ⟨P1, O1, none⟩) ls.length bc) ∧ W.cell? ⟨P1, O1 + k * 10 + 4, none⟩ = some (str y.pred) ∧ W.cell? ⟨P1, O1 + k * 10 + 5, none⟩ = some (.slice y.a y.args.length y.cap)) (first | exact KS _ ((Below.refl _ _).drew) | exact KS _ b5) (first
        | (go_at_call 43; refine (T2.out w4.drew (B4.drew)).mono ?_; rintro e w5 ⟨rfl, b5'⟩; have b5 : Below w4.heap.size w4 w5 := ((Below.refl _ _).drew).trans b5'))
      have B5 := Below.then B4 b5
      clear l4 l5 d10
      have d10 := KC w5 (Below.then b4 b5)
      obtain ⟨l0, l1, l2, l3, l4, l5, l6, l7, l8, l9⟩ := RC.out w5 B5
      clear l0 l1 l2 l3 l4 l5
      go_wp2_with fail
      refine (T3.out w5).mono ?_
      rintro e w6 ⟨⟨v3, rfl, nv3, kv3⟩, b6⟩
      have KV3 := hideP kv3
      clear kv3 l6 l7 l8 l9 d10 T1 T2 T3 RC
      have B6 := Below.then B5 b6
      have H6 := hideP (below_heap (Below.then (Below.then b4 b5) b6) HH.out)
      have zv1 := str_size v1
      have zv2 := str_size v2
      have zv3 := str_size v3
      have HM : Hid (Sh.canM y.by_ = true → Sh.canA y.pred y.args = true → Sh.canM y.at_ = true → Sh.litS y.l = some (v1 ++ (v2 ++ v3))) := fun h1 h2 h3 => by
        obtain ⟨a, z, t, ha, hz, ht, hl⟩ := lit_made (l := y.l) h1 h2 h3
        rw [KV1.out a ha, KV2.out z hz, KV3.out t ht]; exact hl
      clear KV1 KV2 KV3
      generalize Sh.canM y.by_ = s1 at *
      generalize Sh.canA y.pred y.args = s2 at *
      generalize Sh.canM y.at_ = s3 at *
      cases s1
      · have hN := hideP (hno.out HL.out)
        clear HM HX2 hno HL
        go_wp2_with fail
        go_ret2
        exact ⟨by rw [hN.out]; rfl, B6⟩
      cases s2
      · have hN := hideP (hno.out HL.out)
        clear HM HX2 hno HL
        go_wp2_with fail
        go_ret2
        exact ⟨by rw [hN.out]; rfl, B6⟩
      cases s3
      · have hN := hideP (hno.out HL.out)
        clear HM HX2 hno HL
        go_wp2_with fail
        go_ret2
        exact ⟨by rw [hN.out]; rfl, B6⟩
      have HX3 := hideP (HX2.out _ (HM.out rfl rfl rfl))
      clear HM HX2 hno HL
      obtain ⟨a1, e1, f1, z1, n1⟩ := cat v1 v2
      obtain ⟨a2, e2, f2, z2, n2⟩ := cat a1 v3
      by_cases hk0 : k = 0
      · subst hk0
        obtain ⟨a3, e3, f3, z3, n3⟩ := cat T a2
        go_wp2_with fail
        refine ⟨⟨1, a3, _, rfl, by go_num, by omega, ?_, HX3, H6, B6⟩, by simp [Lib.intOf]; omega⟩
        show _ = _
        rw [e3.out, e2.out, e1.out, HT.out]; simp [Sh.sep]
      · have q3 : (k : Int) > 0 := by omega
        obtain ⟨a4, e4, f4', z4', n4'⟩ := cat T [44, 32]
        obtain ⟨a3, e3, f3, z3, n3⟩ := cat a4 a2
        simp only [List.length_cons, List.length_nil] at n4'
        go_wp2_with fail
        refine ⟨⟨k + 1, a3, _, rfl, by go_num, by omega, ?_, HX3, H6, B6⟩, by simp [Lib.intOf]; omega⟩
        show _ = _
        rw [e3.out, e4.out, e2.out, e1.out, HT.out]; simp [Sh.sep, hk0]
    · have q2 : ¬ (k : Int) < (ls.length : Int) := by omega
      obtain ⟨a3, e3, f3, z3, n3⟩ := cat T [46]
      have HF : Hid (Sh.ruleS x.r = some a3) := by
        have := HX.out
        rw [List.take_of_length_le (by omega)] at this
        show _ = _
        rw [HR2.out, this, e3.out, HT.out, HB.out]
        simp
      go_wp2_with fail
      go_ret2
      exact ⟨by rw [HF.out]; rfl, hb⟩
end Go.Proofs.YtefajadolgmpdaaGreatDoor
