/-
  The reference's Rule and Program: what they answer.
-/
import Derived.Test.YtpdmmmdkpipmkaaGreatDoorQRf4
namespace Go.Proofs.YtpdmmmdkpipmkaaGreatDoor
open Go.RowKit Go.Lib Go.Shelf

theorem lit_row {w : World} {b o c : Nat} {ys : List Lv} (h : Row lK w (some ⟨b, o, none⟩) c ys) (k : Nat) (hk : k < ys.length) :
    w.cell? ⟨b, o + k * 10, none⟩ = some (str ys[k].by_.v) ∧ w.cell? ⟨b, o + k * 10 + 1, none⟩ = some (.bool ys[k].by_.k.num) ∧ w.cell? ⟨b, o + k * 10 + 2, none⟩ = some (.int .i64 ys[k].by_.k.n) ∧ w.cell? ⟨b, o + k * 10 + 3, none⟩ = some (str ys[k].by_.k.s) ∧ w.cell? ⟨b, o + k * 10 + 4, none⟩ = some (str ys[k].pred) ∧ w.cell? ⟨b, o + k * 10 + 5, none⟩ = some (.slice ys[k].a ys[k].args.length ys[k].cap) ∧ w.cell? ⟨b, o + k * 10 + 6, none⟩ = some (str ys[k].at_.v) ∧ w.cell? ⟨b, o + k * 10 + 7, none⟩ = some (.bool ys[k].at_.k.num) ∧ w.cell? ⟨b, o + k * 10 + 8, none⟩ = some (.int .i64 ys[k].at_.k.n) ∧ w.cell? ⟨b, o + k * 10 + 9, none⟩ = some (str ys[k].at_.k.s) := by
  have hr := h.range k hk
  exact ⟨hr 0 _ rfl, hr 1 _ rfl, hr 2 _ rfl, hr 3 _ rfl, hr 4 _ rfl, hr 5 _ rfl, hr 6 _ rfl, hr 7 _ rfl, hr 8 _ rfl, hr 9 _ rfl⟩
theorem av_known (p : List UInt8) (ts : List Tm) (hi : ∀ t ∈ ts, Sh.KIn t) : ∃ u : List UInt8, av (Sh.atomS p ts) = .tuple #[str u, .bool (Sh.canA p ts)] ∧ u.length ≤ 178 ∧ ∀ s, Sh.atomS p ts = some s → u = s := by
  rw [← Sh.atom_some]
  cases h : Sh.atomS p ts with
  | none => exact ⟨[], rfl, by simp, fun s hs => by cases hs⟩
  | some s => exact ⟨s, rfl, Sh.atom_len hi h, fun s' hs => by cases hs; rfl⟩
theorem sv_known (t : Tm) (hi : Sh.KIn t) : ∃ (u : List UInt8) (e : Int), sv (Sh.termS t) = .tuple #[str u, .int .i64 e] ∧ u.length ≤ 34 ∧ (e = if Sh.canT t = true then 0 else 100) ∧ ∀ s, Sh.termS t = some s → u = s := by
  unfold Sh.canT
  cases h : Sh.termS t with
  | none => exact ⟨[], 100, rfl, by simp, by simp, fun s hs => by cases hs⟩
  | some s => exact ⟨s, 0, rfl, Sh.term_len hi h, by simp, fun s' hs => by cases hs; rfl⟩
/-- rules of which all parts can be shown -/
theorem rule_made {r : Ru} (h : Sh.canT r.home = true) (h2 : Sh.canA r.pred r.args = true) (h3 : Sh.canM r.to_ = true) : ∃ a x t, Sh.termS r.home = some a ∧ Sh.atomS r.pred r.args = some x ∧ Sh.maybeS [32, 116, 111, 32] r.to_ [] = some t := by
  rw [← Sh.atom_some] at h2
  rw [← Sh.maybe_some [32, 116, 111, 32] r.to_ []] at h3
  obtain ⟨a, ha⟩ := Option.isSome_iff_exists.1 h
  obtain ⟨x, hx⟩ := Option.isSome_iff_exists.1 h2
  obtain ⟨t, ht⟩ := Option.isSome_iff_exists.1 h3
  exact ⟨a, x, t, ha, hx, ht⟩
theorem lit_made {l : Lt} (h : Sh.canM l.by_ = true) (h2 : Sh.canA l.pred l.args = true) (h3 : Sh.canM l.at_ = true) : ∃ a x t, Sh.maybeS [] l.by_ [32, 115, 97, 121, 115, 32] = some a ∧ Sh.atomS l.pred l.args = some x ∧ Sh.maybeS [32, 97, 116, 32] l.at_ [] = some t ∧ Sh.litS l = some (a ++ (x ++ t)) := by
  rw [← Sh.atom_some] at h2
  rw [← Sh.maybe_some [32, 97, 116, 32] l.at_ []] at h3
  rw [← Sh.maybe_some [] l.by_ [32, 115, 97, 121, 115, 32]] at h
  obtain ⟨a, ha⟩ := Option.isSome_iff_exists.1 h
  obtain ⟨x, hx⟩ := Option.isSome_iff_exists.1 h2
  obtain ⟨t, ht⟩ := Option.isSome_iff_exists.1 h3
  exact ⟨a, x, t, ha, hx, ht, by unfold Sh.litS; rw [ha, hx, ht]; rfl⟩
theorem rule_not {r : Ru} (h : Sh.canR r = false) : Sh.ruleS r = none := by
  rw [← Sh.rule_some] at h
  cases hr : Sh.ruleS r with
  | none => rfl
  | some _ => rw [hr] at h; cases h

set_option maxRecDepth 100000 in
set_option maxHeartbeats 8000000 in
theorem rrule_at (x : Rv) (w : World) (hx : Rv.Aw w x) (hi : Sh.RIn x.r) :
    Calls Tryz.prog 48 #[rval x] w fun e w' => e = .returned (sv (Sh.ruleS x.r)) ∧ Below w.heap.size w w' := by
  have mixed : Tryz.prog.follows .mixedOrders = true := by kernel_rfl
  obtain ⟨r1, r2, r3⟩ := hx
  have i1 : Sh.KIn x.home := hi.1
  have i2 : ∀ t ∈ x.args, Sh.KIn t := hi.2.1
  have i3 : Sh.KIn x.to_ := hi.2.2.1
  have i4 : ∀ y ∈ x.body, Sh.LIn y.l := fun y hy => hi.2.2.2 _ (List.mem_map_of_mem hy)
  clear hi
  have A0 := below_alloc w (.cells (rv x).toArray 48)
  have H0 := heap_alloc_new w (.cells (rv x).toArray 48)
  have few := r2.few
  have hml : (x.body.map Lv.l).length = x.body.length := List.length_map ..
  have HC : Hid (Sh.canR x.r = (Sh.canT x.home && Sh.canA x.pred x.args && Sh.canM x.to_ && decide (1 ≤ (x.body.map Lv.l).length) && decide ((x.body.map Lv.l).length ≤ 4) && (x.body.map Lv.l).all Sh.canL)) := rfl
  rw [hml] at HC
  by_cases g1 : 1 ≤ x.body.length
  rotate_left
  · have q : (x.body.length : Int) < 1 := by omega
    have HN : Hid (Sh.ruleS x.r = none) := rule_not (by rw [HC.out]; simp [g1])
    clear HC
    go_enter Tryz.func48, Tryz.ntmps48
    go_wp2_with fail
    go_ret2
    exact ⟨by rw [HN.out]; rfl, A0⟩
  have q : ¬ (x.body.length : Int) < 1 := by omega
  by_cases g2 : x.body.length ≤ 4
  rotate_left
  · have q' : (x.body.length : Int) > 4 := by omega
    have HN : Hid (Sh.ruleS x.r = none) := rule_not (by rw [HC.out]; simp [g2])
    clear HC
    go_enter Tryz.func48, Tryz.ntmps48
    go_wp2_with fail
    go_ret2
    exact ⟨by rw [HN.out]; rfl, A0⟩
  have q' : ¬ (x.body.length : Int) > 4 := by omega
  have HC2 : Hid (Sh.canR x.r = (Sh.canT x.home && Sh.canA x.pred x.args && Sh.canM x.to_ && (x.body.map Lv.l).all Sh.canL)) := by show _ = _; rw [HC.out]; simp [g1, g2]
  clear HC
  have T1 := hideP (rterm_at x.home (w.alloc (.cells (rv x).toArray 48)) i1)
  obtain ⟨u1, er, hu1, nu1, her, ku1⟩ := sv_known x.home i1
  have KU1 := hideP ku1
  have KER := hideP her
  clear her
  rw [hu1] at T1
  have T2 := hideP (fun W (h : Below w.heap.size w W) => ratom_at x.pred x.a x.cap x.args W (r1.below h (Nat.le_refl _)) i2)
  obtain ⟨u2, hu2, nu2, ku2⟩ := av_known x.pred x.args i2
  have KU2 := hideP ku2
  rw [hu2] at T2
  have T3 := hideP (fun W => rmaybe_at [32, 116, 111, 32] x.to_ [] W i3 (by decide) (by decide))
  clear hu1 hu2 ku1 ku2
  have zu1 := str_size u1
  have zu2 := str_size u2
  have HM : Hid (Sh.canT x.home = true → Sh.canA x.pred x.args = true → Sh.canM x.to_ = true → Sh.termS x.home = some u1 ∧ Sh.atomS x.pred x.args = some u2 ∧ ∃ t, Sh.maybeS [32, 116, 111, 32] x.to_ [] = some t) := fun h1 h2 h3 => by
    obtain ⟨a, y, t, ha, hy, ht⟩ := rule_made (r := x.r) h1 h2 h3
    have ha : Sh.termS x.home = some a := ha
    have hy : Sh.atomS x.pred x.args = some y := hy
    rw [KU1.out a ha, KU2.out y hy]
    exact ⟨ha, hy, t, ht⟩
  have HR : Hid (Sh.ruleS x.r = (Sh.termS x.home).bind fun h => (Sh.atomS x.pred x.args).bind fun y => (Sh.maybeS [32, 116, 111, 32] x.to_ []).bind fun t => (Sh.litsS (x.body.map Lv.l)).map fun b => h ++ (58 :: 32 :: (y ++ (t ++ (32 :: 58 :: 45 :: 32 :: (b ++ [46])))))) := by
    show Sh.ruleS x.r = _
    unfold Sh.ruleS
    rw [if_pos ⟨by rw [show x.r.body.length = x.body.length from hml]; exact g1, by rw [show x.r.body.length = x.body.length from hml]; exact g2⟩]
    rfl
  clear KU1 KU2
  generalize Sh.canT x.home = s1 at *
  generalize Sh.canA x.pred x.args = s2 at *
  go_enter Tryz.func48, Tryz.ntmps48
  go_wp2_with fail
  refine T1.out.mono ?_
  rintro e w1 ⟨rfl, b1⟩
  have H1 := below_heap b1 H0
  have B1 := Below.then A0 b1
  obtain ⟨c0, c1, c2, c3, c4, c5, c6, c7, c8, c9, c10⟩ := rule_cells9 x H1
  clear c0 c1 c2 c3 c6 c7 c8 c9 c10
  go_wp2_with fail
  refine (T2.out w1 B1).mono ?_
  rintro e w2 ⟨rfl, b2⟩
  have H2 := below_heap b2 H1
  have B2 := Below.then B1 b2
  clear c4 c5
  obtain ⟨c0, c1, c2, c3, c4, c5, c6, c7, c8, c9, c10⟩ := rule_cells9 x H2
  clear c0 c1 c2 c3 c4 c5 c10
  go_wp2_with fail
  refine (T3.out w2).mono ?_
  rintro e w3 ⟨⟨u3, rfl, nu3, ku3⟩, b3⟩
  have KU3 := hideP ku3
  clear ku3
  have H3 := below_heap b3 H2
  have B3 := Below.then B2 b3
  clear c6 c7 c8 c9 T1 T2 T3 H0 H1 H2 b1 b2 b3 B1 B2 A0 r1
  generalize Sh.canM x.to_ = s3 at *
  have zu3 := str_size u3
  cases s1
  · have HN : Hid (Sh.ruleS x.r = none) := rule_not (by rw [HC2.out]; rfl)
    have her' : er = 100 := KER.out
    subst her'
    clear HM HC2 HR KER
    go_wp2_with fail
    go_ret2
    exact ⟨by rw [HN.out]; rfl, B3⟩
  have her' : er = 0 := KER.out
  subst her'
  clear KER
  cases s2
  · have HN : Hid (Sh.ruleS x.r = none) := rule_not (by rw [HC2.out]; rfl)
    clear HM HC2 HR
    go_wp2_with fail
    go_ret2
    exact ⟨by rw [HN.out]; rfl, B3⟩
  cases s3
  · have HN : Hid (Sh.ruleS x.r = none) := rule_not (by rw [HC2.out]; rfl)
    clear HM HC2 HR
    go_wp2_with fail
    go_ret2
    exact ⟨by rw [HN.out]; rfl, B3⟩
  have HC3 : Hid (Sh.canR x.r = (x.body.map Lv.l).all Sh.canL) := by show _ = _; rw [HC2.out]; rfl
  have HR2 : Hid (Sh.ruleS x.r = (Sh.litsS (x.body.map Lv.l)).map fun b => u1 ++ (58 :: 32 :: (u2 ++ (u3 ++ (32 :: 58 :: 45 :: 32 :: (b ++ [46])))))) := by
    obtain ⟨h1, h2, t, h3⟩ := HM.out rfl rfl rfl
    show _ = _
    rw [HR.out, h1, h2, h3, KU3.out t h3]; rfl
  clear HM HC2 HR KU3
  have c10 := (rule_cells9 x H3).2.2.2.2.2.2.2.2.2.2
  obtain ⟨t1, e1, f1, z1, n1⟩ := cat u1 [58, 32]
  obtain ⟨t2, e2, f2, z2, n2⟩ := cat t1 u2
  obtain ⟨t3, e3, f3, z3, n3⟩ := cat t2 u3
  obtain ⟨t4, e4, f4, z4, n4⟩ := cat t3 [32, 58, 45, 32]
  simp only [List.length_cons, List.length_nil] at n1 n4
  have HB : Hid (t4 = u1 ++ (58 :: 32 :: (u2 ++ (u3 ++ [32, 58, 45, 32])))) := by
    show _ = _
    rw [e4.out, e3.out, e2.out, e1.out]; simp
  clear e1 e2 e3 e4
  generalize hbody : x.body = ls at *
  generalize hba : x.ba = ba at *
  generalize hbc : x.bcap = bc at *
  have HBo := hideP hbody
  have HBa := hideP hba
  have HBc := hideP hbc
  clear hbody hba hbc
  go_wp2_with fail
  go_loopw [10, 11] (fun v10 v11 wr => ∃ (k : Nat) (T m : List UInt8), v10 = str T ∧ v11 = .int .i64 (k : Int) ∧ k ≤ ls.length ∧ Hid (T = t4 ++ m) ∧ Hid (Sh.litsS ((ls.take k).map Lv.l) = some m) ∧ Hid (wr.heap[w.heap.size]? = some (.cells (rv x).toArray 48)) ∧ Below w.heap.size w wr) (fun _ v _ => ls.length - (Lib.intOf v).toNat)
  case atStart => exact ⟨0, t4, [], rfl, rfl, Nat.zero_le _, (by show _ = _; simp), rfl, H3, B3⟩
  case round =>
    obtain ⟨k, T, m, rfl, rfl, hk, HT, HX, HH, hb⟩ := hrel
    have zT := str_size T
    have hTl : T.length ≤ 1500 := by
      have h5 := Sh.lits_len (fun t ht => by
        obtain ⟨y, hy, rfl⟩ := List.mem_map.1 ht
        exact i4 y (List.mem_of_mem_take hy)) HX.out
      rw [HT.out]
      rw [List.length_map, List.length_take] at h5
      simp only [List.length_append] at *; omega
    have KC : ∀ W, Below wr.heap.size wr W → W.cell? ⟨w.heap.size, 10, none⟩ = some (.slice ba ls.length bc) := fun W h => by
      have := (rule_cells9 x (below_heap h HH.out)).2.2.2.2.2.2.2.2.2.2
      rw [HBo.out, HBa.out, HBc.out] at this
      exact this
    have d10 := KC wr (Below.refl _ _)
    by_cases hlt : k < ls.length
    · have q2 : (k : Int) < (ls.length : Int) := by omega
      obtain ⟨P1, O1, rfl⟩ := r2.addr (Nat.lt_of_le_of_lt (Nat.zero_le _) hlt)
      have RC := hideP (fun W (h : Below w.heap.size w W) => lit_row (r2.below h (Nat.le_refl _)) k hlt)
      have aP : Row tK w (ls[k]'hlt).a (ls[k]'hlt).cap (ls[k]'hlt).args := r3 _ (List.getElem_mem hlt)
      have hyi := i4 _ (List.getElem_mem hlt)
      have hno : Hid (Sh.canL (ls[k]'hlt).l = false → Sh.ruleS x.r = none) := fun h => rule_not (by
        rw [HC3.out, List.all_eq_false]; exact ⟨_, List.mem_map_of_mem (List.getElem_mem hlt), by rw [h]; decide⟩)
      have HX2 : Hid (∀ z, Sh.litS (ls[k]'hlt).l = some z → Sh.litsS ((ls.take (k + 1)).map Lv.l) = some (m ++ (Sh.sep k ++ z))) := fun z hz => by
        have := Sh.lits_snoc HX.out hz
        rw [List.length_map, List.length_take, Nat.min_eq_left hk] at this
        rw [List.take_succ_eq_append_getElem hlt, List.map_append]; exact this
      clear HX
      generalize (ls[k]'hlt) = y at *
      have HL : Hid (Sh.canL y.l = (Sh.canM y.by_ && Sh.canA y.pred y.args && Sh.canM y.at_)) := rfl
      have T1 := hideP (fun W => rmaybe_at [] y.by_ [32, 115, 97, 121, 115, 32] W hyi.1 (by decide) (by decide))
      have T2 := hideP (fun W (h : Below w.heap.size w W) => ratom_at y.pred y.a y.cap y.args W (aP.below h (Nat.le_refl _)) hyi.2.1)
      obtain ⟨v2, hv2, nv2, kv2⟩ := av_known y.pred y.args hyi.2.1
      have KV2 := hideP kv2
      rw [hv2] at T2
      clear hv2 kv2
      have T3 := hideP (fun W => rmaybe_at [32, 97, 116, 32] y.at_ [] W hyi.2.2 (by decide) (by decide))
      obtain ⟨l0, l1, l2, l3, l4, l5, l6, l7, l8, l9⟩ := RC.out wr hb
      clear l4 l5 l6 l7 l8 l9
      go_wp2_with fail
      refine (T1.out wr).mono ?_
      rintro e w4 ⟨⟨v1, rfl, nv1, kv1⟩, b4⟩
      have KV1 := hideP kv1
      clear kv1 l0 l1 l2 l3 d10
      have B4 := hb.trans (b4.mono hb.size)
      have d10 := KC w4 b4
      obtain ⟨l0, l1, l2, l3, l4, l5, l6, l7, l8, l9⟩ := RC.out w4 B4
      clear l0 l1 l2 l3 l6 l7 l8 l9
      have KS : ∀ W, Below w4.heap.size w4 W → (W.cell? ⟨w.heap.size, 10, none⟩ = some (.slice (some ⟨P1, O1, none⟩) ls.length bc) ∧ W.cell? ⟨P1, O1 + k * 10 + 4, none⟩ = some (str y.pred) ∧ W.cell? ⟨P1, O1 + k * 10 + 5, none⟩ = some (.slice y.a y.args.length y.cap)) := fun W h => ⟨KC W (Below.then b4 h), (RC.out W (Below.then B4 h)).2.2.2.2.1, (RC.out W (Below.then B4 h)).2.2.2.2.2.1⟩
      go_wp2_with fail
      go_region_held3 (fun W => W.cell? ⟨w.heap.size, 10, none⟩ = some (.slice (some ⟨P1, O1, none⟩) ls.length bc) ∧ W.cell? ⟨P1, O1 + k * 10 + 4, none⟩ = some (str y.pred) ∧ W.cell? ⟨P1, O1 + k * 10 + 5, none⟩ = some (.slice y.a y.args.length y.cap)) (first | exact KS _ ((Below.refl _ _).drew) | exact KS _ b5) (first
        | (go_at_call 81; refine (T2.out w4.drew (B4.drew)).mono ?_; rintro e w5 ⟨rfl, b5'⟩; have b5 : Below w4.heap.size w4 w5 := ((Below.refl _ _).drew).trans b5'))
      have B5 := Below.then B4 b5
      clear l4 l5 d10
      have d10 := KC w5 (Below.then b4 b5)
      obtain ⟨l0, l1, l2, l3, l4, l5, l6, l7, l8, l9⟩ := RC.out w5 B5
      clear l0 l1 l2 l3 l4 l5
      go_wp2_with fail
      refine (T3.out w5).mono ?_
      rintro e w6 ⟨⟨v3, rfl, nv3, kv3⟩, b6⟩
      have KV3 := hideP kv3
      clear kv3 l6 l7 l8 l9 d10 T1 T2 T3 RC
      have B6 := Below.then B5 b6
      have H6 := hideP (below_heap (Below.then (Below.then b4 b5) b6) HH.out)
      have zv1 := str_size v1
      have zv2 := str_size v2
      have zv3 := str_size v3
      have HM : Hid (Sh.canM y.by_ = true → Sh.canA y.pred y.args = true → Sh.canM y.at_ = true → Sh.litS y.l = some (v1 ++ (v2 ++ v3))) := fun h1 h2 h3 => by
        obtain ⟨a, z, t, ha, hz, ht, hl⟩ := lit_made (l := y.l) h1 h2 h3
        rw [KV1.out a ha, KV2.out z hz, KV3.out t ht]; exact hl
      clear KV1 KV2 KV3
      generalize Sh.canM y.by_ = s1 at *
      generalize Sh.canA y.pred y.args = s2 at *
      generalize Sh.canM y.at_ = s3 at *
      cases s1
      · have hN := hideP (hno.out HL.out)
        clear HM HX2 hno HL
        go_wp2_with fail
        go_ret2
        exact ⟨by rw [hN.out]; rfl, B6⟩
      cases s2
      · have hN := hideP (hno.out HL.out)
        clear HM HX2 hno HL
        go_wp2_with fail
        go_ret2
        exact ⟨by rw [hN.out]; rfl, B6⟩
      cases s3
      · have hN := hideP (hno.out HL.out)
        clear HM HX2 hno HL
        go_wp2_with fail
        go_ret2
        exact ⟨by rw [hN.out]; rfl, B6⟩
      have HX3 := hideP (HX2.out _ (HM.out rfl rfl rfl))
      clear HM HX2 hno HL
      obtain ⟨a1, e1, f1, z1, n1⟩ := cat v1 v2
      obtain ⟨a2, e2, f2, z2, n2⟩ := cat a1 v3
      by_cases hk0 : k = 0
      · subst hk0
        obtain ⟨a3, e3, f3, z3, n3⟩ := cat T a2
        go_wp2_with fail
        refine ⟨⟨1, a3, _, rfl, by go_num, by omega, ?_, HX3, H6, B6⟩, by simp [Lib.intOf]; omega⟩
        show _ = _
        rw [e3.out, e2.out, e1.out, HT.out]; simp [Sh.sep]
      · have q3 : (k : Int) > 0 := by omega
        obtain ⟨a4, e4, f4', z4', n4'⟩ := cat T [44, 32]
        obtain ⟨a3, e3, f3, z3, n3⟩ := cat a4 a2
        simp only [List.length_cons, List.length_nil] at n4'
        go_wp2_with fail
        refine ⟨⟨k + 1, a3, _, rfl, by go_num, by omega, ?_, HX3, H6, B6⟩, by simp [Lib.intOf]; omega⟩
        show _ = _
        rw [e3.out, e4.out, e2.out, e1.out, HT.out]; simp [Sh.sep, hk0]
    · have q2 : ¬ (k : Int) < (ls.length : Int) := by omega
      obtain ⟨a3, e3, f3, z3, n3⟩ := cat T [46]
      have HF : Hid (Sh.ruleS x.r = some a3) := by
        have := HX.out
        rw [List.take_of_length_le (by omega)] at this
        show _ = _
        rw [HR2.out, this, e3.out, HT.out, HB.out]
        simp
      go_wp2_with fail
      go_ret2
      exact ⟨by rw [HF.out]; rfl, hb⟩
end Go.Proofs.YtpdmmmdkpipmkaaGreatDoor
