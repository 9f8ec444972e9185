/-
  The reference's odd and arities.
-/
import Derived.Test.YtpdmmmdkpipmkaaGreatDoorQRc
import Derived.Test.YtpdmmmdkpipmkaaGreatDoorQVj
namespace Go.Proofs.YtpdmmmdkpipmkaaGreatDoor
open Go.RowKit Go.Lib Go.Shelf

def eK : Kd (List UInt8 × Nat) := ⟨fun x => [str x.1, .int .i64 (x.2 : Int)], 2, fun _ => rfl, fun _ => rfl, by decide⟩
theorem Tryz.iE2 : (Tryz.prog.info? 184).map (fun i => (i.zero, i.size, i.bytes)) = some (some (.agg #[.string .empty, .int .i64 0]), eK.k, 24) := by kernel_rfl
/-- what was seen, in a row of the call's own -/
def OwnE (base : Nat) (w : World) (v : Value) (s : Ck.Seen) : Prop := w.ownsRow base 184 eK.k v s.length (s.flatMap eK.enc)
theorem find_take {s : Ck.Seen} {p : List UInt8} {j : Nat} (hj : j < s.length) (h0 : (s.take j).find? (fun x => x.1 == p) = none) (h1 : s[j].1 = p) : s.find? (fun x => x.1 == p) = some s[j] := by
  have e : s = s.take j ++ s.drop j := (List.take_append_drop j s).symm
  conv => lhs; rw [e]
  rw [List.find?_append, h0, List.drop_eq_getElem_cons hj, List.find?_cons]
  simp [h1]
theorem find_snoc {s : Ck.Seen} {p : List UInt8} {j : Nat} (hj : j < s.length) (h0 : (s.take j).find? (fun x => x.1 == p) = none) (h1 : s[j].1 ≠ p) : (s.take (j + 1)).find? (fun x => x.1 == p) = none := by
  rw [List.take_succ_eq_append_getElem hj, List.find?_append, h0, List.find?_cons, show (s[j].1 == p) = false by simpa using h1]
  rfl

set_option maxRecDepth 100000 in
set_option maxHeartbeats 1000000 in
theorem rodd_at (base : Nat) (a : Option Addr) (c : Nat) (s : Ck.Seen) (p : List UInt8) (n : Nat) (w : World) (h : OwnE base w (.slice a s.length c) s) (hb : base ≤ w.heap.size) (hl : s.length ≤ 1000) :
    Calls Tryz.prog 84 #[.slice a s.length c, str p, .int .i64 (n : Int)] w fun e w' => (∃ a' c', e = .returned (.tuple #[.slice a' (Ck.odd s p n).1.length c', .bool (Ck.odd s p n).2]) ∧ OwnE base w' (.slice a' (Ck.odd s p n).1.length c') (Ck.odd s p n).1) ∧ Below base w w' ∧ ∀ ty : TypeId, ty ≠ 184 → Safe ty w w' := by
  obtain ⟨a', c', e', R, _⟩ := own_row (D := eK) h (by omega)
  cases e'
  go_enter Tryz.func84, Tryz.ntmps84
  go_wp2_with fail
  go_loopw [8] (fun v wr => ∃ j : Nat, v = .int .i64 (j : Int) ∧ j ≤ s.length ∧ Hid ((s.take j).find? (fun x => x.1 == p) = none) ∧ w = wr) (fun v _ => s.length - (RowKit.intOf v).toNat)
  case atStart => exact ⟨0, rfl, Nat.zero_le _, by show _ = _; simp, rfl⟩
  case round =>
    obtain ⟨j, rfl, hj, HJ, rfl⟩ := hrel
    by_cases hlt : j < s.length
    · have q : (j : Int) < (s.length : Int) := by omega
      obtain ⟨P1, O1, rfl⟩ := R.row.addr (Nat.lt_of_le_of_lt (Nat.zero_le _) hlt)
      have r1 : w.rangeAt P1 (O1 + j * 2) [str (s[j]'hlt).1, .int .i64 ((s[j]'hlt).2 : Int)] := R.row.range j hlt
      have d0 : w.cell? ⟨P1, O1 + j * 2, none⟩ = some (str (s[j]'hlt).1) := r1 0 _ rfl
      have d1 : w.cell? ⟨P1, O1 + j * 2 + 1, none⟩ = some (.int .i64 ((s[j]'hlt).2 : Int)) := r1 1 _ rfl
      have F1 := hideP (find_take (p := p) hlt HJ.out)
      have F2 := hideP (find_snoc (p := p) hlt HJ.out)
      generalize (s[j]'hlt) = y at *
      obtain ⟨y1, y2⟩ := y
      simp only at d0 d1 F1 F2
      clear r1 HJ
      by_cases he : y1 = p
      · have q1 : (y1 == p) = true := by simpa using he
        have FF : Hid (Ck.odd s p n = (s, y2 != n)) := by
          show _ = _
          unfold Ck.odd; rw [F1.out he]
        have HN : Hid (((y2 : Int) != (n : Int)) = (y2 != n)) := by
          show _ = _
          rw [Bool.eq_iff_iff]; simp only [bne_iff_ne]; omega
        clear he F1 F2
        go_wp2_with fail
        go_quiet (fail)
        go_wp2_with fail
        go_ret2
        rw [FF.out]
        refine ⟨⟨_, c, by rw [← HN.out]; rfl, ownsRow_keep h (Safe.below (below_drewN (Below.refl _ _) _))⟩, (below_drewN (Below.refl _ _) _).mono hb, fun _ _ => Safe.below (below_drewN (Below.refl _ _) _)⟩
      · have q1 : (y1 == p) = false := by simpa using he
        have F3 := hideP (F2.out he)
        clear he F1 F2
        go_wp2_with fail
        exact ⟨⟨j + 1, by go_num, by omega, F3, by first | rfl | trivial⟩, by simp [RowKit.intOf]; omega⟩
    · have q : ¬ (j : Int) < (s.length : Int) := by omega
      have FF : Hid (Ck.odd s p n = (s ++ [(p, n)], false)) := by
        have := HJ.out
        rw [List.take_of_length_le (by omega)] at this
        show _ = _
        unfold Ck.odd; rw [this]
      have A4 := below_alloc w (.cells #[str p, .int .i64 (n : Int)] 184)
      have o4 := ownsRow_keep h (Safe.below A4 : Safe 184 _ _)
      have R4 : Row eK (w.alloc (.cells #[str p, .int .i64 (n : Int)] 184)) (some ⟨w.heap.size, 0, none⟩) 1 [(p, n)] := row_new eK w _ _ (p, n) rfl
      have hb3 : base ≤ (w.alloc (.cells #[str p, .int .i64 (n : Int)] 184)).heap.size := by have := A4.size; omega
      clear HJ
      go_wp2_with (at_builtin; refine wpList_append_rec eK _ rfl _ _ 95 184 rfl _ 24 Tryz.underlying95 Tryz.iE2 rfl (by decide) base (.slice a s.length c) s [(p, n)] (some ⟨w.heap.size, 0, none⟩) 1 1 rfl o4 rfl rfl R4 hb3 (by simp only [List.length_cons, List.length_nil]; omega) ?_; intro v5 w5 o5 g5; obtain ⟨a5, c5, rfl, _, _⟩ := own_row (D := eK) (xs := s ++ [(p, n)]) o5 (by simp only [List.length_append, List.length_cons, List.length_nil]; omega))
      go_ret2
      rw [FF.out]
      exact ⟨⟨a5, c5, by rw [List.length_append]; rfl, o5⟩, (A4.mono hb).trans (own_below o4 g5 hb3), fun ty hn => (Safe.below A4).trans (Safe.grown o4 g5 hn)⟩

set_option maxRecDepth 100000 in
set_option maxHeartbeats 2000000 in
theorem rarities_at (base : Nat) (a : Option Addr) (c : Nat) (s : Ck.Seen) (x : Rv) (w : World) (h : OwnE base w (.slice a s.length c) s) (hb : base ≤ w.heap.size) (hl : s.length ≤ 400) (hx : ∀ W, Below base w W → Rv.Aw W x) (hsh : Ck.Shown x.r) :
    Calls Tryz.prog 50 #[.slice a s.length c, rval x] w fun e w' => (∃ a' c', e = .returned (.tuple #[.slice a' (Ck.arit s x.r).1.length c', .int .i64 (plI (Ck.arit s x.r).2)]) ∧ OwnE base w' (.slice a' (Ck.arit s x.r).1.length c') (Ck.arit s x.r).1) ∧ Below base w w' := by
  have hrl : x.r.body.length = x.body.length := List.length_map ..
  have hb4 : x.body.length ≤ 4 := by have := hsh.few; omega
  have ha4 : x.args.length ≤ 4 := hsh.head.args
  have HP : Hid (Ck.arit s x.r = if (Ck.odd s x.pred x.args.length).2 = true then ((Ck.odd s x.pred x.args.length).1, some (-1)) else Ck.aritL (Ck.odd s x.pred x.args.length).1 0 x.r.body) := rfl
  have A0 := below_alloc w (.cells (rv x).toArray 48)
  have H0 := heap_alloc_new w (.cells (rv x).toArray 48)
  have T0 := hideP (rodd_at base a c s x.pred x.args.length _ (ownsRow_keep h (Safe.below A0 : Safe 184 _ _)) (Nat.le_trans hb A0.size) (by omega))
  have L0 := odd_len s x.pred x.args.length
  have hne : base ≤ w.heap.size := hb
  go_enter Tryz.func50, Tryz.ntmps50
  go_wp2_with fail
  refine T0.out.mono ?_
  rintro e w1 ⟨⟨a1, c1, rfl, O1⟩, b1, k1⟩
  have B1 : Below base w w1 := (A0.mono hb).trans b1
  have H1 := k1 48 (by decide) _ _ H0
  clear T0 b1 k1 H0 A0 h
  generalize hs1 : (Ck.odd s x.pred x.args.length).1 = s1 at *
  cases hq : (Ck.odd s x.pred x.args.length).2 with
  | true =>
    rw [hq, if_pos rfl] at HP
    clear hq hs1
    go_wp2_with fail
    go_ret2
    rw [HP.out]
    exact ⟨⟨a1, c1, rfl, O1⟩, B1⟩
  | false =>
    rw [hq, if_neg (by decide)] at HP
    clear hq hs1
    go_wp2_with fail
    go_loopw [0, 6, 7] (fun v0 _ v7 wr => ∃ (j : Nat) (s' : Ck.Seen) (a' : Option Addr) (c' : Nat), v0 = .slice a' (List.length s') c' ∧ v7 = .int .i64 (j : Int) ∧ j ≤ x.body.length ∧ OwnE base wr (.slice a' (List.length s') c') s' ∧ Hid (Ck.arit s x.r = Ck.aritL s' j (x.r.body.drop j)) ∧ s'.length ≤ 401 + j ∧ Below base w wr ∧ wr.heap[w.heap.size]? = some (.cells (rv x).toArray 48)) (fun _ _ v7 _ => x.body.length - (RowKit.intOf v7).toNat)
    case atStart => exact ⟨0, s1, a1, c1, rfl, rfl, Nat.zero_le _, O1, by rw [List.drop_zero]; exact HP, by omega, B1, H1⟩
    case round =>
      obtain ⟨j, s', a', c', rfl, rfl, hj, O, HJ, hjl, B, H⟩ := hrel
      have c10 := (rule_parts10 H).2.2.2.2.2.2
      by_cases hlt : j < x.body.length
      · have q : (j : Int) < (x.body.length : Int) := by omega
        have hjr : j < x.r.body.length := by omega
        have hyr : x.r.body[j] = (x.body[j]'hlt).l := by simp [Rv.r]
        have hX := hx wr B
        obtain ⟨P1, Q1, hP⟩ := hX.body.addr (Nat.lt_of_le_of_lt (Nat.zero_le _) hlt)
        have KK : ∀ W, Below base w W → W.heap[w.heap.size]? = some (.cells (rv x).toArray 48) → (W.cell? ⟨w.heap.size, 10, none⟩ = some (.slice (some ⟨P1, Q1, none⟩) x.body.length x.bcap) ∧ W.cell? ⟨P1, Q1 + j * 10 + 4, none⟩ = some (str (x.body[j]'hlt).pred) ∧ W.cell? ⟨P1, Q1 + j * 10 + 5, none⟩ = some (.slice (x.body[j]'hlt).a (x.body[j]'hlt).args.length (x.body[j]'hlt).cap)) := fun W hW hH => by
          have h1 := (rule_parts10 hH).2.2.2.2.2.2
          have h2 := (hx W hW).body
          rw [hP] at h1 h2
          have h3 := lit_in (h2.range j hlt)
          exact ⟨h1, h3.2.2.1, h3.2.2.2.1⟩
        have sY := hsh.body _ (List.getElem_mem hjr)
        rw [hyr] at sY
        have hya : (x.body[j]'hlt).args.length ≤ 4 := sY.args
        rw [List.drop_eq_getElem_cons hjr, Ck.aritL, hyr] at HJ
        generalize (x.body[j]'hlt) = y at *
        replace HJ : Hid (Ck.arit s x.r = if (Ck.odd s' y.pred y.args.length).2 = true then ((Ck.odd s' y.pred y.args.length).1, some (j : Int)) else Ck.aritL (Ck.odd s' y.pred y.args.length).1 (j + 1) (x.r.body.drop (j + 1))) := HJ
        have L1 := odd_len s' y.pred y.args.length
        have gD := (Below.refl wr.heap.size wr).drew
        have BD : Below base w wr.drew := B.trans (gD.mono (Nat.le_trans hb B.size))
        have HD := below_heap gD H
        have T1 := hideP (rodd_at base a' c' s' y.pred y.args.length wr.drew (ownsRow_keep O (Safe.below gD : Safe 184 _ _)) (Nat.le_trans hb BD.size) (by omega))
        rw [hP] at c10
        clear hyr sY hX
        have HKK := hideP KK
        clear KK
        go_wp2_with fail
        go_region_held3 (fun W => W.cell? ⟨w.heap.size, 10, none⟩ = some (.slice (some ⟨P1, Q1, none⟩) x.body.length x.bcap) ∧ W.cell? ⟨P1, Q1 + j * 10 + 4, none⟩ = some (str y.pred) ∧ W.cell? ⟨P1, Q1 + j * 10 + 5, none⟩ = some (.slice y.a y.args.length y.cap)) (first | exact HKK.out _ BD HD | exact HKK.out _ B2 H2) (first
          | (go_at_call 84; refine T1.out.mono ?_; rintro e w2 ⟨⟨a2, c2, rfl, O2⟩, b2, k2⟩; have B2 := BD.trans b2; have H2 := k2 48 (by decide) _ _ HD))
        cases hq : (Ck.odd s' y.pred y.args.length).2 with
        | true =>
          rw [hq, if_pos rfl] at HJ
          clear hq
          go_wp2_with fail
          go_ret2
          rw [HJ.out]
          exact ⟨⟨a2, c2, rfl, O2⟩, B2⟩
        | false =>
          rw [hq, if_neg (by decide)] at HJ
          clear hq
          go_wp2_with fail
          exact ⟨⟨j + 1, _, a2, c2, rfl, by go_num, by omega, O2, HJ, by omega, B2, H2⟩, by simp [RowKit.intOf]; omega⟩
      · have q : ¬ (j : Int) < (x.body.length : Int) := by omega
        rw [List.drop_of_length_le (by omega), Ck.aritL] at HJ
        go_wp2_with fail
        go_ret2
        rw [HJ.out]
        exact ⟨⟨a', c', rfl, O⟩, B⟩
end Go.Proofs.YtpdmmmdkpipmkaaGreatDoor
