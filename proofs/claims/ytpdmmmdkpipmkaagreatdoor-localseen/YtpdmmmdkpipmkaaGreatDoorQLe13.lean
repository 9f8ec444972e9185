/-
  Relay, the program's and the reference's; the document's example: live.
-/
import Derived.Test.YtpdmmmdkpipmkaaGreatDoorQLr13
import Derived.Test.YtpdmmmdkpipmkaaGreatDoorQLz13
import Derived.Test.YtpdmmmdkpipmkaaGreatDoorQLv0
namespace Go.Proofs.YtpdmmmdkpipmkaaGreatDoor
open Go.RowKit Go.Lib Go.Shelf

theorem u8_126 (c : UInt8) : ((c.toNat : Int) == 126) = (c == 126) := by
  rw [Bool.eq_iff_iff, beq_iff_eq, beq_iff_eq]
  constructor
  · intro h; exact UInt8.toNat_inj.1 (by show c.toNat = 126; omega)
  · rintro rfl; rfl
set_option maxRecDepth 100000 in
set_option maxHeartbeats 400000 in
theorem rrelay_at (p : List UInt8) (w : World) : Calls Tryz.prog 17 #[str p] w fun e w' => e = .returned (.bool (Lc.relay p)) ∧ w = w' := by
  cases p with
  | nil =>
    go_enter Tryz.func17, Tryz.ntmps17
    go_wp2_with fail
    go_ret
    exact ⟨rfl, rfl⟩
  | cons c r =>
    have hl : (⟨(c :: r).toArray⟩ : ByteArray).size = r.length + 1 := by rw [str_size]; rfl
    have q : Hid (Lc.relay (c :: r) = (c == 126)) := rfl
    go_enter Tryz.func17, Tryz.ntmps17
    go_wp2_with fail
    go_ret
    exact ⟨ret_bool (by rw [q.out]; exact u8_126 c), rfl⟩
set_option maxRecDepth 100000 in
set_option maxHeartbeats 400000 in
theorem hasPrefix1_at (p : List UInt8) (w : World) : Calls Tryz.prog 56 #[str p, .string { data := #[126] }] w fun e w' => e = .returned (.bool (Lc.relay p)) ∧ w = w' := by
  cases p with
  | nil =>
    go_enter Tryz.func56, Tryz.ntmps56
    go_wp2_with fail
    go_ret
    exact ⟨rfl, rfl⟩
  | cons c r =>
    have hl : (⟨(c :: r).toArray⟩ : ByteArray).size = r.length + 1 := by rw [str_size]; rfl
    have hx : (⟨(c :: r).toArray⟩ : ByteArray).extract 0 1 = ⟨#[c]⟩ := by
      apply ByteArray.ext
      rw [ByteArray.data_extract]; simp
    have q : Hid (Lc.relay (c :: r) = (c == 126)) := rfl
    have hq : ((⟨#[c]⟩ : ByteArray).toList == (⟨#[126]⟩ : ByteArray).toList) = (c == 126) := by
      rw [ByteArray.toList_eq, ByteArray.toList_eq]; simp
    go_enter Tryz.func56, Tryz.ntmps56
    go_wp2_with fail
    go_ret
    exact ⟨ret_bool (by rw [q.out]), rfl⟩
set_option maxRecDepth 100000 in
set_option maxHeartbeats 400000 in
theorem hasPrefix_at (p : List UInt8) (w : World) : Calls Tryz.prog 31 #[str p, .string { data := #[126] }] w fun e w' => e = .returned (.bool (Lc.relay p)) ∧ w = w' := by
  have T := hideP (hasPrefix1_at p w)
  generalize Lc.relay p = b at *
  go_enter Tryz.func31, Tryz.ntmps31
  go_wp2_with fail
  refine T.out.mono ?_
  rintro e w1 ⟨rfl, rfl⟩
  go_wp2_with fail
  go_ret
  exact ⟨rfl, rfl⟩
set_option maxRecDepth 100000 in
set_option maxHeartbeats 400000 in
theorem prelay_at (p : List UInt8) (w : World) : Calls Tryz.prog 16 #[str p] w fun e w' => e = .returned (.bool (Lc.relay p)) ∧ w = w' := by
  have T := hideP (hasPrefix_at p w)
  generalize Lc.relay p = b at *
  go_enter Tryz.func16, Tryz.ntmps16
  go_wp2_with fail
  refine T.out.mono ?_
  rintro e w1 ⟨rfl, rfl⟩
  go_wp2_with fail
  go_ret
  exact ⟨rfl, rfl⟩

set_option maxRecDepth 100000 in
set_option maxHeartbeats 2000000 in
theorem live13_at (w : World) (hL : Laid w) : Calls Tryz.prog 10 #[] w fun e w' => e = .returned (.bool true) ∧ Below w.heap.size w w' := by
  have T1 := hideP (pprog_ok Lc.px13 w (by decide) hL)
  have T3 := hideP (fun W => prelay_at [126, 120] W)
  have T4 := hideP (fun W => prelay_at [120] W)
  have e3 : Lc.relay [126, 120] = true := rfl
  have e4 : Lc.relay [120] = false := rfl
  rw [e3] at T3
  rw [e4] at T4
  go_enter Tryz.func10, Tryz.ntmps10
  go_wp2_with fail
  refine T1.out.mono ?_
  rintro e w1 ⟨⟨a1, c1, rfl, r1⟩, b1⟩
  obtain ⟨xs, hl1, h2, h3⟩ := r1.rws
  have T2 := hideP (rewrite_at a1 c1 xs w1 (hL.below b1) h3 (map_in h2 (Sh.prog_good Lc.px13).1))
  rw [h2] at T2
  rw [hl1] at T2
  clear T1 r1 h3 hl1 h2
  go_wp2_with fail
  refine T2.out.mono ?_
  rintro e w2 ⟨⟨a2, c2, ys, rfl, R2, A2, E2⟩, b2⟩
  rw [show (Ck.prog [Lc.ex13]).1 = 0 by rw [Lc.ck13]] at E2 ⊢
  rw [if_pos rfl, Lc.rw13] at E2
  clear T2
  obtain ⟨y0, l0, rfl, E0, E2⟩ := List.map_eq_cons_iff.1 E2
  obtain ⟨y1, l1, rfl, E1, E2⟩ := List.map_eq_cons_iff.1 E2
  obtain ⟨y2, l2, rfl, E4, E3⟩ := List.map_eq_cons_iff.1 E2
  obtain rfl := List.map_eq_nil_iff.1 E3
  · clear E3
    obtain ⟨P, O, rfl⟩ := R2.addr (Nat.zero_lt_succ _)
    have p0 : y0.pred = [126, 97, 115, 107, 48, 46, 49] := (show y0.r.pred = Lc.ask13.pred by rw [E0])
    have p1 : y1.home.v = [66] := (show y1.r.home.v = Lc.tell13.home.v by rw [E1])
    have A22 := A2 y2 (by simp)
    have c0 : w2.cell? ⟨P, O + 4, none⟩ = some (str y0.pred) := R2.range 0 (by simp) 4 _ rfl
    have c1 : w2.cell? ⟨P, O + 11, none⟩ = some (str y1.home.v) := R2.range 1 (by simp) 0 _ rfl
    have c2' : w2.cell? ⟨P, O + 22 + 10, none⟩ = some (.slice y2.ba y2.body.length y2.bcap) := R2.range 2 (by simp) 10 _ rfl
    rw [p0] at c0
    rw [p1] at c1
    have hb : y2.body.map Lv.l = [⟨⟨[66], k0⟩, [126, 116, 101, 108, 108, 48, 46, 49], [⟨[65], k0⟩, ⟨[66], k0⟩, ⟨[88], k0⟩], t0⟩] := (show y2.r.body = Lc.last13.body by rw [E4])
    obtain ⟨z, hz⟩ : ∃ z, y2.body = [z] := by
      obtain ⟨z, l, h1, _, h2⟩ := List.map_eq_cons_iff.1 hb
      rw [List.map_eq_nil_iff.1 h2] at h1
      exact ⟨z, h1⟩
    have RB := A22.body.row
    rw [hz] at hb RB c2'
    obtain ⟨Q, S, hQ⟩ := RB.addr (Nat.zero_lt_succ _)
    rw [hQ] at RB c2'
    have zb : z.by_.v = [66] := by
      simp only [List.map_cons, List.map_nil, List.cons.injEq, and_true] at hb
      exact congrArg (fun l => l.by_.v) hb
    have c3 : w2.cell? ⟨Q, S, none⟩ = some (str z.by_.v) := RB.range 0 (by simp) 0 _ rfl
    rw [zb] at c3
    have rm := R2.room
    have rb := RB.room
    simp only [List.length_cons, List.length_nil] at c2' rm rb ⊢
    clear R2 A2 A22 RB E0 E1 E2 E4 hb hz hQ p0 p1 zb
    go_wp2_with fail
    refine (T3.out w2).mono ?_
    rintro e w3 ⟨rfl, rfl⟩
    go_wp2_with fail
    refine (T4.out w2).mono ?_
    rintro e w3 ⟨rfl, rfl⟩
    go_wp2_with fail
    go_ret
    exact ⟨rfl, Below.then b1 b2⟩
end Go.Proofs.YtpdmmmdkpipmkaaGreatDoor
