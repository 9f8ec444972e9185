/-
  The reference's functions of texts: words that are not kept, a number's digits.
-/
import Derived.Test.YtpdmmmdkpipmkaaGreatDoorQIs
namespace Go.Proofs.YtpdmmmdkpipmkaaGreatDoor
open Go.RowKit Go.Lib Go.Shelf

theorem rkept_at (s : List UInt8) (w : World) : Calls Tryz.prog 175 #[str s] w fun e w' => e = .returned (.bool (Ps.kept s)) ∧ w = w' := by
  simp only [Ps.kept, Ps.says, Ps.to, Ps.at_]
  go_enter Tryz.func175, Tryz.ntmps175
  go_wp2_with fail
  all_goals go_ret
  all_goals refine ⟨ret_bool ?_, rfl⟩
  all_goals simp_all
theorem rletter_at (c f t : Nat) (w : World) : Calls Tryz.prog 173 #[.int .u8 (c : Int), .int .u8 (f : Int), .int .u8 (t : Int)] w fun e w' => e = .returned (.bool (decide (f ≤ c) && decide (c ≤ t))) ∧ w = w' := by
  by_cases h1 : f ≤ c
  · have q1 : (c : Int) ≥ (f : Int) := by omega
    by_cases h2 : c ≤ t
    · have q2 : (c : Int) ≤ (t : Int) := by omega
      go_enter Tryz.func173, Tryz.ntmps173
      go_wp2_with fail
      go_ret
      exact ⟨ret_bool (by simp [h1, h2]), rfl⟩
    · have q2 : ¬ (c : Int) ≤ (t : Int) := by omega
      go_enter Tryz.func173, Tryz.ntmps173
      go_wp2_with fail
      go_ret
      exact ⟨ret_bool (by simp), rfl⟩
  · have q1 : ¬ (c : Int) ≥ (f : Int) := by omega
    go_enter Tryz.func173, Tryz.ntmps173
    go_wp2_with fail
    go_ret
    exact ⟨ret_bool (by simp), rfl⟩

set_option maxRecDepth 100000 in
set_option maxHeartbeats 1000000 in
theorem rnamed_at (p : UInt8 → Bool) (f t : Nat) (hp : ∀ c : UInt8, p c = (decide (f ≤ c.toNat) && decide (c.toNat ≤ t))) (s : List UInt8) (w : World) :
    Calls Tryz.prog 133 #[str s, .int .u8 (f : Int), .int .u8 (t : Int)] w fun e w' => e = .returned (.bool (Sh.namedB p s)) ∧ w = w' := by
  have hsz := str_size s
  cases s with
  | nil =>
    have HN : Hid (Sh.namedB p [] = false) := by show _ = _; simp [Sh.namedB]
    simp only [List.length_nil] at hsz
    go_enter Tryz.func133, Tryz.ntmps133
    go_wp2_with fail
    go_ret
    exact ⟨ret_bool HN.out.symm, rfl⟩
  | cons c r =>
    have HN : Hid (Sh.namedB p (c :: r) = (decide (1 ≤ (c :: r).length) && decide ((c :: r).length ≤ 32) && p c && (c :: r).all Lx.inner)) := rfl
    have hl : 1 ≤ (c :: r).length := by simp
    have hg : ∀ h, ((⟨(c :: r).toArray⟩ : ByteArray)[0]'h).toNat = c.toNat := fun _ => rfl
    have T := hideP (fun w => rletter_at c.toNat f t w)
    rw [← hp c] at T
    have HG : Hid (∀ k (h : k < (c :: r).length), ∀ h', ((⟨(c :: r).toArray⟩ : ByteArray)[k]'h').toNat = ((c :: r)[k]'h).toNat) := fun _ _ _ => rfl
    generalize c :: r = s at *
    have q1 : ¬ (s.length : Int) < 1 := by omega
    by_cases h2 : s.length ≤ 32
    rotate_left
    · have q2 : (s.length : Int) > 32 := by omega
      have HN2 : Hid (Sh.namedB p s = false) := by show _ = _; rw [HN.out]; simp [h2]
      clear HN
      go_enter Tryz.func133, Tryz.ntmps133
      go_wp2_with fail
      go_ret
      exact ⟨ret_bool HN2.out.symm, rfl⟩
    have q2 : ¬ (s.length : Int) > 32 := by omega
    have HN2 : Hid (Sh.namedB p s = (p c && s.all Lx.inner)) := by show _ = _; rw [HN.out]; simp [h2, hl]
    clear HN
    generalize p c = b at *
    generalize c.toNat = n at *
    cases b
    · go_enter Tryz.func133, Tryz.ntmps133
      go_wp2_with (first
        | (go_at_call 173; (try rw [hg]); refine (T.out _).mono ?_; rintro e w1 ⟨rfl, rfl⟩))
      go_ret
      exact ⟨ret_bool HN2.out.symm, rfl⟩
    · go_enter Tryz.func133, Tryz.ntmps133
      go_wp2_with (first
        | (go_at_call 173; (try rw [hg]); refine (T.out _).mono ?_; rintro e w1 ⟨rfl, rfl⟩))
      go_loop [7] (fun v => ∃ k : Nat, v = .int .i64 (k : Int) ∧ k ≤ s.length ∧ Hid ((s.take k).all Lx.inner = true)) (fun v => s.length - (Lib.intOf v).toNat)
      case atStart => exact ⟨0, rfl, Nat.zero_le _, rfl⟩
      case round =>
        obtain ⟨k, rfl, hk, hall⟩ := hrel
        by_cases hlt : k < s.length
        · have q3 : (k : Int) < (s.length : Int) := by omega
          have hst : Hid (Lx.inner (s[k]'hlt) = true → (s.take (k + 1)).all Lx.inner = true) := fun h => by
            rw [List.take_succ_eq_append_getElem hlt, List.all_append, hall.out]; simp [h]
          have hno : Hid (Lx.inner (s[k]'hlt) = false → s.all Lx.inner = false) := fun h => by
            rw [List.all_eq_false]; exact ⟨_, List.getElem_mem hlt, by rw [h]; decide⟩
          have hgk := HG.out k hlt
          have I := hideP (fun w => rinner_at (s[k]'hlt) w)
          generalize (s[k]'hlt) = d at *
          generalize Lx.inner d = ib at *
          generalize d.toNat = m at *
          cases ib
          · have hno' := hideP (hno.out rfl)
            clear hno hst hall
            go_wp2_with (first
              | (go_at_call 174; (try rw [hgk]); refine (I.out _).mono ?_; rintro e w2 ⟨rfl, rfl⟩))
            go_ret
            exact ⟨ret_bool (by rw [HN2.out, hno'.out]; rfl), rfl⟩
          · have hst' := hideP (hst.out rfl)
            clear hno hst hall
            go_wp2_with (first
              | (go_at_call 174; (try rw [hgk]); refine (I.out _).mono ?_; rintro e w2 ⟨rfl, rfl⟩))
            exact ⟨⟨k + 1, by go_num, by omega, hst'⟩, by simp [Lib.intOf]; omega⟩
        · have q3 : ¬ (k : Int) < (s.length : Int) := by omega
          have hfin : Hid (s.all Lx.inner = true) := by
            have := hall.out
            rwa [List.take_of_length_le (by omega)] at this
          go_wp2_with fail
          go_ret
          exact ⟨ret_bool (by rw [HN2.out, hfin.out]; rfl), rfl⟩

set_option maxRecDepth 100000 in
set_option maxHeartbeats 1000000 in
theorem rword_at (s : List UInt8) (w : World) : Calls Tryz.prog 135 #[str s] w fun e w' => e = .returned (.bool (Sh.wordB s)) ∧ w = w' := by
  have HW : Hid (Sh.wordB s = (Sh.namedB Lx.small s && !Ps.kept s)) := rfl
  have N := hideP (fun w => rnamed_at Lx.small 97 122 (fun _ => rfl) s w)
  have K := hideP (fun w => rkept_at s w)
  generalize Sh.namedB Lx.small s = n at *
  generalize Ps.kept s = k at *
  cases n
  · go_enter Tryz.func135, Tryz.ntmps135
    go_wp2_with (first
      | (go_at_call 133; refine (N.out _).mono ?_; rintro e w1 ⟨rfl, rfl⟩))
    go_ret
    exact ⟨ret_bool HW.out.symm, rfl⟩
  · go_enter Tryz.func135, Tryz.ntmps135
    go_wp2_with (first
      | (go_at_call 133; refine (N.out _).mono ?_; rintro e w1 ⟨rfl, rfl⟩)
      | (go_at_call 175; refine (K.out _).mono ?_; rintro e w1 ⟨rfl, rfl⟩))
    go_ret
    exact ⟨ret_bool HW.out.symm, rfl⟩
end Go.Proofs.YtpdmmmdkpipmkaaGreatDoor
