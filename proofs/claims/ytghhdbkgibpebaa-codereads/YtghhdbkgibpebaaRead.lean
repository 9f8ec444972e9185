/-
  The contract of Int: any bytes, at any place, are the number and the place behind it, or the error, that the reading function Pm.rd gives; nothing in memory turns.
-/
import Derived.Test.YtghhdbkgibpebaaLeaf
namespace Go.Proofs.Ytghhdbkgibpebaa
open Go.RowKit

/-- what Int returns -/
abbrev three (r : Int × Int × Int) : Value := .tuple #[.int .i64 r.1, .int .i64 r.2.1, .int .i64 r.2.2]

set_option maxRecDepth 100000 in
set_option maxHeartbeats 800000 in
theorem int_out (a : Option Addr) (c : Nat) (l : List UInt8) (x : Int) (w : World) (hm : l.length ≤ maxLen) (h0 : -9223372036854775808 ≤ x) (h1 : x ≤ 9223372036854775807) (hx : x < 0 ∨ (l.length : Int) < x) :
    Calls Try.prog 113 #[.slice a l.length c, .int .i64 x] w fun e w' => e = .returned (three (Pm.rd l x)) ∧ w = w' := by
  unfold maxLen at hm
  have hr : Pm.rd l x = (0, 0, 2) := by unfold Pm.rd; rw [if_pos hx]
  rw [hr]
  clear hr
  rcases hx with hx | hx
  · go_enter Try.func113, Try.ntmps113
    go_wp2
    go_ret3
    exact ⟨rfl, rfl⟩
  · have hx' : ¬ x < 0 := by omega
    go_enter Try.func113, Try.ntmps113
    go_wp2
    go_ret3
    exact ⟨rfl, rfl⟩

set_option maxRecDepth 100000 in
set_option maxHeartbeats 800000 in
theorem int_in (a : Option Addr) (c : Nat) (l : List UInt8) (x : Nat) (w : World) (ha : Holds w a c l) (hm : l.length ≤ maxLen) (hx : x ≤ l.length) :
    Calls Try.prog 113 #[.slice a l.length c, .int .i64 (x : Int)] w fun e w' => e = .returned (three (Pm.rd l (x : Int))) ∧ w = w' := by
  unfold maxLen at hm
  have hr : ∀ n j e, Pm.rdK 10 0 0 (l.drop x) = (n, j, e) → Pm.rd l (x : Int) = (n, if e = 0 then (x : Int) + j else 0, (e : Int)) := by
    intro n j e he
    unfold Pm.rd
    rw [if_neg (by omega), Int.toNat_natCast, he]
  generalize Pm.rd l (x : Int) = R at *
  have q1 : decide ((x : Int) < 0) = false := by simp
  have q2 : decide (l.length < x) = false := by simp; omega
  have HR : Hid (∀ n j e, Pm.rdK 10 0 0 (l.drop x) = (n, j, e) → R = (n, if e = 0 then (x : Int) + j else 0, (e : Int))) := hr
  clear hr
  go_enter Try.func113, Try.ntmps113
  go_wp2
  go_loop [7, 18] (fun u i => ∃ (k v : Nat), k ≤ 10 ∧ x + k ≤ l.length ∧ i = .int .i64 (k : Int) ∧ u = .int .u64 (v : Int) ∧ v < 2 ^ (7 * k) ∧ Pm.rdK 10 0 0 (l.drop x) = Pm.rdK (10 - k) k v (l.drop (x + k))) (fun _ i => 10 - (intOf i).toNat)
  case atStart => exact ⟨0, 0, by omega, by omega, rfl, rfl, by simp, rfl⟩
  case round =>
    obtain ⟨k, v, hk, hxk, rfl, rfl, hv, hrk⟩ := hrel
    have HK : Hid (Pm.rdK 10 0 0 (l.drop x) = Pm.rdK (10 - k) k v (l.drop (x + k))) := hrk
    clear hrk
    by_cases hk10 : k < 10
    · by_cases hend : x + k = l.length
      · have hz : R = (0, 0, 10) := by
          have e : Pm.rdK 10 0 0 (l.drop x) = (0, 0, 10) := by
            rw [HK.out, List.drop_of_length_le (by omega), show 10 - k = (9 - k) + 1 by omega]; rfl
          simpa using HR.out _ _ _ e
        have HE : Hid (x + k = l.length) := hend
        have hend2 : (((x : Int) + (k : Int)) == (l.length : Int)) = true := by rw [beq_iff_eq]; omega
        clear hend
        go_wp2
        go_ret3
        exact ⟨rfl, rfl⟩
      · have hend2 : (((x : Int) + (k : Int)) == (l.length : Int)) = false := by rw [beq_eq_false_iff_ne]; omega
        obtain ⟨b, o, rfl⟩ := ha.addr (by omega)
        have hcell := ha.cell (x + k) (by omega)
        have hlt : (x : Int) + (k : Int) < (l.length : Int) := by omega
        have hdr : l.drop (x + k) = l[x + k] :: l.drop (x + (k + 1)) := by rw [List.drop_eq_getElem_cons (by omega)]; rfl
        have HD : Hid (l.drop (x + k) = l[x + k] :: l.drop (x + (k + 1))) := hdr
        clear hdr
        generalize hcc : l[x + k] = cc at *
        have hc256 : cc.toNat < 256 := cc.toNat_lt
        have hm1 := Pm.u8_and127 cc.toNat hc256
        have H10 : Hid (10 - k = (9 - k) + 1) := show 10 - k = (9 - k) + 1 by omega
        clear hcc
        by_cases hms : Pm.ms cc.toNat k = true
        · have HO : Hid (bits .or .u64 (v : Int) (IntKind.u64.wrap ((cc.toNat : Int) % 128 * 2 ^ (7 * k))) = ((v + cc.toNat % 128 * 2 ^ (7 * k) : Nat) : Int)) := Pm.or_step v cc.toNat k (by omega) hms hv
          have hs64 := Pm.step_64 v cc.toNat k (by omega) hms hv
          have hslt := Pm.step_lt v cc.toNat k hv
          by_cases hc : cc.toNat < 128
          · have hz : R = (Pm.fb (v + cc.toNat % 128 * 2 ^ (7 * k)), (x : Int) + ((k : Int) + 1), 0) := by
              have e : Pm.rdK 10 0 0 (l.drop x) = (Pm.fb (v + cc.toNat % 128 * 2 ^ (7 * k)), k + 1, 0) := by
                rw [HK.out, H10.out, HD.out]
                simp [Pm.rdK, hms, hc]
              simpa using HR.out _ _ _ e
            have HZ : Hid (R = (Pm.fb (v + cc.toNat % 128 * 2 ^ (7 * k)), (x : Int) + ((k : Int) + 1), 0)) := hz
            clear hz
            go_wp2_with (first | (go_at_call 118; refine (mayStand_any _ _ _ hc256 hk10).mono ?_; rintro e w' ⟨rfl, rfl⟩; rw [hms]) | (go_at_call 119; rw [HO.out]; refine (fromBits_any _ _ hs64.2).mono ?_; rintro e w' ⟨rfl, rfl⟩))
            go_ret3
            rw [HZ.out, ← Int.add_assoc]
            exact ⟨rfl, rfl⟩
          · have hrest : Pm.rdK 10 0 0 (l.drop x) = Pm.rdK (10 - (k + 1)) (k + 1) (v + cc.toNat % 128 * 2 ^ (7 * k)) (l.drop (x + (k + 1))) := by
              rw [HK.out, H10.out, HD.out, show 10 - (k + 1) = 9 - k by omega]
              simp [Pm.rdK, hms, hc]
            have HN : Hid (Pm.rdK 10 0 0 (l.drop x) = Pm.rdK (10 - (k + 1)) (k + 1) (v + cc.toNat % 128 * 2 ^ (7 * k)) (l.drop (x + (k + 1)))) := hrest
            clear hrest
            go_wp2_with (first | (go_at_call 118; refine (mayStand_any _ _ _ hc256 hk10).mono ?_; rintro e w' ⟨rfl, rfl⟩; rw [hms]))
            go_round
            case rel =>
              exact ⟨k + 1, v + cc.toNat % 128 * 2 ^ (7 * k), by omega, by omega, by go_num, by rw [← HO.out], hslt, HN.out⟩
            case measure => simp [intOf]; omega
        · have hms' : Pm.ms cc.toNat k = false := by simpa using hms
          have hz : R = (0, 0, 11) := by
            have e : Pm.rdK 10 0 0 (l.drop x) = (0, 0, 11) := by
              rw [HK.out, H10.out, HD.out]
              simp [Pm.rdK, hms']
            simpa using HR.out _ _ _ e
          have HZ : Hid (R = (0, 0, 11)) := hz
          clear hz hms
          go_wp2_with (first | (go_at_call 118; refine (mayStand_any _ _ _ hc256 hk10).mono ?_; rintro e w' ⟨rfl, rfl⟩; rw [hms']))
          go_ret3
          rw [HZ.out]
          exact ⟨rfl, rfl⟩
    · have hz : R = (0, 0, 11) := by
        have e : Pm.rdK 10 0 0 (l.drop x) = (0, 0, 11) := by
          rw [HK.out, show 10 - k = 0 by omega]
          simp [Pm.rdK]
        simpa using HR.out _ _ _ e
      have HZ : Hid (R = (0, 0, 11)) := hz
      clear hz
      have hk' : k = 10 := by omega
      go_wp2
      go_ret3
      rw [HZ.out]
      exact ⟨rfl, rfl⟩

theorem int_any (a : Option Addr) (c : Nat) (l : List UInt8) (x : Int) (w : World) (ha : Holds w a c l) (hm : l.length ≤ maxLen) (h0 : -9223372036854775808 ≤ x) (h1 : x ≤ 9223372036854775807) :
    Calls Try.prog 113 #[.slice a l.length c, .int .i64 x] w fun e w' => e = .returned (three (Pm.rd l x)) ∧ w = w' := by
  by_cases hx : x < 0 ∨ (l.length : Int) < x
  · exact int_out a c l x w hm h0 h1 hx
  · obtain ⟨n, rfl⟩ := Int.eq_ofNat_of_zero_le (show 0 ≤ x by omega)
    exact int_in a c l n w ha hm (by omega)
end Go.Proofs.Ytghhdbkgibpebaa
