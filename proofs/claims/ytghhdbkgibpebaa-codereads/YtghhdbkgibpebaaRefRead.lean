/-
  The contract of the reference's Int: it answers as the reading function Pm.rd does, too.
-/
import Derived.Test.YtghhdbkgibpebaaRead
import Derived.Deep.Light
namespace Go.Proofs.Ytghhdbkgibpebaa
open Go.RowKit

set_option maxRecDepth 100000 in
set_option maxHeartbeats 800000 in
theorem rint_out (a : Option Addr) (c : Nat) (l : List UInt8) (x : Int) (w : World) (hm : l.length ≤ maxLen) (h0 : -9223372036854775808 ≤ x) (h1 : x ≤ 9223372036854775807) (hx : x < 0 ∨ (l.length : Int) < x) :
    Calls Try.prog 100 #[.slice a l.length c, .int .i64 x] w fun e w' => e = .returned (three (Pm.rd l x)) ∧ w = w' := by
  unfold maxLen at hm
  have hr : Pm.rd l x = (0, 0, 2) := by unfold Pm.rd; rw [if_pos hx]
  rw [hr]
  clear hr
  rcases hx with hx | hx
  · go_enter Try.func100, Try.ntmps100
    go_wp2
    go_ret3
    exact ⟨rfl, rfl⟩
  · have hx' : ¬ x < 0 := by omega
    go_enter Try.func100, Try.ntmps100
    go_wp2
    go_ret3
    exact ⟨rfl, rfl⟩

set_option maxRecDepth 100000 in
set_option maxHeartbeats 800000 in
theorem rint_in (a : Option Addr) (c : Nat) (l : List UInt8) (x : Nat) (w : World) (ha : Holds w a c l) (hm : l.length ≤ maxLen) (hx : x ≤ l.length) :
    Calls Try.prog 100 #[.slice a l.length c, .int .i64 (x : Int)] w fun e w' => e = .returned (three (Pm.rd l (x : Int))) ∧ w = w' := by
  unfold maxLen at hm
  have hr : ∀ n j e, Pm.rdK 10 0 0 (l.drop x) = (n, j, e) → Pm.rd l (x : Int) = (n, if e = 0 then (x : Int) + j else 0, (e : Int)) := by
    intro n j e he
    unfold Pm.rd
    rw [if_neg (by omega), Int.toNat_natCast, he]
  generalize Pm.rd l (x : Int) = R at *
  have q1 : decide ((x : Int) < 0) = false := by simp
  have q2 : decide (l.length < x) = false := by simp; omega
  have HR : Hid (∀ n j e, Pm.rdK 10 0 0 (l.drop x) = (n, j, e) → R = (n, if e = 0 then (x : Int) + j else 0, (e : Int))) := hr
  clear hr
  go_enter Try.func100, Try.ntmps100
  go_wp2
  go_loop [7, 8] (fun u i => ∃ (k v : Nat), k ≤ 10 ∧ x + k ≤ l.length ∧ i = .int .i64 (k : Int) ∧ u = .int .u64 (v : Int) ∧ v < 2 ^ (7 * k) ∧ Pm.rdK 10 0 0 (l.drop x) = Pm.rdK (10 - k) k v (l.drop (x + k))) (fun _ i => 10 - (intOf i).toNat)
  case atStart => exact ⟨0, 0, by omega, by omega, rfl, rfl, by simp, rfl⟩
  case round =>
    obtain ⟨k, v, hk, hxk, rfl, rfl, hv, hrk⟩ := hrel
    have HK : Hid (Pm.rdK 10 0 0 (l.drop x) = Pm.rdK (10 - k) k v (l.drop (x + k))) := hrk
    clear hrk
    by_cases hk10 : k < 10
    · by_cases hend : x + k = l.length
      · have hz : R = (0, 0, 10) := by
          have e : Pm.rdK 10 0 0 (l.drop x) = (0, 0, 10) := by
            rw [HK.out, List.drop_of_length_le (by omega), show 10 - k = (9 - k) + 1 by omega]; rfl
          simpa using HR.out _ _ _ e
        have hend2 : (((x : Int) + (k : Int)) == (l.length : Int)) = true := by rw [beq_iff_eq]; omega
        clear hend
        go_wp2
        go_ret3
        exact ⟨rfl, rfl⟩
      · have hend2 : (((x : Int) + (k : Int)) == (l.length : Int)) = false := by rw [beq_eq_false_iff_ne]; omega
        obtain ⟨b, o, rfl⟩ := ha.addr (by omega)
        have hcell := ha.cell (x + k) (by omega)
        have hlt : (x : Int) + (k : Int) < (l.length : Int) := by omega
        have hdr : l.drop (x + k) = l[x + k] :: l.drop (x + (k + 1)) := by rw [List.drop_eq_getElem_cons (by omega)]; rfl
        have HD : Hid (l.drop (x + k) = l[x + k] :: l.drop (x + (k + 1))) := hdr
        clear hdr
        generalize hcc : l[x + k] = cc at *
        have hc256 : cc.toNat < 256 := cc.toNat_lt
        have H10 : Hid (10 - k = (9 - k) + 1) := show 10 - k = (9 - k) + 1 by omega
        clear hcc
        by_cases h9 : k = 9 ∧ 1 < cc.toNat
        · have hz : R = (0, 0, 11) := by
            have hms' : Pm.ms cc.toNat k = false := by simp [Pm.ms, h9.1, h9.2]
            have e : Pm.rdK 10 0 0 (l.drop x) = (0, 0, 11) := by
              rw [HK.out, H10.out, HD.out]
              simp [Pm.rdK, hms']
            simpa using HR.out _ _ _ e
          have HZ : Hid (R = (0, 0, 11)) := hz
          clear hz
          obtain ⟨h9a, h9b⟩ := h9
          subst h9a
          have h9c : (1 : Int) < (cc.toNat : Int) := by omega
          go_wp2
          go_ret3
          rw [HZ.out]
          exact ⟨rfl, rfl⟩
        · by_cases hc0 : k ≠ 0 ∧ cc.toNat = 0
          · have hz : R = (0, 0, 11) := by
              have hms' : Pm.ms cc.toNat k = false := by simp [Pm.ms, hc0.1, hc0.2]
              have e : Pm.rdK 10 0 0 (l.drop x) = (0, 0, 11) := by
                rw [HK.out, H10.out, HD.out]
                simp [Pm.rdK, hms']
              simpa using HR.out _ _ _ e
            have HZ : Hid (R = (0, 0, 11)) := hz
            clear hz
            have hk0 : (0 : Int) < (k : Int) := by omega
            have hcc0 : (cc.toNat : Int) = 0 := by omega
            have h9e : ¬ (1 : Int) < (cc.toNat : Int) := by omega
            go_wp2
            all_goals
              go_ret3
              rw [HZ.out]
              exact ⟨rfl, rfl⟩
          · have hms : Pm.ms cc.toNat k = true := by
              simp [Pm.ms]
              omega
            have hs64 := Pm.step_64 v cc.toNat k (by omega) hms hv
            have hslt := Pm.step_lt v cc.toNat k hv
            have h9d : k = 9 → cc.toNat ≤ 1 := fun h => by
              rcases Nat.lt_or_ge 1 cc.toNat with h' | h'
              · exact absurd ⟨h, h'⟩ h9
              · exact h'
            obtain ⟨V, hV, hadd⟩ : ∃ V : Nat, v + cc.toNat % 128 * 2 ^ (7 * k) = V ∧ IntKind.u64.wrap ((v : Int) + IntKind.u64.wrap ((cc.toNat : Int) % 128 * 2 ^ (7 * k))) = (V : Int) := ⟨_, rfl, Pm.add_step v cc.toNat k hs64.2⟩
            have hnext : Pm.rdK (9 - k + 1) k v (cc :: l.drop (x + (k + 1))) = if cc.toNat < 128 then (Pm.fb V, k + 1, 0) else Pm.rdK (9 - k) (k + 1) V (l.drop (x + (k + 1))) := by
              simp [Pm.rdK, hms, hV]
            rw [hV] at hs64 hslt
            have hV64 := hs64.2
            have HN : Hid (Pm.rdK (9 - k + 1) k v (cc :: l.drop (x + (k + 1))) = if cc.toNat < 128 then (Pm.fb V, k + 1, 0) else Pm.rdK (9 - k) (k + 1) V (l.drop (x + (k + 1)))) := hnext
            clear hV hs64 hnext hms
            by_cases hc : cc.toNat < 128
            · have hz : R = (Pm.fb V, (x : Int) + ((k : Int) + 1), 0) := by
                have e : Pm.rdK 10 0 0 (l.drop x) = (Pm.fb V, k + 1, 0) := by
                  rw [HK.out, H10.out, HD.out, HN.out, if_pos hc]
                simpa using HR.out _ _ _ e
              have HZ : Hid (R = (Pm.fb V, (x : Int) + ((k : Int) + 1), 0)) := hz
              clear hz
              have hV1 : (V : Int) ≤ 18446744073709551615 := by omega
              have hc1 : ¬ (128 : Int) ≤ (cc.toNat : Int) := by omega
              have hfo : V % 2 = 1 → Pm.fb V = -((V : Int) / 2) - 1 := fun h => by unfold Pm.fb; rw [if_pos h]; omega
              have hfe : ¬ V % 2 = 1 → Pm.fb V = (V : Int) / 2 := fun h => by unfold Pm.fb; rw [if_neg h]; omega
              by_cases hodd : V % 2 = 1
              · have HF : Hid (Pm.fb V = -((V : Int) / 2) - 1) := hfo hodd
                have ho2 : ((V : Int) % 2 == 1) = true := by rw [beq_iff_eq]; omega
                clear hfo hfe hodd
                by_cases hc2 : 1 < cc.toNat
                · have hk9 : ¬ k = 9 := fun h => by have := h9d h; omega
                  clear h9d h9
                  have hcz : ((cc.toNat : Int) == 0) = false := by rw [beq_eq_false_iff_ne]; omega
                  go_wp2
                  all_goals
                    go_ret3
                    rw [HZ.out, HF.out, ← Int.add_assoc]
                    exact ⟨rfl, rfl⟩
                · have hk9 : ¬ (1 : Int) < (cc.toNat : Int) := by omega
                  clear h9d h9
                  by_cases hk : k = 9
                  · have hcz : ((cc.toNat : Int) == 0) = false := by rw [beq_eq_false_iff_ne]; omega
                    have hk9t : ((k : Int) == 9) = true := by rw [beq_iff_eq]; omega
                    clear hk
                    go_wp2
                    all_goals
                      go_ret3
                      rw [HZ.out, HF.out, ← Int.add_assoc]
                      exact ⟨rfl, rfl⟩
                  · go_wp2
                    all_goals
                      go_ret3
                      rw [HZ.out, HF.out, ← Int.add_assoc]
                      exact ⟨rfl, rfl⟩
              · have HF : Hid (Pm.fb V = (V : Int) / 2) := hfe hodd
                have ho2 : ((V : Int) % 2 == 1) = false := by rw [beq_eq_false_iff_ne]; omega
                clear hfo hfe hodd
                by_cases hc2 : 1 < cc.toNat
                · have hk9 : ¬ k = 9 := fun h => by have := h9d h; omega
                  clear h9d h9
                  have hcz : ((cc.toNat : Int) == 0) = false := by rw [beq_eq_false_iff_ne]; omega
                  go_wp2
                  all_goals
                    go_ret3
                    rw [HZ.out, HF.out, ← Int.add_assoc]
                    exact ⟨rfl, rfl⟩
                · have hk9 : ¬ (1 : Int) < (cc.toNat : Int) := by omega
                  clear h9d h9
                  by_cases hk : k = 9
                  · have hcz : ((cc.toNat : Int) == 0) = false := by rw [beq_eq_false_iff_ne]; omega
                    have hk9t : ((k : Int) == 9) = true := by rw [beq_iff_eq]; omega
                    clear hk
                    go_wp2
                    all_goals
                      go_ret3
                      rw [HZ.out, HF.out, ← Int.add_assoc]
                      exact ⟨rfl, rfl⟩
                  · go_wp2
                    all_goals
                      go_ret3
                      rw [HZ.out, HF.out, ← Int.add_assoc]
                      exact ⟨rfl, rfl⟩
            · have hk9 : ¬ k = 9 := fun h => by have := h9d h; omega
              go_wp2
              refine ⟨⟨k + 1, V, by omega, by omega, by go_num, rfl, hslt, ?_⟩, by simp [intOf]; omega⟩
              rw [HK.out, H10.out, HD.out, HN.out, if_neg hc, show 10 - (k + 1) = 9 - k by omega]
    · have hz : R = (0, 0, 11) := by
        have e : Pm.rdK 10 0 0 (l.drop x) = (0, 0, 11) := by
          rw [HK.out, show 10 - k = 0 by omega]
          simp [Pm.rdK]
        simpa using HR.out _ _ _ e
      have HZ : Hid (R = (0, 0, 11)) := hz
      clear hz
      have hk' : k = 10 := by omega
      go_wp2
      go_ret3
      rw [HZ.out]
      exact ⟨rfl, rfl⟩

theorem rint_any (a : Option Addr) (c : Nat) (l : List UInt8) (x : Int) (w : World) (ha : Holds w a c l) (hm : l.length ≤ maxLen) (h0 : -9223372036854775808 ≤ x) (h1 : x ≤ 9223372036854775807) :
    Calls Try.prog 100 #[.slice a l.length c, .int .i64 x] w fun e w' => e = .returned (three (Pm.rd l x)) ∧ w = w' := by
  by_cases hx : x < 0 ∨ (l.length : Int) < x
  · exact rint_out a c l x w hm h0 h1 hx
  · obtain ⟨n, rfl⟩ := Int.eq_ofNat_of_zero_le (show 0 ≤ x by omega)
    exact rint_in a c l n w ha hm (by omega)
end Go.Proofs.Ytghhdbkgibpebaa
