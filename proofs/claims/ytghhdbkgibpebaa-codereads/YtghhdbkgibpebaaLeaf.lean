/-
  The contracts of the small functions of layer 1 that reading leans on: a number out of its bits, whether a byte may stand at a place.
-/
import Derived.Test.YtghhdbkgibpebaaBits
import Derived.Test.YtghhdbkgibpebaaSame
namespace Go.Proofs.Ytghhdbkgibpebaa
open Go.RowKit

theorem fromBits_odd (u : Nat) (h1 : u < 18446744073709551616) (h2 : ((u : Int) % 2 == 1) = true) : bits BinOp.xor IntKind.i64 (-1) ((u : Int) / 2) = Pm.fb u := by
  have e : ((u : Int) / 2) = ((u / 2 : Nat) : Int) := by omega
  rw [e, i64_not _ (by omega)]
  have h3 : u % 2 = 1 := by simp at h2; omega
  unfold Pm.fb
  rw [if_pos h3]; omega
theorem fromBits_even (u : Nat) (h2 : ((u : Int) % 2 == 1) = false) : ((u : Int) / 2) = Pm.fb u := by
  have h3 : ¬ u % 2 = 1 := by simp at h2; omega
  unfold Pm.fb
  rw [if_neg h3]; omega
set_option maxHeartbeats 400000 in
theorem fromBits_any (u : Nat) (w : World) (h1 : u < 18446744073709551616) :
    Calls Try.prog 119 #[.int .u64 (u : Int)] w fun e w' => e = .returned (.int .i64 (Pm.fb u)) ∧ w = w' := by
  have hb := Pm.u64_and1 u h1
  have hu0 : (0 : Int) ≤ (u : Int) := by omega
  have hu1 : (u : Int) ≤ 18446744073709551615 := by omega
  go_enter Try.func119, Try.ntmps119
  go_wp2
  all_goals go_ret
  · have h2 : ((u : Int) % 2 == 1) = true := by assumption
    refine ⟨ret_int ?_, rfl⟩
    go_light
    exact fromBits_odd u h1 h2
  · have h2 : ((u : Int) % 2 == 1) = false := by assumption
    refine ⟨ret_int ?_, rfl⟩
    exact fromBits_even u h2

set_option maxHeartbeats 400000 in
theorem mayStand_any (c i : Nat) (w : World) (h1 : c < 256) (h3 : i < 10) :
    Calls Try.prog 118 #[.int .u8 (c : Int), .int .i64 (i : Int)] w fun e w' => e = .returned (.bool (Pm.ms c i)) ∧ w = w' := by
  have g0 : (0 : Int) ≤ (c : Int) := by omega
  have g1 : (c : Int) ≤ 255 := by omega
  have g2 : (i : Int) ≤ 9 := by omega
  go_enter Try.func118, Try.ntmps118
  go_wp2
  all_goals go_ret
  all_goals refine ⟨ret_bool ?_, rfl⟩
  all_goals go_light
  all_goals (unfold Pm.ms; rw [Bool.eq_iff_iff]; simp; omega)
end Go.Proofs.Ytghhdbkgibpebaa
