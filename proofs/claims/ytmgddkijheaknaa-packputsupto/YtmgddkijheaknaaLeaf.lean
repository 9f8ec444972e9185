/-
  The contracts of the small functions of layer 1 that only reckon: a number's bits there and back, whether a byte may stand at a place, whether two are the same bytes.
-/
import Derived.Test.YtmgddkijheaknaaBase
import Derived.Deep.Light
import Derived.Laws.DeepNot64
namespace Go.Proofs.Ytmgddkijheaknaa
open Go.RowKit

theorem wrap_u64_of {x : Int} {y : Nat} (h : x % 18446744073709551616 = (y : Int)) : IntKind.u64.wrap x = (y : Int) := by rw [IntKind.wrap_u64]; exact h

theorem toBits_eq (n : Int) (h0 : -9223372036854775808 ≤ n) (hn : n < 0) :
    bits BinOp.xor IntKind.u64 IntKind.u64.max (IntKind.u64.wrap (IntKind.u64.wrap n * 2)) = ((Pm.tb n : Nat) : Int) := by
  have e : IntKind.u64.wrap (IntKind.u64.wrap n * 2) = ((2 * n + 18446744073709551616).toNat : Int) := by
    rw [IntKind.wrap_u64, IntKind.wrap_u64]; omega
  rw [e, Pm.u64_not _ (by omega)]
  unfold Pm.tb
  rw [if_pos hn]; omega

theorem toBits_eq' (n : Int) (hn : 0 ≤ n) (h1 : n ≤ 9223372036854775807) :
    IntKind.u64.wrap (IntKind.u64.wrap n * 2) = ((Pm.tb n : Nat) : Int) := by
  unfold Pm.tb
  rw [IntKind.wrap_u64, IntKind.wrap_u64, if_neg (by omega)]; omega

set_option maxHeartbeats 400000 in
theorem toBits_any (n : Int) (w : World) (h0 : -9223372036854775808 ≤ n) (h1 : n ≤ 9223372036854775807) :
    Calls Try.prog 33 #[.int .i64 n] w fun e w' => e = .returned (.int .u64 ((Pm.tb n : Nat) : Int)) ∧ w = w' := by
  by_cases hn : n < 0
  · go_enter Try.func33, Try.ntmps33
    go_wp2
    go_ret
    exact ⟨ret_int (toBits_eq n h0 hn), rfl⟩
  · have hn' : 0 ≤ n := by omega
    go_enter Try.func33, Try.ntmps33
    go_wp2
    go_ret
    refine ⟨ret_int ?_, rfl⟩
    unfold Pm.tb
    rw [if_neg (by omega)]
    first | omega | (rw [IntKind.wrap_u64]; omega)

theorem fromBits_odd (u : Nat) (h1 : u < 18446744073709551616) (h2 : ((u : Int) % 2 == 1) = true) : bits BinOp.xor IntKind.i64 (-1) ((u : Int) / 2) = Pm.fb u := by
  have e : ((u : Int) / 2) = ((u / 2 : Nat) : Int) := by omega
  rw [e, i64_not _ (by omega)]
  have h3 : u % 2 = 1 := by simp at h2; omega
  unfold Pm.fb
  rw [if_pos h3]; omega
theorem fromBits_even (u : Nat) (h2 : ((u : Int) % 2 == 1) = false) : ((u : Int) / 2) = Pm.fb u := by
  have h3 : ¬ u % 2 = 1 := by simp at h2; omega
  unfold Pm.fb
  rw [if_neg h3]; omega
set_option maxHeartbeats 400000 in
theorem fromBits_any (u : Nat) (w : World) (h1 : u < 18446744073709551616) :
    Calls Try.prog 30 #[.int .u64 (u : Int)] w fun e w' => e = .returned (.int .i64 (Pm.fb u)) ∧ w = w' := by
  have hb := Pm.u64_and1 u h1
  have hu0 : (0 : Int) ≤ (u : Int) := by omega
  have hu1 : (u : Int) ≤ 18446744073709551615 := by omega
  go_enter Try.func30, Try.ntmps30
  go_wp2
  all_goals go_ret
  · have h2 : ((u : Int) % 2 == 1) = true := by assumption
    refine ⟨ret_int ?_, rfl⟩
    go_light
    exact fromBits_odd u h1 h2
  · have h2 : ((u : Int) % 2 == 1) = false := by assumption
    refine ⟨ret_int ?_, rfl⟩
    exact fromBits_even u h2

set_option maxHeartbeats 400000 in
theorem same_any (a b : Option Addr) (ca cb : Nat) (l m : List UInt8) (w : World) (ha : Holds w a ca l) (hb : Holds w b cb m) :
    Calls Try.prog 10 #[.slice a l.length ca, .slice b m.length cb] w fun e w' => e = .returned (.bool (l == m)) ∧ w = w' := by
  have c1 := conv ha
  have c2 := conv hb
  clear ha hb
  go_enter Try.func10, Try.ntmps10
  go_wp2
  go_ret
  exact ⟨rfl, rfl⟩
set_option maxHeartbeats 400000 in
theorem mayStand_any (c i : Nat) (w : World) (h1 : c < 256) (h3 : i < 10) :
    Calls Try.prog 29 #[.int .u8 (c : Int), .int .i64 (i : Int)] w fun e w' => e = .returned (.bool (Pm.ms c i)) ∧ w = w' := by
  have g0 : (0 : Int) ≤ (c : Int) := by omega
  have g1 : (c : Int) ≤ 255 := by omega
  have g2 : (i : Int) ≤ 9 := by omega
  go_enter Try.func29, Try.ntmps29
  go_wp2
  all_goals go_ret
  all_goals refine ⟨ret_bool ?_, rfl⟩
  all_goals go_light
  all_goals (unfold Pm.ms; rw [Bool.eq_iff_iff]; simp; omega)
end Go.Proofs.Ytmgddkijheaknaa
