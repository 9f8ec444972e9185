/-
  The contract of the small function of layer 1 that gives a number's bits.
-/
import Derived.Test.YtfpdiafedoppnaaDoorBase
import Derived.Test.YtfpdiafedoppnaaDoorMath
import Derived.Deep.Light
import Derived.Laws.DeepNot64
namespace Go.Proofs.YtfpdiafedoppnaaDoor
open Go.RowKit

theorem wrap_u64_of {x : Int} {y : Nat} (h : x % 18446744073709551616 = (y : Int)) : IntKind.u64.wrap x = (y : Int) := by rw [IntKind.wrap_u64]; exact h

theorem toBits_eq (n : Int) (h0 : -9223372036854775808 ≤ n) (hn : n < 0) :
    bits BinOp.xor IntKind.u64 IntKind.u64.max (IntKind.u64.wrap (IntKind.u64.wrap n * 2)) = ((Pm.tb n : Nat) : Int) := by
  have e : IntKind.u64.wrap (IntKind.u64.wrap n * 2) = ((2 * n + 18446744073709551616).toNat : Int) := by
    rw [IntKind.wrap_u64, IntKind.wrap_u64]; omega
  rw [e, Pm.u64_not _ (by omega)]
  unfold Pm.tb
  rw [if_pos hn]; omega

theorem toBits_eq' (n : Int) (hn : 0 ≤ n) (h1 : n ≤ 9223372036854775807) :
    IntKind.u64.wrap (IntKind.u64.wrap n * 2) = ((Pm.tb n : Nat) : Int) := by
  unfold Pm.tb
  rw [IntKind.wrap_u64, IntKind.wrap_u64, if_neg (by omega)]; omega

set_option maxHeartbeats 400000 in
theorem toBits_any (n : Int) (w : World) (h0 : -9223372036854775808 ≤ n) (h1 : n ≤ 9223372036854775807) :
    Calls Tryd.prog 53 #[.int .i64 n] w fun e w' => e = .returned (.int .u64 ((Pm.tb n : Nat) : Int)) ∧ w = w' := by
  by_cases hn : n < 0
  · go_enter Tryd.func53, Tryd.ntmps53
    go_wp2
    go_ret
    exact ⟨ret_int (toBits_eq n h0 hn), rfl⟩
  · have hn' : 0 ≤ n := by omega
    go_enter Tryd.func53, Tryd.ntmps53
    go_wp2
    go_ret
    refine ⟨ret_int ?_, rfl⟩
    unfold Pm.tb
    rw [if_neg (by omega)]
    first | omega | (rw [IntKind.wrap_u64]; omega)

end Go.Proofs.YtfpdiafedoppnaaDoor
