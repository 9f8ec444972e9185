/-
  The contracts of the functions that turn a word's bits, and of one round: they only reckon.
-/
import Derived.Test.YtfpdiafedoppnaaDoorBase
import Derived.Test.YtfpdiafedoppnaaDoorSm
import Derived.Deep.MidRow
namespace Go.Proofs.YtfpdiafedoppnaaDoor
open Go.RowKit

/-- a word as a value -/
abbrev wv (x : Sm.Wd) : Value := .int .u32 (x.toNat : Int)

theorem rot_and (n m : Nat) (h : n + m = 32) (h0 : 0 < n) : bits BinOp.and IntKind.u64 (IntKind.u64.wrap (-(n : Int))) 31 = (m : Int) := by
  have e : IntKind.u64.wrap (-(n : Int)) = ((18446744073709551616 - n : Nat) : Int) := by rw [IntKind.wrap_u64]; omega
  rw [e, show (31 : Int) = ((31 : Nat) : Int) from rfl, u64_and_nat _ _ (by omega) (by omega), nat_mask5]
  omega

set_option maxHeartbeats 400000 in
theorem rotateLeft_any (x : Sm.Wd) (n : Nat) (w : World) (h0 : 0 < n) (h1 : n < 32) :
    Calls Tryd.prog 61 #[wv x, .int .i64 (-(n : Int))] w fun e w' => e = .returned (wv (Sm.rotr x n)) ∧ w = w' := by
  obtain ⟨m, hm⟩ : ∃ m, n + m = 32 := ⟨32 - n, by omega⟩
  have ha := rot_and n m hm h0
  have k0 : (0 : Int) ≤ (m : Int) := by omega
  have k1 : (m : Int) ≤ 31 := by omega
  have k2 : (1 : Int) ≤ (m : Int) := by omega
  have k3 : (x.toNat : Int) ≤ 4294967295 := by have := Sm.lt' x; omega
  have HM : Hid (n + m = 32) := hm
  clear hm
  go_enter Tryd.func61, Tryd.ntmps61
  go_wp2
  go_ret
  refine ⟨ret_int ?_, rfl⟩
  have h2 := HM.out
  rw [Sm.shl_eq', Sm.shr_eq, Sm.or_eq, Sm.rotr_def, show 32 - m = n by omega, show 32 - n = m by omega]

set_option maxHeartbeats 400000 in
theorem rot_any (x : Sm.Wd) (n : Nat) (w : World) (h0 : 0 < n) (h1 : n < 32) :
    Calls Tryd.prog 60 #[wv x, .int .i64 (n : Int)] w fun e w' => e = .returned (wv (Sm.rotr x n)) ∧ w = w' := by
  have k0 : (0 : Int) ≤ (n : Int) := by omega
  have k1 : (n : Int) ≤ 31 := by omega
  go_enter Tryd.func60, Tryd.ntmps60
  go_wp2_with (first | (go_at_call 61; refine (rotateLeft_any x n _ h0 h1).mono ?_; rintro e w' ⟨rfl, rfl⟩))
  go_ret
  exact ⟨rfl, rfl⟩
theorem rot_at (x : Sm.Wd) (k : Int) (w : World) (h0 : 0 < k) (h1 : k < 32) :
    Calls Tryd.prog 60 #[wv x, .int .i64 k] w fun e w' => e = .returned (wv (Sm.rotr x k.toNat)) ∧ w' = w := by
  obtain ⟨n, rfl⟩ : ∃ n : Nat, k = (n : Int) := ⟨k.toNat, by omega⟩
  exact (rot_any x n w (by omega) (by omega)).mono fun e w' ⟨h, h'⟩ => ⟨by rw [h]; rfl, h'.symm⟩
end Go.Proofs.YtfpdiafedoppnaaDoor
