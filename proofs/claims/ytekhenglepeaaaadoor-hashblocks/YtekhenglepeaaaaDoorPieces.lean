/-
  The walk of HashPieces: in whatever pieces bytes are added, it is the sum of all of them.
-/
import Derived.Test.YtekhenglepeaaaaDoorLent
import Derived.Test.YtekhenglepeaaaaDoorOwnV
namespace Go.Proofs.YtekhenglepeaaaaDoor
open Go.RowKit

/-- how many bytes, and one more for each piece, the first i pieces have -/
def tot0 (R : Nat → List UInt8) : Nat → Nat
  | 0 => 0
  | i + 1 => tot0 R i + (1 + (R i).length)
def tot (R : Nat → List UInt8) (i : Nat) : Nat := Sm.wall (fun p : (Nat → List UInt8) × Nat => tot0 p.1 p.2) 0 (R, i)
theorem tot_def (R : Nat → List UInt8) (i : Nat) : tot R i = tot0 R i := Sm.wall_eq _ _
theorem tot_zero (R : Nat → List UInt8) : tot R 0 = 0 := tot_def _ _
theorem tot_succ (R : Nat → List UInt8) (i : Nat) : tot R (i + 1) = tot R i + (1 + (R i).length) := by rw [tot_def, tot_def]; rfl
/-- the first i pieces, all of them -/
def joined0 (R : Nat → List UInt8) : Nat → List UInt8
  | 0 => []
  | i + 1 => joined0 R i ++ R i
def joined (R : Nat → List UInt8) (i : Nat) : List UInt8 := Sm.wall (fun p : (Nat → List UInt8) × Nat => joined0 p.1 p.2) 0 (R, i)
theorem joined_def (R : Nat → List UInt8) (i : Nat) : joined R i = joined0 R i := Sm.wall_eq _ _
theorem joined_zero (R : Nat → List UInt8) : joined R 0 = [] := joined_def _ _
theorem joined_succ (R : Nat → List UInt8) (i : Nat) : joined R (i + 1) = joined R i ++ R i := by rw [joined_def, joined_def]; rfl
theorem joined_le (R : Nat → List UInt8) : ∀ i, (joined R i).length ≤ tot R i
  | 0 => by rw [joined_zero]; exact Nat.zero_le _
  | i + 1 => by rw [joined_succ, tot_succ, List.length_append]; have := joined_le R i; omega
theorem tot_mono (R : Nat → List UInt8) {i j : Nat} (h : i ≤ j) : tot R i ≤ tot R j := by
  induction j with
  | zero => rw [Nat.le_zero.1 h]; exact Nat.le_refl _
  | succ j ih =>
    rcases Nat.lt_or_ge i (j + 1) with h' | h'
    · rw [tot_succ]; have := ih (by omega); omega
    · rw [show i = j + 1 by omega]; exact Nat.le_refl _
end Go.Proofs.YtekhenglepeaaaaDoor
