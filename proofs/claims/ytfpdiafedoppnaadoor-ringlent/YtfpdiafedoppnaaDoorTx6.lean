/-
  The reference's Texts, of like lists; a row of texts of the call's own that is written over.
-/
import Derived.Test.YtfpdiafedoppnaaDoorRp
import Derived.Test.YtfpdiafedoppnaaDoorRn
import Derived.Test.YtfpdiafedoppnaaDoorEqual
namespace Go.Proofs.YtfpdiafedoppnaaDoor
open Go.RowKit

set_option maxRecDepth 100000 in
set_option maxHeartbeats 1600000 in
theorem texts6 (w : World) (a b : Option Addr) (c d : Nat) (N : List (List UInt8)) (h : Row sK w a c N) (h' : Row sK w b d N) :
    Calls Tryd.prog 12 #[.slice a N.length c, .slice b N.length d] w fun e w' => e = .returned (.bool true) ∧ Below w.heap.size w w' := by
  have few := h.few
  have q0 : ((N.length : Int) != (N.length : Int)) = false := by simp
  go_enter Tryd.func12, Tryd.ntmps12
  go_wp2_with fail
  go_loopw [5] (fun v wr => ∃ k : Nat, v = .int .i64 (k : Int) ∧ k ≤ N.length ∧ Below w.heap.size w wr) (fun v _ => N.length - (intOf v).toNat)
  case atStart => exact ⟨0, rfl, by omega, Below.refl _ _⟩
  case round =>
    obtain ⟨k, rfl, hk, hbel⟩ := hrel
    by_cases hlt : k < N.length
    · have q1 : (k : Int) < (N.length : Int) := by omega
      obtain ⟨b1, o1, rfl⟩ := h.addr (by omega)
      obtain ⟨b2, o2, rfl⟩ := h'.addr (by omega)
      have c1 := (h.below hbel (Nat.le_refl _)).text k hlt
      have c2 := (h'.below hbel (Nat.le_refl _)).text k hlt
      generalize N[k] = n at *
      have q2 : (n != n) = false := by simp
      go_wp2_with fail
      go_quiet (fail)
      go_wp2_with fail
      exact ⟨⟨k + 1, rfl, hlt, Below.then hbel (below_drewN (Below.refl _ _) _)⟩, by simp [intOf]; omega⟩
    · have q1 : ¬ (k : Int) < (N.length : Int) := by omega
      go_wp2_with fail
      go_ret
      exact ⟨rfl, hbel⟩
end Go.Proofs.YtfpdiafedoppnaaDoor
