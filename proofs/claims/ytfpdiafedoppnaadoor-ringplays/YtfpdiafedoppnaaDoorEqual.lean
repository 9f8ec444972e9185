/-
  The contract of Equal: it tells whether both are the same bytes; nothing that was there turns.
-/
import Derived.Test.YtfpdiafedoppnaaDoorBase
import Derived.Test.YtfpdiafedoppnaaDoorMm
import Derived.Deep.Light
import Derived.BigQuiet
import Derived.Deep.QuietTactic
namespace Go.Proofs.YtfpdiafedoppnaaDoor
open Go.RowKit

theorem below_drewN {B : Nat} {a w : World} (h : Below B a w) (n : Nat) : Below B a (w.drewN n) := ⟨h.os, h.tape, h.output, h.size, h.block⟩

set_option maxRecDepth 100000 in
set_option maxHeartbeats 800000 in
theorem equal_any (a b : Option Addr) (ca cb : Nat) (l m : List UInt8) (w : World) (ha : Holds w a ca l) (hb : Holds w b cb m) (hl : l.length ≤ 140737488355328) :
    Calls Tryd.prog 30 #[.slice a l.length ca, .slice b m.length cb] w fun e w' => e = .returned (.bool (l == m)) ∧ Below w.heap.size w w' := by
  by_cases hne : l.length = m.length
  · have q0 : (l.length : Int) = (m.length : Int) := by omega
    have q1 : ((l.length : Int) != (m.length : Int)) = false := by rw [q0]; simp
    go_enter Tryd.func30, Tryd.ntmps30
    go_wp2_with fail
    go_loopw [5, 14] (fun u v wr => ∃ k : Nat, u = .int .u8 (Mm.unl l m k : Int) ∧ v = .int .i64 (k : Int) ∧ k ≤ l.length ∧ Below w.heap.size w wr) (fun _ v _ => l.length - (intOf v).toNat)
    case atStart => exact ⟨0, by rw [Mm.unl_zero]; rfl, rfl, by omega, Below.refl _ _⟩
    case round =>
      obtain ⟨k, rfl, rfl, hk, hbel⟩ := hrel
      by_cases hlt : k < l.length
      · have q2 : (k : Int) < (l.length : Int) := by omega
        have q3 : (k : Int) < (m.length : Int) := by omega
        obtain ⟨B1, O1, rfl⟩ := ha.addr (by omega)
        obtain ⟨B2, O2, rfl⟩ := hb.addr (by omega)
        have c1 := (ha.below hbel).cell k hlt
        have c2 := (hb.below hbel).cell k (by omega)
        have st := Mm.unl_step l m k hlt (by omega)
        go_wp2_with fail
        go_quiet (fail)
        go_wp2_with fail
        refine ⟨⟨k + 1, by rw [← st], by simp, by omega, ?_⟩, by simp [intOf]; omega⟩
        exact Below.then hbel (below_drewN (Below.refl _ _) _)
      · have q2 : ¬ (k : Int) < (l.length : Int) := by omega
        obtain rfl : k = l.length := by omega
        go_wp2_with fail
        go_ret
        refine ⟨ret_bool ?_, hbel⟩
        first | exact Mm.unl_all l m hne | (rw [← hne]; exact Mm.unl_all l m hne)
  · have q1 : ((l.length : Int) != (m.length : Int)) = true := by simp; omega
    go_enter Tryd.func30, Tryd.ntmps30
    go_wp2_with fail
    go_ret
    exact ⟨ret_bool (Mm.beq_unlike l m hne).symm, Below.refl _ _⟩

theorem equal_at (a b : Option Addr) (n k ca cb : Nat) (l m : List UInt8) (w : World) (hn : l.length = n) (hk : m.length = k) (ha : Holds w a ca l) (hb : Holds w b cb m) (hl : n ≤ 140737488355328) :
    Calls Tryd.prog 30 #[.slice a n ca, .slice b k cb] w fun e w' => e = .returned (.bool (l == m)) ∧ Below w.heap.size w w' := by
  subst hn hk
  exact equal_any a b ca cb l m w ha hb hl
end Go.Proofs.YtfpdiafedoppnaaDoor
