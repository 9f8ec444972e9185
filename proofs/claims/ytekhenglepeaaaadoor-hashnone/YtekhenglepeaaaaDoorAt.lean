/-
  The contracts of the sum and of Add where a slice tells its length by a number of its own.
-/
import Derived.Test.YtekhenglepeaaaaDoorHSum
namespace Go.Proofs.YtekhenglepeaaaaDoor
open Go.RowKit

theorem hsum_at (a : Option Addr) (c n : Nat) (l : List UInt8) (w : World) (hn : l.length = n) (ha : Holds w a c l) (hL : Laid w) (hl : n ≤ 1000000000000) :
    Calls Tryd.prog 10 #[.slice a n c] w fun e w' => e = .returned (ba (Sm.sum l)) ∧ Below w.heap.size w w' := by
  subst hn
  exact hsum_any a c l w ha hL hl
theorem add_at (h : Nat) (l m : List UInt8) (a : Option Addr) (c n : Nat) (w : World) (hn : m.length = n) (r : Rep w h l) (ha : Holds w a c m) (hne : ∀ ad, a = some ad → 0 < m.length → ad.block ≠ h) (hL : Laid w) (hh : 1 < h) (hm : l.length + n ≤ 1000000000000) :
    Calls Tryd.prog 14 #[.pointer (some ⟨h, 0, none⟩), .slice a n c] w fun e w' => e = .returned (.tuple #[]) ∧ Rep w' h (l ++ m) ∧ But h w w' := by
  subst hn
  exact add_any h l m a c w r ha hne hL hh hm

theorem holds_new_fr (w : World) (l : List UInt8) (A : Array Value) (t : TypeId) (fr : Nat × Nat) (hA : A.toList = cs l) : Holds (w.alloc (.cells A t fr)) (some ⟨w.heap.size, 0, none⟩) l.length l := by
  refine ⟨Nat.le_refl _, fun h => (by cases h), fun ad had j u hu => ?_⟩
  cases had
  rw [← hA] at hu
  rw [Addr.add_lit, Nat.zero_add, cell_of_row _ _ _ A t fr (heap_alloc_new w _)]
  simpa using hu

end Go.Proofs.YtekhenglepeaaaaDoor
