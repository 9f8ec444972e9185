/-
  A row of records made at once.
-/
import Derived.Test.YtdehimbfcilhpaaGreatDoorQSr12
namespace Go.Proofs.YtdehimbfcilhpaaGreatDoor
open Go.RowKit Go.Sort

theorem row_newL {α : Type} (D : Kd α) (w : World) (c : Array Value) (t : TypeId) (xs : List α) (hx : xs.length ≤ 1000) (h : c.toList = xs.flatMap D.enc) : Row D (w.alloc (.cells c t)) (some ⟨w.heap.size, 0, none⟩) xs.length xs :=
  ⟨Nat.le_refl _, by omega, (fun h => by cases h), fun ad ha j u hu => by
    cases ha
    rw [Addr.add_lit, heap_cell (heap_alloc_new w _), Nat.zero_add, ← Array.getElem?_toList, h]
    exact hu⟩
end Go.Proofs.YtdehimbfcilhpaaGreatDoor
