/-
  The parts of a rule and of a literal that lie in a block or a row.
-/
import Derived.Test.YtbahbibibpkddaaVt
namespace Go.Proofs.Ytbahbibibpkddaa
open Go.RowKit Go.Lib Go.Shelf

theorem Try.iS1 : (Try.prog.info? 9).map (fun i => (i.zero, i.size, i.bytes)) = some (some (.string .empty), sK.k, 16) := by kernel_rfl
theorem rule_parts10 {w : World} {b : Nat} {x : Rv} (H : w.heap[b]? = some (.cells (rv x).toArray 37)) :
    w.rangeAt b 0 (tv x.home) ∧ w.rangeAt b 6 (tv x.to_) ∧ w.cell? ⟨b, 0, none⟩ = some (str x.home.v) ∧ w.cell? ⟨b, 4, none⟩ = some (str x.pred) ∧ w.cell? ⟨b, 5, none⟩ = some (.slice x.a x.args.length x.cap) ∧ w.cell? ⟨b, 6, none⟩ = some (str x.to_.v) ∧ w.cell? ⟨b, 10, none⟩ = some (.slice x.ba x.body.length x.bcap) := by
  refine ⟨?_, ?_, ?_, ?_, ?_, ?_, ?_⟩
  · exact World.rangeAt_of_block H 0 4
  · exact World.rangeAt_of_block H 6 4
  all_goals (rw [heap_cell H]; rfl)
theorem lit_parts10 {w : World} {b : Nat} {y : Lv} (H : w.heap[b]? = some (.cells (lv y).toArray 45)) :
    w.rangeAt b 0 (tv y.by_) ∧ w.rangeAt b 6 (tv y.at_) ∧ w.cell? ⟨b, 4, none⟩ = some (str y.pred) ∧ w.cell? ⟨b, 5, none⟩ = some (.slice y.a y.args.length y.cap) ∧ w.cell? ⟨b, 6, none⟩ = some (str y.at_.v) := by
  refine ⟨?_, ?_, ?_, ?_, ?_⟩
  · exact World.rangeAt_of_block H 0 4
  · exact World.rangeAt_of_block H 6 4
  all_goals (rw [heap_cell H]; rfl)
theorem lit_in {w : World} {b o : Nat} {y : Lv} (h : w.rangeAt b o (lv y)) : w.rangeAt b o (tv y.by_) ∧ w.rangeAt b (o + 6) (tv y.at_) ∧ w.cell? ⟨b, o + 4, none⟩ = some (str y.pred) ∧ w.cell? ⟨b, o + 5, none⟩ = some (.slice y.a y.args.length y.cap) ∧ w.cell? ⟨b, o + 6, none⟩ = some (str y.at_.v) := by
  refine ⟨fun j u hu => h j u ?_, fun j u hu => ?_, h 4 _ rfl, h 5 _ rfl, h 6 _ rfl⟩
  · have hj : j < 4 := (List.getElem?_eq_some_iff.1 hu).1
    match j, hj with
    | 0, _ => exact hu
    | 1, _ => exact hu
    | 2, _ => exact hu
    | 3, _ => exact hu
  · have hj : j < 4 := (List.getElem?_eq_some_iff.1 hu).1
    have e : ∀ i, o + 6 + i = o + (6 + i) := fun i => Nat.add_assoc ..
    rw [e]
    refine h (6 + j) u ?_
    match j, hj with
    | 0, _ => exact hu
    | 1, _ => exact hu
    | 2, _ => exact hu
    | 3, _ => exact hu
end Go.Proofs.Ytbahbibibpkddaa
