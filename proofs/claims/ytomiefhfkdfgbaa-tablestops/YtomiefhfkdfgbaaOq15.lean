/-
  Facts, lists of facts, acts as they are handed in.
-/
import Derived.Test.YtomiefhfkdfgbaaOf13
namespace Go.Proofs.Ytomiefhfkdfgbaa
open Go.ChangeShapes Go.WideShapes Go.ChangeAt Go.RowKit

set_option maxRecDepth 100000 in
theorem open_fact {H : Type} {enc : TypeId × Value → H} {W : World} {base : Nat} {v : Value} {d : DataW H} {p : List MemPlace} (hw : ∀ n ∈ d.weights Try.prog 34, n ≤ reachBytes) (hv : Value.okWide Try.prog W .any base 34 v) (ht : DataW.Trod enc Try.prog W 0 (fun _ => true) true 34 v d p) : ∃ x : Fv, v = x.val ∧ Fv.At W x ∧ TxF x := by
  obtain ⟨cs, rfl, _⟩ := okWide_struct Try.underlying34 hv
  obtain ⟨fuel, hf⟩ := ht
  obtain ⟨x, hx, hA⟩ := cells_fact2 hf hw
  refine ⟨x, ?_, hA⟩
  rw [Value.cells] at hx
  rw [Fv.val, show cs = (fv x).toArray by rw [← hx]]
  rfl
end Go.Proofs.Ytomiefhfkdfgbaa
