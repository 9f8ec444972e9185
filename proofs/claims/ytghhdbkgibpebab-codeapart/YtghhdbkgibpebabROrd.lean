/-
  Facts: what the reference's Order answers.
-/
import Derived.Test.YtghhdbkgibpebabOrd
import Derived.Shelf.SlSortCmp.QuietGrown
namespace Go.Proofs.Ytghhdbkgibpebab
open Go.RowKit Go.Sort

/-- two facts' boxes: where their Args stand -/
theorem boxes_args (w : World) (o1 o2 : Array Value) (t : TypeId) (v1 v2 : Value) (h1 : o1[3]? = some v1) (h2 : o2[3]? = some v2) :
    ((w.alloc (.cells o1 t)).alloc (.cells o2 t)).cell? ⟨w.heap.size, 3, none⟩ = some v1 ∧ ((w.alloc (.cells o1 t)).alloc (.cells o2 t)).cell? ⟨w.heap.size + 1, 3, none⟩ = some v2 := by
  constructor
  · simp [h1]
  · simp [h2]

end Go.Proofs.Ytghhdbkgibpebab
