/-
  Another name for a variable of a term: the law's own function.
-/
import Derived.Test.YtefajadolgmpdaaGreatDoorQMf0
import Derived.Test.YtefajadolgmpdaaGreatDoorQIs2
namespace Go.Proofs.YtefajadolgmpdaaGreatDoor
open Go.RowKit Go.Lib Go.Shelf

set_option maxRecDepth 100000 in
set_option maxHeartbeats 800000 in
theorem renamed_at (t : Tm) (f z : List UInt8) (w : World) (hf : f ≠ []) :
    Calls Tryz.prog 22 #[tval t, str f, str z] w fun e w' => e = .returned (tval (Ck.ren f z t)) ∧ Below w.heap.size w w' := by
  have q0 : f.isEmpty = false := by simpa using hf
  obtain ⟨v, ⟨nm, n, s⟩⟩ := t
  have A0 := below_alloc w (.cells #[str v, .bool nm, .int .i64 n, str s] 38)
  have H0 := heap_alloc_new w (.cells #[str v, .bool nm, .int .i64 n, str s] 38)
  have A1 := below_alloc (w.alloc (.cells #[str v, .bool nm, .int .i64 n, str s] 38)) (.cells #[.string ⟨#[]⟩, .bool false, .int .i64 0, .string ⟨#[]⟩] 38)
  have H1 := heap_alloc_new (w.alloc (.cells #[str v, .bool nm, .int .i64 n, str s] 38)) (.cells #[.string ⟨#[]⟩, .bool false, .int .i64 0, .string ⟨#[]⟩] 38)
  rw [World.size_alloc] at H1
  have G0 := below_heap A1 H0
  have B1 := Below.then A0 A1
  generalize hW : (w.alloc (.cells #[str v, .bool nm, .int .i64 n, str s] 38)).alloc (.cells #[.string ⟨#[]⟩, .bool false, .int .i64 0, .string ⟨#[]⟩] 38) = W at *
  have c0 : W.cell? ⟨w.heap.size, 0, none⟩ = some (str v) := by rw [heap_cell G0]; rfl
  by_cases hv : v = f
  · have q1 : (v == f) = true := by simpa using hv
    have HR : Hid (Ck.ren f z ⟨v, ⟨nm, n, s⟩⟩ = ⟨z, ⟨nm, n, s⟩⟩) := by
      show _ = _
      unfold Ck.ren Ck.sg; rw [if_pos hv]
    clear hv
    subst hW
    go_enter Tryz.func22, Tryz.ntmps22
    go_wp2_with (first
      | (refine wpList_store_cel rfl 9 _ _ rfl w.heap.size 0 4 38 (str z) #[str z, .bool nm, .int .i64 n, str s] rfl rfl G0 rfl (by decide) (by kernel_rfl) rfl rfl ?_; intro w2 h2 t2; have h2' := t2.heap (k := w.heap.size + 1) (by omega) H1)
      | (refine wpList_load_all rfl 38 _ rfl w.heap.size 4 38 [str z, .bool nm, .int .i64 n, str s] _ rfl h2 rfl Tryz.underlying38 rfl Tryz.iT4 ?_)
      | (refine wpList_store_all rfl 38 _ _ rfl (w.heap.size + 1) 4 _ 38 [str z, .bool nm, .int .i64 n, str s] rfl rfl h2' rfl rfl Tryz.iT4 rfl ?_; intro w3 h3 t3))
    have s2 := t2.size
    have sB := B1.size
    refine bodyPost_ret (results_cell rfl rfl h3 Tryz.underlying38 rfl (by kernel_rfl)) rfl ⟨by rw [HR.out], ?_⟩
    exact (B1.trans (t2.lower (Nat.le_refl _) sB)).trans (t3.lower (by omega) (by omega))
  · have q1 : (v == f) = false := by simpa using hv
    have HR : Hid (Ck.ren f z ⟨v, ⟨nm, n, s⟩⟩ = ⟨v, ⟨nm, n, s⟩⟩) := by
      show _ = _
      unfold Ck.ren Ck.sg; rw [if_neg hv]
    clear hv
    subst hW
    go_enter Tryz.func22, Tryz.ntmps22
    go_wp2_with (first
      | (refine wpList_load_all rfl 38 _ rfl w.heap.size 4 38 [str v, .bool nm, .int .i64 n, str s] _ rfl G0 rfl Tryz.underlying38 rfl Tryz.iT4 ?_)
      | (refine wpList_store_all rfl 38 _ _ rfl (w.heap.size + 1) 4 _ 38 [str v, .bool nm, .int .i64 n, str s] rfl rfl H1 rfl rfl Tryz.iT4 rfl ?_; intro w3 h3 t3))
    have sB := B1.size
    refine bodyPost_ret (results_cell rfl rfl h3 Tryz.underlying38 rfl (by kernel_rfl)) rfl ⟨by rw [HR.out], ?_⟩
    exact B1.trans (t3.lower (by omega) sB)
end Go.Proofs.YtefajadolgmpdaaGreatDoor
