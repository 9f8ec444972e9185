/-
  table.New, fromNew, Len, Clone; the reference's New.
-/
import Derived.Test.YtomiefhfkdfgbaaPn15
namespace Go.Proofs.Ytomiefhfkdfgbaa
open Go.RowKit Go.Sort

abbrev nilp : Value := .pointer none
theorem fromNew_nil (w : World) : Calls Try.prog 32 #[nilp] w fun e w' => e = .returned (.bool false) ∧ w = w' := by
  go_enter Try.func32, Try.ntmps32
  go_wp2_with fail
  go_ret
  exact ⟨rfl, rfl⟩
theorem fromNew_at (b : Nat) (m : Int) (s : Value) (w : World) (h : w.heap[b]? = some (.cells #[.int .i64 m, s] 66)) : Calls Try.prog 32 #[ptr b] w fun e w' => e = .returned (.bool (decide (0 < m))) ∧ w = w' := by
  have c0 := heap_cell h 0
  simp at c0
  go_enter Try.func32, Try.ntmps32
  go_wp2_with fail
  go_ret
  exact ⟨rfl, rfl⟩
theorem new_no (m : Int) (w : World) (h : ¬ (1 ≤ m ∧ m ≤ 4096)) : Calls Try.prog 8 #[.int .i64 m] w fun e w' => e = .returned (.tuple #[nilp, .int .i64 2]) ∧ w = w' := by
  by_cases h1 : m < 1
  · go_enter Try.func8, Try.ntmps8
    go_wp2_with fail
    go_ret2
    exact ⟨rfl, rfl⟩
  · have h2 : 4096 < m := by omega
    go_enter Try.func8, Try.ntmps8
    go_wp2_with fail
    go_ret2
    exact ⟨rfl, rfl⟩
theorem new_at (m : Nat) (w : World) (h1 : 1 ≤ m) (h2 : m ≤ 4096) : Calls Try.prog 8 #[.int .i64 (m : Int)] w fun e w' => e = .returned (.tuple #[ptr w.heap.size, .int .i64 0]) ∧ TabAt w' w.heap.size m none 0 [] ∧ w' = w.alloc (.cells #[.int .i64 (m : Int), .slice none 0 0] 66) := by
  have q1 : ¬ (m : Int) < 1 := by omega
  have q2 : ¬ (4096 : Int) < (m : Int) := by omega
  go_enter Try.func8, Try.ntmps8
  go_wp2_with fail
  go_ret2
  exact ⟨rfl, ⟨heap_alloc_new w _, LstAt.nil _, List.Pairwise.nil, by simp, h1, h2, fun _ h => by cases h⟩, rfl⟩
theorem len_nil (w : World) : Calls Try.prog 25 #[nilp] w fun e w' => e = .returned (.int .i64 0) ∧ w = w' := by
  go_enter Try.func25, Try.ntmps25
  go_wp2_with fail
  refine (fromNew_nil w).mono ?_; rintro e w1 ⟨rfl, rfl⟩
  go_wp2_with fail
  go_ret
  exact ⟨rfl, rfl⟩
theorem len_zero (b : Nat) (s : Value) (w : World) (h : w.heap[b]? = some (.cells #[.int .i64 0, s] 66)) : Calls Try.prog 25 #[ptr b] w fun e w' => e = .returned (.int .i64 0) ∧ w = w' := by
  go_enter Try.func25, Try.ntmps25
  go_wp2_with fail
  refine (fromNew_at b 0 s w h).mono ?_; rintro e w1 ⟨rfl, rfl⟩
  go_wp2_with fail
  go_ret
  exact ⟨rfl, rfl⟩
theorem len_at {b m : Nat} {a : Option Addr} {cap : Nat} {ps : List Pn} (w : World) (h : TabAt w b m a cap ps) : Calls Try.prog 25 #[ptr b] w fun e w' => e = .returned (.int .i64 (ps.length : Int)) ∧ w = w' := by
  have hm : (0 : Int) < (m : Int) := by have := h.low; omega
  have hF := fromNew_at b m _ w h.cell
  have c1 := heap_cell h.cell 1
  simp at c1
  go_enter Try.func25, Try.ntmps25
  go_wp2_with fail
  refine hF.mono ?_; rintro e w1 ⟨rfl, rfl⟩
  rw [decide_eq_true hm]
  go_wp2_with fail
  go_ret
  exact ⟨rfl, rfl⟩
theorem clone_nil (w : World) : Calls Try.prog 16 #[nilp] w fun e w' => e = .returned nilp ∧ w = w' := by
  go_enter Try.func16, Try.ntmps16
  go_wp2_with fail
  refine (fromNew_nil w).mono ?_; rintro e w1 ⟨rfl, rfl⟩
  go_wp2_with fail
  go_ret
  exact ⟨rfl, rfl⟩
theorem clone_zero (b : Nat) (s : Value) (w : World) (h : w.heap[b]? = some (.cells #[.int .i64 0, s] 66)) : Calls Try.prog 16 #[ptr b] w fun e w' => e = .returned nilp ∧ w = w' := by
  go_enter Try.func16, Try.ntmps16
  go_wp2_with fail
  refine (fromNew_at b 0 s w h).mono ?_; rintro e w1 ⟨rfl, rfl⟩
  go_wp2_with fail
  go_ret
  exact ⟨rfl, rfl⟩
theorem tclone_at {b m : Nat} {a : Option Addr} {cap : Nat} {ps : List Pn} (w : World) (h : TabAt w b m a cap ps) : Calls Try.prog 16 #[ptr b] w fun e w' => ∃ b', e = .returned (ptr b') ∧ w.heap.size ≤ b' ∧ TabAt w' b' m a cap ps ∧ Below w.heap.size w w' := by
  have hm : (0 : Int) < (m : Int) := by have := h.low; omega
  have hF := fromNew_at b m _ w h.cell
  have c0 := heap_cell h.cell 0
  have c1 := heap_cell h.cell 1
  simp at c0 c1
  go_enter Try.func16, Try.ntmps16
  go_wp2_with fail
  refine hF.mono ?_; rintro e w1 ⟨rfl, rfl⟩
  rw [decide_eq_true hm]
  go_wp2_with fail
  go_region
  go_wp2_with fail
  go_ret
  have hb : Below w.heap.size w (w.drew.alloc (.cells #[.int .i64 (m : Int), .slice a ps.length cap] 66)) := ((Below.refl w.heap.size w).drew).alloc (Nat.le_refl _) _
  exact ⟨w.heap.size, rfl, Nat.le_refl _, ⟨heap_alloc_new w.drew _, h.lst.below hb, h.sorted, h.room, h.low, h.high, h.wide⟩, hb⟩
theorem rnew_no (m : Int) (w : World) (h : ¬ (1 ≤ m ∧ m ≤ 4096)) : Calls Try.prog 9 #[.int .i64 m] w fun e w' => e = .returned (.tuple #[nilp, .int .i64 2]) ∧ w = w' := by
  by_cases h1 : m < 1
  · go_enter Try.func9, Try.ntmps9
    go_wp2_with fail
    go_ret2
    exact ⟨rfl, rfl⟩
  · have h2 : 4096 < m := by omega
    go_enter Try.func9, Try.ntmps9
    go_wp2_with fail
    go_ret2
    exact ⟨rfl, rfl⟩
theorem rnew_at (m : Nat) (w : World) (h1 : 1 ≤ m) (h2 : m ≤ 4096) : Calls Try.prog 9 #[.int .i64 (m : Int)] w fun e w' => e = .returned (.tuple #[ptr w.heap.size, .int .i64 0]) ∧ w' = w.alloc (.cells #[.slice none 0 0, .int .i64 (m : Int)] 54) := by
  have q1 : ¬ (m : Int) < 1 := by omega
  have q2 : ¬ (4096 : Int) < (m : Int) := by omega
  go_enter Try.func9, Try.ntmps9
  go_wp2_with fail
  go_ret2
  exact ⟨rfl, rfl⟩
end Go.Proofs.Ytomiefhfkdfgbaa
