/-
  A fact with Args of its own: slices.Clone of constants, table.clone.
-/
import Derived.Test.YtomiefhfkdfgbaaNw15
namespace Go.Proofs.Ytomiefhfkdfgbaa
open Go.RowKit Go.Sort

theorem ownsK_none (w : World) : (w.alloc (.cells #[] 50)).ownsRow w.heap.size 50 kK.k (.slice (some ⟨w.heap.size, 0, none⟩) 0 0) ([] : List K).length (([] : List K).flatMap kK.enc) :=
  ⟨rfl, .inr ⟨w.heap.size, 0, #[], rfl, Nat.le_refl _, heap_alloc_new w _, Nat.le_refl _, Nat.zero_le _, rfl, rfl⟩⟩
set_option maxRecDepth 100000 in
set_option maxHeartbeats 1000000 in
theorem kclone_at (a : Option Addr) (c : Nat) (ks : List K) (w : World) (h : Row kK w a c ks) (hf : ks.length ≤ 900000) :
    Calls Try.prog 55 #[.slice a ks.length c] w fun e w' => ∃ a' c', e = .returned (.slice a' ks.length c') ∧ RowT kK 50 w' a' c' ks ∧ (∀ ad, a' = some ad → w.heap.size ≤ ad.block) ∧ Below w.heap.size w w' := by
  have hnil : ∀ (w : World) (a : Option Addr) (n c : Nat), (binOp .eql 32 (.slice a n c) (.slice none 0 0)).run Try.prog w = .ok (.bool a.isNone) w := fun w a n c => Lib.run_eql_slice_nil w 32 _ a n c 0 0 Try.underlying32
  cases a with
  | none =>
    obtain ⟨rfl, rfl⟩ := h.void rfl
    go_enter Try.func55, Try.ntmps55
    go_wp2_with fail
    go_ret
    exact ⟨none, 0, rfl, RowT.nil _ _ w, (fun _ h => by cases h), Below.refl _ _⟩
  | some ad =>
    have hb := below_alloc w (.cells #[] 50)
    have h2 := h.below hb (Nat.le_refl _)
    have ho := ownsK_none w
    have hS := hb.size
    go_enter Try.func55, Try.ntmps55
    go_wp2_with (at_builtin; refine wpList_append_rec kK _ rfl _ _ 32 50 rfl _ 32 Try.underlying32 Try.infoK rfl (by decide) w.heap.size (.slice (some ⟨w.heap.size, 0, none⟩) 0 0) [] ks (some ad) ks.length c rfl ho rfl rfl h2 hS (by simp only [List.length_nil]; omega) ?ap)
    case ap =>
      intro v' w3 ho3 hg3
      have hb3 : Below w.heap.size w w3 := hb.trans ((Below.refl w.heap.size _).grown hg3 hS (fun k hk => by simp [Value.ownBlock] at hk; omega))
      obtain ⟨a', c', rfl, hr, hf'⟩ := own_row (D := kK) (xs := [] ++ ks) ho3 (by simp only [List.nil_append]; omega)
      clear ho3 hg3
      go_wp2_with fail
      go_ret
      exact ⟨a', c', rfl, hr, hf', hb3⟩

set_option maxRecDepth 100000 in
set_option maxHeartbeats 1000000 in
/-- a fact with Args of its own -/
theorem tcopy_at (x : Fv) (w : World) (hx : Fv.At w x) (hf : x.ks.length ≤ 900000) : Calls Try.prog 35 #[x.val] w fun e w' => ∃ a c, e = .returned (Fv.val { x with a := a, cap := c }) ∧ RowT kK 50 w' a c x.ks ∧ (∀ ad, a = some ad → w.heap.size ≤ ad.block) ∧ Below w.heap.size w w' := by
  have iF : (Try.prog.info? 34).map (·.size) = some 4 := by kernel_rfl
  have iA : (Try.prog.info? 32).map (·.size) = some 1 := by kernel_rfl
  have TF := Try.underlying34
  obtain ⟨x1, x2, x3, xa, xc, xk⟩ := x
  have hx : ArgsAt w xa xc xk := hx
  obtain ⟨w2, hw2⟩ : ∃ w2, w2 = (w.alloc (.cells #[str x1, str x2, str x3, .slice xa xk.length xc] 34)).alloc (.cells #[.string { data := #[] }, .string { data := #[] }, .string { data := #[] }, .slice none 0 0] 34) := ⟨_, rfl⟩
  have hb2 : Below w.heap.size w w2 := by rw [hw2]; exact (below_alloc _ _).alloc (by simp) _
  have hC := kclone_at xa xc xk w2 (args_row (hx.below hb2 (Nat.le_refl _))) hf
  have h12 := heap_alloc2 w (.cells #[str x1, str x2, str x3, .slice xa xk.length xc] 34) (.cells #[.string { data := #[] }, .string { data := #[] }, .string { data := #[] }, .slice none 0 0] 34)
  rw [← hw2] at h12
  obtain ⟨h1, h2⟩ := h12
  have c3 := heap_cell h1 3
  simp at c3
  clear hx
  go_enter Try.func35, Try.ntmps35
  go_wp2_with fail
  try rw [← hw2]
  refine hC.mono ?_
  rintro e w3 ⟨a', c', rfl, hr, hn, hb3⟩
  have h13 := below_heap hb3 h1
  have h23 := below_heap hb3 h2
  have hb03 := Below.then hb2 hb3
  go_wp2_with (first
    | (refine wpList_store_cel rfl 32 _ _ rfl w.heap.size 3 4 34 (.slice a' xk.length c') #[str x1, str x2, str x3, .slice a' xk.length c'] rfl rfl (by with_reducible exact h13) rfl (by omega) iA rfl rfl ?_; intro w4 h14 d4; have h24 := d4.heap (by omega) h23)
    | (refine wpList_load_all rfl 34 _ rfl w.heap.size 4 34 [str x1, str x2, str x3, .slice a' xk.length c'] _ rfl (by with_reducible exact h14) rfl TF rfl iF ?_)
    | (refine wpList_store_all rfl 34 _ _ rfl (w.heap.size + 1) 4 _ 34 [str x1, str x2, str x3, .slice a' xk.length c'] rfl rfl h24 rfl rfl iF rfl ?_; intro w5 h25 d5))
  have q4 : Below w.heap.size w w4 := hb03.trans (d4.lower (Nat.le_refl _) hb03.size)
  have q5 : Below w.heap.size w w5 := q4.trans (d5.lower (by omega) q4.size)
  have hr4 : RowT kK 50 w4 a' c' xk := hr.safe (Safe.but d4 h13 (by decide))
  have hr5 : RowT kK 50 w5 a' c' xk := hr4.safe (Safe.but d5 h24 (by decide))
  refine bodyPost_ret (results_row (b := w.heap.size + 1) (o := 0) (cs := fv ⟨x1, x2, x3, a', c', xk⟩) rfl rfl ?_ Try.underlying34 rfl (by kernel_rfl)) rfl ⟨a', c', rfl, hr5, fun ad ha => Nat.le_trans hb2.size (hn ad ha), q5⟩
  exact World.rangeAt_of_block h25 0 4
end Go.Proofs.Ytomiefhfkdfgbaa
