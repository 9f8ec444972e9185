/-
  TableNone: a table that no call made has nothing.
-/
import Derived.Test.YtomiefhfkdfgbaaLv15
import Derived.Test.YtomiefhfkdfgbaaOf15
import Derived.Test.YtomiefhfkdfgbaaGa15
namespace Go.Proofs.Ytomiefhfkdfgbaa
open Go.RowKit Go.Sort

/-- no table that New made -/
def NoT (W : World) (t : Value) : Prop := t = nilp ∨ ∃ (b : Nat) (s : Value), t = ptr b ∧ W.heap[b]? = some (.cells #[.int .i64 0, s] 66)
theorem NoT.below {W W' : World} {t : Value} (h : NoT W t) (hb : Below W.heap.size W W') : NoT W' t := by
  rcases h with h | ⟨b, s, h1, h2⟩
  · exact .inl h
  · exact .inr ⟨b, s, h1, below_heap hb h2⟩
theorem NoT.ptr {W : World} {t : Value} (h : NoT W t) : ∃ q, t = .pointer q := by
  rcases h with h | ⟨b, _, h1, _⟩
  · exact ⟨_, h⟩
  · exact ⟨_, h1⟩
theorem fromNew_no (t : Value) (W : World) (h : NoT W t) : Calls Try.prog 32 #[t] W fun e w' => e = .returned (.bool false) ∧ W = w' := by
  rcases h with rfl | ⟨b, s, rfl, h⟩
  · exact fromNew_nil W
  · exact fromNew_at b 0 s W h
theorem put_no (t : Value) (x : Fv) (W : World) (h : NoT W t) : Calls Try.prog 12 #[t, x.val] W fun e w' => e = .returned (.int .i64 1) ∧ Below W.heap.size W w' := by
  have A1 := below_alloc W (.cells #[str x.at_, str x.by_, str x.pred, .slice x.a x.ks.length x.cap] 34)
  have TF := fromNew_no t _ (h.below A1)
  obtain ⟨q, rfl⟩ := h.ptr
  go_enter Try.func12, Try.ntmps12
  go_wp2_with fail
  refine TF.mono ?_
  rintro e w1 ⟨rfl, rfl⟩
  go_wp2_with fail
  go_ret
  exact ⟨rfl, A1⟩
theorem take_no (t : Value) (x : Fv) (W : World) (h : NoT W t) : Calls Try.prog 14 #[t, x.val] W fun e w' => e = .returned (.int .i64 1) ∧ Below W.heap.size W w' := by
  have A1 := below_alloc W (.cells #[str x.at_, str x.by_, str x.pred, .slice x.a x.ks.length x.cap] 34)
  have TF := fromNew_no t _ (h.below A1)
  obtain ⟨q, rfl⟩ := h.ptr
  go_enter Try.func14, Try.ntmps14
  go_wp2_with fail
  refine TF.mono ?_
  rintro e w1 ⟨rfl, rfl⟩
  go_wp2_with fail
  go_ret
  exact ⟨rfl, A1⟩
theorem thas_no (t : Value) (x : Fv) (W : World) (h : NoT W t) : Calls Try.prog 26 #[t, x.val] W fun e w' => e = .returned (.bool false) ∧ Below W.heap.size W w' := by
  have A1 := below_alloc W (.cells #[str x.at_, str x.by_, str x.pred, .slice x.a x.ks.length x.cap] 34)
  have TF := fromNew_no t _ (h.below A1)
  obtain ⟨q, rfl⟩ := h.ptr
  go_enter Try.func26, Try.ntmps26
  go_wp2_with fail
  refine TF.mono ?_
  rintro e w1 ⟨rfl, rfl⟩
  go_wp2_with fail
  go_ret
  exact ⟨rfl, A1⟩
theorem len_no (t : Value) (W : World) (h : NoT W t) : Calls Try.prog 25 #[t] W fun e w' => e = .returned (.int .i64 0) ∧ W = w' := by
  rcases h with rfl | ⟨b, s, rfl, h⟩
  · exact len_nil W
  · exact len_zero b s W h
theorem clone_no (t : Value) (W : World) (h : NoT W t) : Calls Try.prog 16 #[t] W fun e w' => e = .returned nilp ∧ W = w' := by
  rcases h with rfl | ⟨b, s, rfl, h⟩
  · exact clone_nil W
  · exact clone_zero b s W h
theorem NoT.tabV {W : World} {t : Value} (h : NoT W t) : TabV W t none 0 [] := .inr ⟨rfl, h⟩
/-- Find, where no fact is there to be asked -/
theorem find_no (t : Value) (pred : List UInt8) (place : Int) (c : K) (W : World) (h : NoT W t) :
    Calls Try.prog 23 #[t, str pred, .int .i64 place, kval c] W fun e w' => (∃ bt bi, e = .returned (.func (.func 60) #[] #[ptr bt, ptr bi]) ∧ IterAt w' bt bi none 0 [] (fun _ => true)) ∧ Below W.heap.size W w' := by
  obtain ⟨q, rfl⟩ := h.ptr
  have A1 := below_alloc W (.cells #[str pred] 9)
  obtain ⟨h2, h3, A2⟩ := boxes_two (W.alloc (.cells #[str pred] 9)) (.cells #[.int .i64 place] 3) (.cells #[.bool c.num, .int .i64 c.n, str c.s] 50)
  have A3 := Below.then A1 A2
  have V3 := (h.below A3).tabV
  clear A1 h2 h3 A2 h
  generalize hW3 : ((W.alloc (.cells #[str pred] 9)).alloc (.cells #[.int .i64 place] 3)).alloc (.cells #[.bool c.num, .int .i64 c.n, str c.s] 50) = W3 at *
  go_enter Try.func23, Try.ntmps23
  go_wp2_with fail
  try rw [hW3]
  refine (those_at q _ W3 ⟨_, _, rfl⟩).mono ?_
  rintro e w' ⟨rfl, rfl⟩
  obtain ⟨k1, k2, hb⟩ := boxes_two W3 (.cells #[.pointer q] 23) (.cells #[.func (.func 44) #[] #[ptr W.heap.size, ptr (W.heap.size + 1), ptr (W.heap.size + 1 + 1)]] 78)
  go_wp2_with fail
  go_ret
  exact ⟨⟨_, _, rfl, ⟨_, _, _, k1, k2, V3.below hb, enters_of Try.func44 (by kernel_rfl) rfl, fun p hp => by cases hp⟩, LstAt.nil _, fun p hp => by cases hp⟩, Below.then A3 hb⟩
theorem gather_no (bt bi : Nat) (is : F → Bool) (w : World) (h : IterAt w bt bi none 0 [] is) :
    Calls Try.prog 19 #[.func (.func 60) #[] #[ptr bt, ptr bi], .int .i64 (-1)] w fun e w' => (∃ a' c', e = .returned (.slice a' 0 c')) ∧ Below w.heap.size w w' :=
  (gather_at bt bi none 0 [] is (-1) w h (by simp)).mono fun e w' ⟨⟨a', c', zs, h1, _, h3⟩, hb⟩ => ⟨⟨a', c', by
    have : zs.length = 0 := by
      have := congrArg List.length h3
      rw [List.length_map] at this
      rw [this]
      unfold cut15 told
      simp
    rw [h1, this]⟩, hb⟩
end Go.Proofs.Ytomiefhfkdfgbaa
