/-
  A new list of constants out of another one.
-/
import Derived.Test.YtdlhleblolcjpabMk
namespace Go.Proofs.Ytdlhleblolcjpab
open Go.RowKit Go.Sort

theorem ownsArgs_empty (w : World) : (w.alloc (.cells #[] 27)).ownsRow w.heap.size 27 3 (.slice (some ⟨w.heap.size, 0, none⟩) 0 0) 0 (kcells []) :=
  ⟨rfl, .inr ⟨w.heap.size, 0, #[], rfl, Nat.le_refl _, heap_alloc_new w _, Nat.le_refl _, Nat.zero_le _, rfl, rfl⟩⟩

/-- append([]Const{}, args...) -/
theorem wpList_append_ks0 (w : World) {ops : Array Oper} {rest : List Oper} {o : Oper} {a : Act} {Q : Exit → Act → World → Prop} (hgd : o.guard = none) (s x : Operand)
    (ho : o.op = .call { callee := .builtin .append, args := #[s, x], argTypes := #[22, 22] })
    (base : Nat) (v : Value) (ks : List K) (ao : Option Addr) (c : Nat) (hs : a.eval s = v) (hown : w.ownsRow base 27 3 v 0 (kcells [])) (hx : a.eval x = .slice ao ks.length c) (hl : ArgsAt w ao c ks) (hbase : base ≤ w.heap.size)
    (h : ∀ a' c' w', ArgsAt w' a' c' ks → (∀ ad, a' = some ad → base ≤ ad.block) → (∀ ad, a' = some ad → ∃ cur : Array Value, w'.heap[ad.block]? = some (.cells cur 27)) → Below base w w' → wpList Try.prog ops Q rest (a.put o.dst (.slice a' ks.length c')) w') : wpList Try.prog ops Q (o :: rest) a w := by
  obtain ⟨i0, hi, hz0, hz1, hz2⟩ := info_parts Try.infoK
  cases ao with
  | none =>
    obtain ⟨rfl, rfl⟩ := hl.void rfl
    obtain ⟨a', c', rfl, hA, hF⟩ := own_args (ks := []) hown (by simp)
    exact wpList_append_own_none hgd s x 22 ho base 27 i0 3 Try.underlying22 hi _ 0 (kcells []) hs hown hx (by rw [hs] at *; exact h a' c' w hA hF (own_args_tag hown) (Below.refl _ _))
  | some ad =>
    have hf := hl.few
    refine wpList_append_own w hgd s x 22 ho base 27 i0 _ 3 32 Try.underlying22 hi hz0 hz1 hz2 rfl (by decide) _ 0 (kcells []) hs hown ad ks.length c (kcells ks) hx (kcells_len ks) (hl.cells ad rfl) (kcells_one ks) (by unfold maxLen; omega) (by omega) hbase ?_
    intro v' w' ho' hg' hn'
    have hbel : Below base w w' := (Below.refl _ _).grown hg' hbase (fun k hk => by
      rcases hown.2 with ⟨h0, _⟩ | ⟨g', c', cur, hv, hgg, _⟩
      · rw [h0] at hk; cases hk
      · rw [hv] at hk; cases hk; exact hgg)
    have ho2 : w'.ownsRow base 27 3 v' (0 + ks.length) (kcells ks) := by simpa [kcells] using ho'
    obtain ⟨a', c', rfl, hA, hF⟩ := own_args (ks := ks) ho2 hf
    exact h a' c' w' hA hF (own_args_tag ho2) hbel

end Go.Proofs.Ytdlhleblolcjpab
