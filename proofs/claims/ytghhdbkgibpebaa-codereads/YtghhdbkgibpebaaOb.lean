/-
  A row of bytes of the call's own, nil or not, that grows.
-/
import Derived.Test.YtghhdbkgibpebaaRw
import Derived.Test.YtghhdbkgibpebaaPutEx
import Derived.Test.YtghhdbkgibpebaaStepAppend
namespace Go.Proofs.Ytghhdbkgibpebaa
open Go.RowKit Go.Sort

/-- a row of bytes of the call's own, nil or not -/
def OwnB (w : World) (base : Nat) (v : Value) (l : List UInt8) : Prop := w.ownsRow base 5 1 v l.length (cs l)
theorem OwnB.nil (w : World) (base : Nat) : OwnB w base (.slice none 0 0) [] := ⟨rfl, .inl ⟨rfl, rfl⟩⟩
theorem OwnB.of_own {w : World} {base g n cap : Nat} {l : List UInt8} (h : Own w base g n cap l) : OwnB w base (.slice (some ⟨g, 0, none⟩) n cap) l := by
  have := h.len; subst this; exact h
theorem OwnB.keep {w w' : World} {base : Nat} {v : Value} {l : List UInt8} (h : OwnB w base v l) (hs : Safe 5 w w') : OwnB w' base v l := ownsRow_keep h hs
theorem OwnB.below {w w' : World} {base : Nat} {v : Value} {l : List UInt8} (h : OwnB w base v l) (hb : Below w.heap.size w w') : OwnB w' base v l := h.keep (Safe.below hb)
theorem OwnB.holds {w : World} {base : Nat} {v : Value} {l : List UInt8} (h : OwnB w base v l) : ∃ a c, v = .slice a l.length c ∧ Holds w a c l ∧ ∀ ad, a = some ad → base ≤ ad.block := by
  rcases h.2 with ⟨hv, h0⟩ | ⟨g, cap, cur, hv, hb, hg, hnc, hcm, hcs, ht⟩
  · have : l = [] := List.eq_nil_of_length_eq_zero h0
    subst this
    exact ⟨none, 0, hv, Holds.nil w, fun _ h => by cases h⟩
  · have ho : Own w base g l.length cap l := ⟨h.1, .inr ⟨g, cap, cur, rfl, hb, hg, hnc, hcm, hcs, ht⟩⟩
    exact ⟨some ⟨g, 0, none⟩, cap, hv, ho.holds, fun ad ha => by cases ha; exact hb⟩
theorem OwnB.ownBlock {w : World} {base : Nat} {v : Value} {l : List UInt8} (h : OwnB w base v l) : ∀ k, v.ownBlock = some k → base ≤ k := fun k hk => by
  rcases h.2 with ⟨h0, _⟩ | ⟨g, cap, cur, hv, hb, _⟩
  · rw [h0] at hk; cases hk
  · rw [hv] at hk; cases hk; exact hb
theorem OwnB.lower {w : World} {base base' : Nat} {v : Value} {l : List UInt8} (h : OwnB w base v l) (hb : base' ≤ base) : OwnB w base' v l := by
  refine ⟨h.1, ?_⟩
  rcases h.2 with h0 | ⟨g, cap, cur, hv, hb', r⟩
  · exact .inl h0
  · exact .inr ⟨g, cap, cur, hv, Nat.le_trans hb hb', r⟩

/-- what lay below base is as it was, and what is no row of bytes, too -/
structure Grows (base : Nat) (w w' : World) : Prop where
  below : Below base w w'
  calm : ∀ (k : Nat) (C : Array Value) (ty : TypeId), w.heap[k]? = some (.cells C ty) → ty ≠ 5 → w'.heap[k]? = some (.cells C ty)
theorem Grows.refl (base : Nat) (w : World) : Grows base w w := ⟨Below.refl _ _, fun _ _ _ h _ => h⟩
theorem Grows.trans {base : Nat} {a b c : World} (x : Grows base a b) (y : Grows base b c) : Grows base a c := ⟨x.below.trans y.below, fun k C ty h hn => y.calm k C ty (x.calm k C ty h hn) hn⟩
theorem Grows.of_below {base : Nat} {w w' : World} (h : Below w.heap.size w w') (hb : base ≤ w.heap.size) : Grows base w w' := ⟨h.mono hb, fun _ _ _ hk _ => below_heap h hk⟩
theorem Grows.grown {base : Nat} {w w' : World} {v : Value} {l : List UInt8} (hown : OwnB w base v l) (hg : w.grownBy w' v.ownBlock) (hbase : base ≤ w.heap.size) : Grows base w w' :=
  ⟨(Below.refl _ _).grown hg hbase hown.ownBlock, fun k C _ hk hn => Safe.grown hown hg hn k C hk⟩
theorem Grows.size {base : Nat} {w w' : World} (h : Grows base w w') : w.heap.size ≤ w'.heap.size := h.below.size
theorem Grows.cell {base : Nat} {w w' : World} (h : Grows base w w') {k : Nat} {C : Array Value} {ty : TypeId} (hk : w.heap[k]? = some (.cells C ty)) (hn : ty ≠ 5) (j : Nat) {u : Value} (hu : C[j]? = some u) : w'.cell? ⟨k, j, none⟩ = some u := by
  rw [heap_cell (h.calm k C ty hk hn)]; exact hu

theorem run_ob {w : World} {base : Nat} {v : Value} {l m : List UInt8} {ao : Option Addr} {c : Nat} {ops : Array Oper} {rest : List Oper} {o : Oper} {a : Act} {Q : Exit → Act → World → Prop} (hgd : o.guard = none) (s x : Operand)
    (ho : o.op = .call { callee := .builtin .append, args := #[s, x], argTypes := #[25, 25] })
    (hs : a.eval s = v) (hown : OwnB w base v l) (n : Nat) (hx : a.eval x = .slice ao n c) (hn : m.length = n) (hl : Holds w ao c m) (hbase : base ≤ w.heap.size) (hb : (l ++ m).length ≤ 140737488355328)
    (h : ∀ v' w', OwnB w' base v' (l ++ m) → Grows base w w' → wpList Try.prog ops Q rest (a.put o.dst v') w') : wpList Try.prog ops Q (o :: rest) a w := by
  obtain ⟨i0, hi, hz0, hz1, hz2⟩ := info_parts Try.infoU8
  subst hn
  rw [List.length_append] at hb
  cases ao with
  | none =>
    obtain ⟨rfl, rfl⟩ := hl.2.1 rfl
    refine wpList_append_own_none hgd s x 25 ho base 5 i0 1 Try.underlying25 hi _ l.length (cs l) hs hown hx ?_
    have := h v w (by simpa using hown) (Grows.refl _ _)
    exact this
  | some ad =>
    refine wpList_append_own w hgd s x 25 ho base 5 i0 (.int .u8 0) 1 1 Try.underlying25 hi hz0 hz1 hz2 rfl (by decide) _ l.length (cs l) hs hown ad m.length c (cs m) hx (by rw [cs_length]; omega) (hl.2.2 ad rfl) (cs_one m) (by unfold maxLen; omega) (by omega) hbase ?_
    intro v' w' ho' hg' hn'
    exact h v' w' (by unfold OwnB; rw [cs_append, List.length_append]; exact ho') (Grows.grown hown hg' hbase)

theorem step_ob {w : World} {ops : Array Oper} {o : Oper} {a : Act} {K : Act → World → Prop} {Q : Exit → Act → World → Prop} {E : Prop} (hgw : Region.wanted o (yielded ops a.tmps) = true) (s x : Operand)
    (ho : o.op = .call { callee := .builtin .append, args := #[s, x], argTypes := #[25, 25] })
    (base : Nat) (v : Value) (l m : List UInt8) (ad : Addr) (n c : Nat) (hs : a.eval s = v) (hown : OwnB w base v l) (hx : a.eval x = .slice (some ad) n c) (hn : m.length = n) (hl : Holds w (some ad) c m) (hbase : base ≤ w.heap.size) (hb : (l ++ m).length ≤ 140737488355328)
    (h : ∀ v' w', OwnB w' base v' (l ++ m) → Grows base w w' → K (a.put o.dst v') w') :
    if Region.wanted o (yielded ops a.tmps) = true then Oper.wp Try.prog o a w K Q else E := by
  rw [if_pos hgw]
  obtain ⟨i0, hi, hz0, hz1, hz2⟩ := info_parts Try.infoU8
  subst hn
  rw [List.length_append] at hb
  refine wp_append_own w s x 25 ho base 5 i0 (.int .u8 0) 1 1 Try.underlying25 hi hz0 hz1 hz2 rfl (by decide) _ l.length (cs l) hs hown ad m.length c (cs m) hx (by rw [cs_length]; omega) (hl.2.2 ad rfl) (cs_one m) (by unfold maxLen; omega) (by omega) hbase ?_
  intro v' w' ho' hg' hn'
  exact h v' w' (by unfold OwnB; rw [cs_append, List.length_append]; exact ho') (Grows.grown hown hg' hbase)
/-- a cell in another block than the row's is kept -/
theorem cell_grownBy {w w' : World} {row : Option Nat} {p : Addr} {u : Value} (hg : w.grownBy w' row) (hc : w.cell? p = some u) (hne : some p.block ≠ row) : w'.cell? p = some u := by
  rw [World.cell?_of_block (w := w) (hg.block p.block (cell_block hc) hne)]; exact hc
end Go.Proofs.Ytghhdbkgibpebaa
