/-
  Appending to one of several rows of the call's own: where the new row lies, and that the others stay.
-/
import Derived.Test.YtfpdiafedoppnaaDoorOwnV
import Derived.Test.YtfpdiafedoppnaaDoorMm
import Derived.Deep.AppendLies
namespace Go.Proofs.YtfpdiafedoppnaaDoor
open Go.RowKit

/-- append(row, bytes...), something, the row nil or the call's own, and where the new row lies -/
theorem wpList_append_apart (w : World) {ops : Array Oper} {rest : List Oper} {o : Oper} {a : Act} {Q : Exit → Act → World → Prop} (hgd : o.guard = none) (s x : Operand)
    (ho : o.op = .call { callee := .builtin .append, args := #[s, x], argTypes := #[38, 38] })
    (base n : Nat) (v : Value) (xs l : List UInt8) (ad : Addr) (m c : Nat) (hs : a.eval s = v) (hown : OwnV w base v n xs) (hx : a.eval x = .slice (some ad) m c) (hm : l.length = m) (hl : Holds w (some ad) c l) (h0 : 0 < m)
    (hw : base ≤ w.heap.size) (hb : n + m ≤ 140737488355328)
    (h : ∀ g cap w', Own w' base g (n + m) cap (xs ++ l) → w.grownBy w' v.ownBlock → (v.ownBlock = some g ∨ g = w.heap.size) → wpList Tryd.prog ops Q rest (a.put o.dst (.slice (some ⟨g, 0, none⟩) (n + m) cap)) w') : wpList Tryd.prog ops Q (o :: rest) a w := by
  obtain ⟨i0, hi, hz0, hz1, hz2⟩ := info_parts Tryd.infoU8
  subst hm
  refine wpList_append_lies w hgd s x 38 ho base 5 i0 (.int .u8 0) 1 1 Tryd.underlying38 hi hz0 hz1 hz2 rfl (by decide) v n (cs xs) hs hown ad l.length c (cs l) hx (by rw [cs_length]; omega) (hl.2.2 ad rfl) (cs_one l) h0 (by unfold maxLen; omega) (by omega) hw _ rfl ?_
  intro g cap w' h1 h2 h3 _
  exact h g cap w' (by unfold Own; rw [cs_append]; exact h1) h2 h3

/-- what is no part of that row stays, and no row lies where the new one does -/
theorem apart_step {w w' : World} {base n2 g : Nat} {v v2 : Value} {ys : List UInt8} (hg : w.grownBy w' v.ownBlock) (hat : v.ownBlock = some g ∨ g = w.heap.size) (h2 : OwnV w base v2 n2 ys) (hne : v2.ownBlock = none ∨ v2.ownBlock ≠ v.ownBlock) :
    OwnV w' base v2 n2 ys ∧ (v2.ownBlock = none ∨ v2.ownBlock ≠ some g) := by
  refine ⟨h2.kept hg hne, ?_⟩
  rcases hne with h | h
  · exact .inl h
  · rcases hat with h' | h'
    · rw [← h']; exact .inr h
    · refine .inr fun e => ?_
      have := (h2.lt g e).2
      omega
theorem below_grown {w0 w w' : World} {v : Value} {base n : Nat} {xs : List UInt8} (h : Below base w0 w) (ho : OwnV w base v n xs) (hg : w.grownBy w' v.ownBlock) (hw : base ≤ w.heap.size) : Below base w0 w' :=
  h.grown hg hw fun k hk => (ho.lt k hk).1

theorem OwnV.lower {w : World} {base base' n : Nat} {v : Value} {xs : List UInt8} (h : OwnV w base v n xs) (hb : base' ≤ base) : OwnV w base' v n xs :=
  ⟨h.1, h.2.imp id fun ⟨g, cap, cur, h1, h2, h3⟩ => ⟨g, cap, cur, h1, Nat.le_trans hb h2, h3⟩⟩

/-- the key, and what has been masked of it, in three rows of the call's own -/
structure ThreeAt (w0 : World) (K : List UInt8) (gk ck i j : Nat) (vi vo : Value) (wr : World) : Prop where
  k : Own wr w0.heap.size gk 64 ck K
  ri : OwnV wr w0.heap.size vi i (Mm.mask 54 (K.take i))
  ro : OwnV wr w0.heap.size vo j (Mm.mask 92 (K.take j))
  ik : (Value.slice (some ⟨gk, 0, none⟩) 64 ck).ownBlock = none ∨ (Value.slice (some ⟨gk, 0, none⟩) 64 ck).ownBlock ≠ vi.ownBlock
  ok : (Value.slice (some ⟨gk, 0, none⟩) 64 ck).ownBlock = none ∨ (Value.slice (some ⟨gk, 0, none⟩) 64 ck).ownBlock ≠ vo.ownBlock
  io : vi.ownBlock = none ∨ vi.ownBlock ≠ vo.ownBlock
  bel : Below w0.heap.size w0 wr
theorem ThreeAt.below {w0 wr w' : World} {K : List UInt8} {gk ck i j : Nat} {vi vo : Value} (h : ThreeAt w0 K gk ck i j vi vo wr) (hb : Below wr.heap.size wr w') : ThreeAt w0 K gk ck i j vi vo w' :=
  ⟨h.k.after hb, h.ri.after hb, h.ro.after hb, h.ik, h.ok, h.io, Below.then h.bel hb⟩
theorem own_swap {a b : Option Nat} (h : a = none ∨ a ≠ b) : b = none ∨ b ≠ a := by
  rcases h with h | h
  · cases b with
    | none => exact .inl rfl
    | some x => exact .inr (by rw [h]; simp)
  · exact .inr (Ne.symm h)
theorem ThreeAt.inner {w0 w w' : World} {K : List UInt8} {gk ck i j g c : Nat} {vi vo : Value} {x : UInt8} (h : ThreeAt w0 K gk ck i j vi vo w) (hx : Mm.mask 54 (K.take (i + 1)) = Mm.mask 54 (K.take i) ++ [x])
    (hn : Own w' w0.heap.size g (i + 1) c (Mm.mask 54 (K.take i) ++ [x])) (hg : w.grownBy w' vi.ownBlock) (hat : vi.ownBlock = some g ∨ g = w.heap.size) : ThreeAt w0 K gk ck (i + 1) j (.slice (some ⟨g, 0, none⟩) (i + 1) c) vo w' := by
  obtain ⟨k1, k2⟩ := apart_step hg hat h.k h.ik
  obtain ⟨o1, o2⟩ := apart_step hg hat h.ro (own_swap h.io)
  exact ⟨k1, by rw [hx]; exact hn, o1, k2, h.ok, own_swap o2, below_grown h.bel h.ri hg h.bel.size⟩
theorem ThreeAt.outer {w0 w w' : World} {K : List UInt8} {gk ck i j g c : Nat} {vi vo : Value} {x : UInt8} (h : ThreeAt w0 K gk ck i j vi vo w) (hx : Mm.mask 92 (K.take (j + 1)) = Mm.mask 92 (K.take j) ++ [x])
    (hn : Own w' w0.heap.size g (j + 1) c (Mm.mask 92 (K.take j) ++ [x])) (hg : w.grownBy w' vo.ownBlock) (hat : vo.ownBlock = some g ∨ g = w.heap.size) : ThreeAt w0 K gk ck i (j + 1) vi (.slice (some ⟨g, 0, none⟩) (j + 1) c) w' := by
  obtain ⟨k1, k2⟩ := apart_step hg hat h.k h.ok
  obtain ⟨o1, o2⟩ := apart_step hg hat h.ri h.io
  exact ⟨k1, o1, by rw [hx]; exact hn, h.ik, k2, o2, below_grown h.bel h.ro hg h.bel.size⟩
end Go.Proofs.YtfpdiafedoppnaaDoor
