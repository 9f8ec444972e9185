/-
  A row of bytes of the call's own, nil or not, and what lies below other memory.
-/
import Derived.Test.YtekhenglepeaaaaDoorOwn2
namespace Go.Proofs.YtekhenglepeaaaaDoor
open Go.RowKit

/-- a row of the call's own, of bytes; it may be nil -/
abbrev OwnV (w : World) (base : Nat) (v : Value) (n : Nat) (l : List UInt8) : Prop := w.ownsRow base 5 1 v n (cs l)
theorem OwnV.len {w : World} {base n : Nat} {v : Value} {l : List UInt8} (h : OwnV w base v n l) : l.length = n := by
  have := h.1; rw [cs_length] at this; omega
theorem OwnV.form {w : World} {base n : Nat} {v : Value} {l : List UInt8} (h : OwnV w base v n l) : ∃ ao cap, v = .slice ao n cap ∧ Holds w ao cap l ∧ ∀ ad, ao = some ad → base ≤ ad.block := by
  rcases h.2 with ⟨h0, hn⟩ | ⟨g, cap, cur, hv, hbg, hg, hnc, hcm, hcs, htake⟩
  · subst h0 hn
    have hl : l = [] := List.eq_nil_of_length_eq_zero h.len
    subst hl
    exact ⟨none, 0, rfl, Holds.nil w, fun _ h => by cases h⟩
  · subst hv
    exact ⟨some ⟨g, 0, none⟩, cap, rfl, Own.holds (base := base) h, fun _ h => by cases h; exact hbg⟩
theorem OwnV.but {h : Nat} {w w' : World} {base n : Nat} {v : Value} {l : List UInt8} (x : But h w w') (hb : h < base) (o : OwnV w base v n l) : OwnV w' base v n l := by
  refine ⟨o.1, ?_⟩
  rcases o.2 with h0 | ⟨g, cap, cur, hv, hbg, hg, hnc, hcm, hcs, htake⟩
  · exact .inl h0
  · have hs : g < w.heap.size := (Array.getElem?_eq_some_iff.1 hg).1
    exact .inr ⟨g, cap, cur, hv, hbg, by rw [x.block g hs (by omega)]; exact hg, hnc, hcm, hcs, htake⟩
theorem OwnV.after {w w' : World} {base n : Nat} {v : Value} {l : List UInt8} (hb : Below w.heap.size w w') (o : OwnV w base v n l) : OwnV w' base v n l := by
  refine ⟨o.1, ?_⟩
  rcases o.2 with h0 | ⟨g, cap, cur, hv, hbg, hg, hnc, hcm, hcs, htake⟩
  · exact .inl h0
  · have hs : g < w.heap.size := (Array.getElem?_eq_some_iff.1 hg).1
    exact .inr ⟨g, cap, cur, hv, hbg, by rw [hb.block g hs]; exact hg, hnc, hcm, hcs, htake⟩

/-- append(row, bytes...), the row nil or the call's own -/
theorem wpList_append_row (w : World) {ops : Array Oper} {rest : List Oper} {o : Oper} {a : Act} {Q : Exit → Act → World → Prop} (hgd : o.guard = none) (s x : Operand)
    (ho : o.op = .call { callee := .builtin .append, args := #[s, x], argTypes := #[22, 22] })
    (base n : Nat) (v : Value) (xs l : List UInt8) (ao : Option Addr) (m c : Nat) (hs : a.eval s = v) (hown : OwnV w base v n xs) (hx : a.eval x = .slice ao m c) (hm : l.length = m) (hl : Holds w ao c l)
    (hw : base ≤ w.heap.size) (hb : n + m ≤ 140737488355328)
    (h : ∀ v' w', OwnV w' base v' (n + m) (xs ++ l) → Below base w w' → wpList Tryd.prog ops Q rest (a.put o.dst v') w') : wpList Tryd.prog ops Q (o :: rest) a w := by
  obtain ⟨i0, hi, hz0, hz1, hz2⟩ := info_parts Tryd.infoU8
  subst hm
  have hblk : ∀ k, v.ownBlock = some k → base ≤ k := fun k hk => by
    rcases hown.2 with ⟨h0, _⟩ | ⟨g, cap, cur, hv, hbg, _⟩
    · subst h0; cases hk
    · subst hv; cases hk; exact hbg
  cases ao with
  | none =>
    obtain ⟨rfl, rfl⟩ := hl.2.1 rfl
    refine wpList_append_own_none hgd s x 22 ho base 5 i0 1 Tryd.underlying22 hi v n (cs xs) hs hown hx ?_
    have := h v w (by simpa using hown) (Below.refl _ _)
    simpa using this
  | some ad =>
    refine wpList_append_own w hgd s x 22 ho base 5 i0 (.int .u8 0) 1 1 Tryd.underlying22 hi hz0 hz1 hz2 rfl (by decide) v n (cs xs) hs hown ad l.length c (cs l) hx (by rw [cs_length]; omega) (hl.2.2 ad rfl) (cs_one l) (by unfold maxLen; omega) (by omega) hw ?_
    intro v' w' ho' hg' _
    have hbel : Below base w w' := (Below.refl _ _).grown hg' hw hblk
    exact h v' w' (by unfold OwnV; rw [cs_append]; exact ho') hbel


theorem OwnV.alloc' {w : World} {base n : Nat} {v : Value} {l : List UInt8} (o : OwnV w base v n l) (ob : Obj) : OwnV (w.alloc ob) base v n l := o.after (below_alloc w ob)

theorem Holds.lower {w w' : World} {a : Option Addr} {c B : Nat} {l : List UInt8} (h : Holds w a c l) (hb : Below B w w') (hlt : ∀ ad, a = some ad → 0 < l.length → ad.block < B) : Holds w' a c l :=
  ⟨h.1, h.2.1, fun ad ha j u hu => by
    have hc := h.2.2 ad ha j u hu
    have hj : 0 < l.length := by have := (List.getElem?_eq_some_iff.1 hu).1; rw [cs_length] at this; omega
    have hk : (ad.add j).block = ad.block := by unfold Addr.add; split <;> rfl
    rw [hb.cell (by rw [hk]; exact hlt ad ha hj)]
    exact hc⟩
theorem rangeAt_lower {w w' : World} {g o B : Nat} {l : List Value} (h : w.rangeAt g o l) (hb : Below B w w') (hg : g < B) : w'.rangeAt g o l := fun j v hv => by
  rw [hb.cell (p := ⟨g, o + j, none⟩) hg]
  exact h j v hv
end Go.Proofs.YtekhenglepeaaaaDoor
