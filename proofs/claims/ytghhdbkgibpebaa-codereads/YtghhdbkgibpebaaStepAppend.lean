/-
  append of bytes to a row of the call's own, at a step of a region that draws its order, guarded or not.
-/
import Derived.Test.YtghhdbkgibpebaaBase
import Derived.RegionTactic
namespace Go.Proofs.Ytghhdbkgibpebaa
open Go.RowKit

theorem alloc_le (w : World) (o : Obj) : w.heap.size ≤ (w.alloc o).heap.size := by simp
theorem grown_refl (w : World) (row : Option Nat) : w.grownBy w row := ⟨rfl, rfl, rfl, Nat.le_refl _, fun _ _ _ => rfl⟩
theorem grown_below {w w' : World} {g base : Nat} (hg : w.grownBy w' (some g)) (hb : base ≤ g) (hw : base ≤ w.heap.size) : Below base w w' :=
  (Below.refl _ _).grown hg hw fun k hk => by cases hk; exact hb
theorem grown_holds {w w' : World} {g : Nat} {b o c : Nat} {l : List UInt8} (hg : w.grownBy w' (some g)) (h : Holds w (some ⟨b, o, none⟩) c l) (hne : b ≠ g) : Holds w' (some ⟨b, o, none⟩) c l :=
  ⟨h.1, h.2.1, fun ad had j u hu => by
    have hc := h.2.2 ad had j u hu
    cases had
    have hk : ((⟨b, o, none⟩ : Addr).add j).block = b := by rw [Addr.add_lit]
    have hs := cell_block hc
    rw [hk] at hs
    rw [World.cell?_of_block (w := w) (by rw [hk]; exact hg.block b hs (by simp [hne]))]
    exact hc⟩

theorem step_append_bytes {w : World} {ops : Array Oper} {o : Oper} {a : Act} {K : Act → World → Prop} {Q : Exit → Act → World → Prop} {E : Prop} (hgw : Region.wanted o (yielded ops a.tmps) = true) (s x : Operand)
    (ho : o.op = .call { callee := .builtin .append, args := #[s, x], argTypes := #[25, 25] })
    (base g n cap : Nat) (xs l : List UInt8) (ao : Option Addr) (m c k : Nat) (T : List UInt8) (hs : a.eval s = .slice (some ⟨g, 0, none⟩) n cap) (hown : Own w base g n cap xs) (hx : a.eval x = .slice ao m c) (hm : l.length = m) (hl : Holds w ao c l)
    (hk : n + m = k) (hT : xs ++ l = T) (hb : k ≤ 140737488355328)
    (h : ∀ g' cap' w', Own w' base g' k cap' T → w.grownBy w' (some g) → K (a.put o.dst (.slice (some ⟨g', 0, none⟩) k cap')) w') :
    if Region.wanted o (yielded ops a.tmps) = true then Oper.wp Try.prog o a w K Q else E := by
  rw [if_pos hgw]
  obtain ⟨i0, hi, hz0, hz1, hz2⟩ := info_parts Try.infoU8
  subst hm hk hT
  cases ao with
  | none =>
    obtain ⟨rfl, rfl⟩ := hl.2.1 rfl
    have hrun := run_append_owned_none (P := Try.prog) (w := w) base 25 o.type 5 i0 1 Try.underlying25 hi _ n (cs xs) hown
    unfold Oper.wp
    simp [execOp, ho, resolve, invoke, builtin, hs, hx, hrun, Result.andThen]
    exact h g cap w (by simpa using hown) (grown_refl _ _)
  | some ad =>
    refine wp_append_own w s x 25 ho base 5 i0 (.int .u8 0) 1 1 Try.underlying25 hi hz0 hz1 hz2 rfl (by decide) _ n (cs xs) hs hown ad l.length c (cs l) hx (by rw [cs_length]; omega) (hl.2.2 ad rfl) (cs_one l) (by unfold maxLen; omega) (by omega) hown.base_le ?_
    intro v' w' ho' hg' hn'
    rcases ho'.2 with ⟨h0, _⟩ | ⟨g', cap', cur, hv, _⟩
    · have := (hn'.1 h0).1; cases this
    · subst hv
      exact h g' cap' w' (by unfold Own; rw [cs_append]; exact ho') hg'
end Go.Proofs.Ytghhdbkgibpebaa
