/-
  The mathematics of layer 10: how many variables a rule has at most. No program in this text.
-/
import Derived.Test.YtbahbibibpkddaaCv
import Derived.ProofKit
namespace Go.Proofs.Ytbahbibibpkddaa
namespace Ck
/-- a rule whose variables lie within reach, of which there are few -/
structure Vok (r : Ru) : Prop where
  home : r.home.v.length ≤ maxLen
  body : ∀ y ∈ r.body, y.by_.v.length ≤ maxLen ∧ (∀ t ∈ y.args, t.v.length ≤ maxLen) ∧ y.at_.v.length ≤ maxLen
  few : r.body.length ≤ 300
  each : ∀ y ∈ r.body, y.args.length ≤ 300
theorem wv_len (L : List Tx) (t : Tm) : (wv L t).length ≤ L.length + 1 := by
  unfold wv; split
  · omega
  · simp
theorem fold_len : ∀ (ts : List Tm) (L : List Tx), (ts.foldl wv L).length ≤ L.length + ts.length
  | [], L => by simp
  | t :: r, L => by
    have h1 := wv_len L t
    have h2 := fold_len r (wv L t)
    rw [List.foldl_cons, List.length_cons]; omega
theorem wl_len (L : List Tx) (y : Lt) : (wl L y).length ≤ L.length + y.args.length + 2 := by
  unfold wl
  have h1 := wv_len L y.by_
  have h2 := fold_len y.args (wv L y.by_)
  have h3 := wv_len (y.args.foldl wv (wv L y.by_)) y.at_
  omega
theorem bnd_len {r : Ru} (h : Vok r) : ∀ k : Nat, (bnd r k).length ≤ 1 + 302 * k
  | 0 => by
    have := wv_len [] r.home
    simp only [bnd, List.take_zero, List.foldl_nil, List.length_nil] at this ⊢; omega
  | k + 1 => by
    have ih := bnd_len h k
    by_cases hk : k < r.body.length
    · rw [bnd_succ hk]
      have h1 := wl_len (bnd r k) r.body[k]
      have h2 := h.each _ (List.getElem_mem hk)
      omega
    · rw [bnd_all (by omega), ← bnd_all (k := k) (by omega)]; omega
theorem bnd_min (r : Ru) (k : Nat) : bnd r (min k r.body.length) = bnd r k := by
  rcases Nat.le_total k r.body.length with h | h
  · rw [Nat.min_eq_left h]
  · rw [Nat.min_eq_right h, bnd_all h, bnd_all (Nat.le_refl _)]
theorem bnd_all_len {r : Ru} (h : Vok r) (k : Nat) : (bnd r k).length ≤ 100000 := by
  rw [← bnd_min]
  have h1 := bnd_len h (min k r.body.length)
  have h2 := h.few
  have : min k r.body.length ≤ 300 := Nat.le_trans (Nat.min_le_right ..) h2
  omega
end Ck
end Go.Proofs.Ytbahbibibpkddaa
