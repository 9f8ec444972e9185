/-
  The mathematics of layer 10: a rule's variables. No program in this text.
-/
import Derived.Test.YtbahbibibpkddaaKt
namespace Go.Proofs.Ytbahbibibpkddaa
namespace Ck

abbrev Tx := List UInt8
/-- variables, and one more, if it is one -/
def wv (l : List Tx) (t : Tm) : List Tx := if t.v = [] ∨ t.v ∈ l then l else l ++ [t.v]
def wl (l : List Tx) (y : Lt) : List Tx := wv (y.args.foldl wv (wv l y.by_)) y.at_
def bnd (r : Ru) (k : Nat) : List Tx := (r.body.take k).foldl wl (wv [] r.home)
def vars (r : Ru) : List Tx := bnd r r.body.length

/-! what is bound -/
theorem wv_pre (l : List Tx) (t : Tm) : ∃ m, wv l t = l ++ m := by
  unfold wv; split
  · exact ⟨[], by simp⟩
  · exact ⟨_, rfl⟩
theorem fold_pre : ∀ (ts : List Tm) (l : List Tx), ∃ m, ts.foldl wv l = l ++ m
  | [], l => ⟨[], by simp⟩
  | t :: r, l => by
    obtain ⟨m, hm⟩ := wv_pre l t
    obtain ⟨n, hn⟩ := fold_pre r (wv l t)
    exact ⟨m ++ n, by rw [List.foldl_cons, hn, hm, List.append_assoc]⟩
theorem wl_pre (l : List Tx) (y : Lt) : ∃ m, wl l y = l ++ m := by
  obtain ⟨a, ha⟩ := wv_pre l y.by_
  obtain ⟨b, hb⟩ := fold_pre y.args (wv l y.by_)
  obtain ⟨c, hc⟩ := wv_pre (y.args.foldl wv (wv l y.by_)) y.at_
  exact ⟨a ++ (b ++ c), by unfold wl; rw [hc, hb, ha]; simp⟩
theorem bnd_succ {r : Ru} {k : Nat} (hk : k < r.body.length) : bnd r (k + 1) = wl (bnd r k) r.body[k] := by
  unfold bnd
  rw [List.take_succ_eq_append_getElem hk, List.foldl_append]; rfl
theorem bnd_pre {r : Ru} {k : Nat} (hk : k < r.body.length) : ∃ m, bnd r (k + 1) = bnd r k ++ m := by
  rw [bnd_succ hk]; exact wl_pre _ _
theorem bnd_all {r : Ru} {k : Nat} (hk : r.body.length ≤ k) : bnd r k = vars r := by
  unfold vars bnd
  rw [List.take_of_length_le hk, List.take_of_length_le (Nat.le_refl _)]
end Ck
end Go.Proofs.Ytbahbibibpkddaa
