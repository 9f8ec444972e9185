/-
  What the second form's bound gives: the lengths of a slice of bytes and of a text that came in.
-/
import Derived.Test.YtmgddkijheaknaaFrame
namespace Go.Proofs.Ytmgddkijheaknaa
open Go.RowKit

theorem bulk_one {H : Type} (d : DataW H) : 1 ≤ Rows.uptoBulk d := by
  cases d with
  | lit l => cases l <;> simp [Rows.uptoBulk]
  | _ => simp [Rows.uptoBulk]

theorem bulk_count {H : Type} (l : List (DataW H)) : l.length ≤ Rows.uptoBulkAll l := by
  induction l with
  | nil => simp [Rows.uptoBulkAll]
  | cons d r ih => have := bulk_one d; simp only [Rows.uptoBulkAll, List.length_cons]; omega

theorem bulk_get {H : Type} (l : List (DataW H)) (j : Nat) (d : DataW H) (h : l[j]? = some d) : Rows.uptoBulk d ≤ Rows.uptoBulkAll l := by
  induction l generalizing j with
  | nil => simp at h
  | cons x r ih =>
    simp only [Rows.uptoBulkAll]
    cases j with
    | zero => simp at h; subst h; omega
    | succ j => have := ih j (by simpa using h); omega

theorem bulk_bytes {H : Type} {ds : List (DataW H)} (hk : Rows.uptoSmall H ds = true) {j c : Nat} {l : List UInt8} {d : DataW H} {W : World} {a : Option Addr}
    (hd : ds[j]? = some d) (h : SliceDatum d c l) (hl : Holds W a c l) : l.length ≤ 1048576 := by
  have hb : Rows.uptoBulkAll ds ≤ 1048576 := of_decide_eq_true hk
  have hg := bulk_get ds j d hd
  rcases h with ⟨_, rfl⟩ | ⟨e, s, rfl, hc⟩
  · simp
  · simp only [Rows.uptoBulk] at hg
    have h1 := bulk_count e
    have h2 := bulk_count s
    have := hl.1
    omega

theorem bulk_string {H : Type} {ds : List (DataW H)} (hk : Rows.uptoSmall H ds = true) {j : Nat} {l : List UInt8}
    (hd : ds[j]? = some (.lit (.string l))) : l.length ≤ 1048576 := by
  have hb : Rows.uptoBulkAll ds ≤ 1048576 := of_decide_eq_true hk
  have hg := bulk_get ds j _ hd
  simp only [Rows.uptoBulk] at hg
  omega
end Go.Proofs.Ytmgddkijheaknaa
