/-
  What is known of rules that were parsed; what an error is not.
-/
import Derived.Test.YtcncmpgababfjaaDoorQPi
namespace Go.Proofs.YtcncmpgababfjaaDoor
open Go.RowKit Go.Lib Go.Shelf

theorem RowsAt.none {w : World} {u : Value} (h : RowsAt w [] u) : ∃ a c, u = .slice a 0 c := by
  obtain ⟨a, c, xs, rfl, h1, _⟩ := h
  have : xs = [] := List.map_eq_nil_iff.1 h1
  subst this
  exact ⟨a, c, rfl⟩
theorem RowsAt.len {w : World} {l : List Ru} {u : Value} (h : RowsAt w l u) : ∃ a c, u = .slice a l.length c := by
  obtain ⟨a, c, xs, rfl, h1, _⟩ := h
  exact ⟨a, c, by rw [← h1, List.length_map]⟩
theorem prog_err_ne {l : List UInt8} {p : Nat} {e : Int} (h : Ps.prog l = .error (p, e)) : e ≠ 0 := by
  unfold Ps.prog at h
  cases ha : Lx.ans l with
  | error x =>
    rw [ha] at h
    obtain ⟨x1, x2⟩ := x
    cases h
    exact (Lx.ans_err ha).2
  | ok L =>
    rw [ha] at h
    have := (Ps.rules_told h).2
    simp only at this
    omega
end Go.Proofs.YtcncmpgababfjaaDoor
