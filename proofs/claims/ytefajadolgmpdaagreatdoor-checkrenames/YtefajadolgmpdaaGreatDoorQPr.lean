/-
  What is known of rules that were parsed; what an error is not.
-/
import Derived.Test.YtefajadolgmpdaaGreatDoorQPi
import Derived.Test.YtefajadolgmpdaaGreatDoorQSj
import Derived.Test.YtefajadolgmpdaaGreatDoorQLs9
namespace Go.Proofs.YtefajadolgmpdaaGreatDoor
open Go.RowKit Go.Lib Go.Shelf

theorem RowsAt.none {w : World} {u : Value} (h : RowsAt w [] u) : ∃ a c, u = .slice a 0 c := by
  obtain ⟨a, c, xs, rfl, h1, _⟩ := h
  have : xs = [] := List.map_eq_nil_iff.1 h1
  subst this
  exact ⟨a, c, rfl⟩
theorem RowsAt.len {w : World} {l : List Ru} {u : Value} (h : RowsAt w l u) : ∃ a c, u = .slice a l.length c := by
  obtain ⟨a, c, xs, rfl, h1, _⟩ := h
  exact ⟨a, c, by rw [← h1, List.length_map]⟩
theorem prog_err_ne {l : List UInt8} {p : Nat} {e : Int} (h : Ps.prog l = .error (p, e)) : e ≠ 0 := by
  unfold Ps.prog at h
  cases ha : Lx.ans l with
  | error x =>
    rw [ha] at h
    obtain ⟨x1, x2⟩ := x
    cases h
    exact (Lx.ans_err ha).2
  | ok L =>
    rw [ha] at h
    have := (Ps.rules_told h).2
    simp only at this
    omega
end Go.Proofs.YtefajadolgmpdaaGreatDoor

/-
  What Program answers, where the mathematics' answer is known.
-/
namespace Go.Proofs.YtefajadolgmpdaaGreatDoor
open Go.RowKit Go.Lib Go.Shelf

theorem pprog_ok {l : List UInt8} {r : List Ru} (hp : Ps.prog l = .ok r) (w : World) (hr : l.length ≤ 281474976710656) (hL : Laid w) :
    Calls Tryz.prog 15 #[str l] w fun e w' => (∃ a c, e = .returned (.tuple #[.slice a r.length c, .int .i64 0, .int .i64 0]) ∧ RowsAt w' r (.slice a r.length c)) ∧ Below w.heap.size w w' := by
  refine (pprogram_at l w hr hL).mono ?_
  rintro e w' ⟨⟨u, rfl, hu⟩, hb⟩
  rw [hp] at hu ⊢
  obtain ⟨a, c, rfl⟩ := hu.len
  exact ⟨⟨a, c, rfl, hu⟩, hb⟩
theorem pprog_err {l : List UInt8} {p : Nat} {er : Int} (hp : Ps.prog l = .error (p, er)) (w : World) (hr : l.length ≤ 281474976710656) (hL : Laid w) :
    Calls Tryz.prog 15 #[str l] w fun e w' => (∃ a c, e = .returned (.tuple #[.slice a 0 c, .int .i64 (p : Int), .int .i64 er]) ∧ RowsAt w' [] (.slice a 0 c)) ∧ Below w.heap.size w w' := by
  refine (pprogram_at l w hr hL).mono ?_
  rintro e w' ⟨⟨u, rfl, hu⟩, hb⟩
  rw [hp] at hu ⊢
  obtain ⟨a, c, rfl⟩ := hu.none
  exact ⟨⟨a, c, rfl, hu⟩, hb⟩
theorem pprog_any (l : List UInt8) (w : World) (hr : l.length ≤ 281474976710656) (hL : Laid w) :
    Calls Tryz.prog 15 #[str l] w fun e w' => (∃ a c, e = .returned (.tuple #[.slice a (Ps.rs (Ps.prog l)).length c, .int .i64 (Ps.place (Ps.prog l) : Int), .int .i64 (Ps.err (Ps.prog l))]) ∧ RowsAt w' (Ps.rs (Ps.prog l)) (.slice a (Ps.rs (Ps.prog l)).length c)) ∧ Below w.heap.size w w' := by
  refine (pprogram_at l w hr hL).mono ?_
  rintro e w' ⟨⟨u, rfl, hu⟩, hb⟩
  obtain ⟨a, c, rfl⟩ := hu.len
  exact ⟨⟨a, c, rfl, hu⟩, hb⟩
theorem prog_ans {l : List UInt8} {r : List Ru} (h : Ps.prog l = .ok r) : ∃ L, Lx.ans l = .ok L := by
  unfold Ps.prog at h
  cases ha : Lx.ans l with
  | error x => rw [ha] at h; cases h
  | ok L => exact ⟨L, rfl⟩
end Go.Proofs.YtefajadolgmpdaaGreatDoor

/-
  Rules that a text was parsed as.
-/
namespace Go.Proofs.YtefajadolgmpdaaGreatDoor
open Go.RowKit Go.Lib Go.Shelf

/-- rules that a text was parsed as: told by a slice of that many -/
theorem RowsAt.rws {w : World} {l : List Ru} {a : Option Addr} {n c : Nat} (h : RowsAt w l (.slice a n c)) : ∃ xs : List Rv, xs.length = n ∧ xs.map Rv.r = l ∧ Rws w a c xs := by
  obtain ⟨a', c', xs, h1, h2, h3⟩ := h.weak
  simp only [Value.slice.injEq] at h1
  obtain ⟨rfl, rfl, rfl⟩ := h1
  exact ⟨xs, rfl, h2, h3⟩
theorem map_in {xs : List Rv} {l : List Ru} (he : xs.map Rv.r = l) (h : ∀ r ∈ l, Sh.RIn r) : ∀ x ∈ xs, Sh.RIn x.r := fun x hx => h _ (by rw [← he]; exact List.mem_map_of_mem hx)

end Go.Proofs.YtefajadolgmpdaaGreatDoor
