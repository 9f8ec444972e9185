/-
  What Program answers, where the mathematics' answer is known.
-/
import Derived.Test.YtcncmpgababfjaaDoorQPlaces8
namespace Go.Proofs.YtcncmpgababfjaaDoor
open Go.RowKit Go.Lib Go.Shelf

theorem pprog_ok {l : List UInt8} {r : List Ru} (hp : Ps.prog l = .ok r) (w : World) (hr : l.length ≤ 281474976710656) (hL : Laid w) :
    Calls Tryd.prog 10 #[str l] w fun e w' => (∃ a c, e = .returned (.tuple #[.slice a r.length c, .int .i64 0, .int .i64 0]) ∧ RowsAt w' r (.slice a r.length c)) ∧ Below w.heap.size w w' := by
  refine (pprogram_at l w hr hL).mono ?_
  rintro e w' ⟨⟨u, rfl, hu⟩, hb⟩
  rw [hp] at hu ⊢
  obtain ⟨a, c, rfl⟩ := hu.len
  exact ⟨⟨a, c, rfl, hu⟩, hb⟩
theorem pprog_err {l : List UInt8} {p : Nat} {er : Int} (hp : Ps.prog l = .error (p, er)) (w : World) (hr : l.length ≤ 281474976710656) (hL : Laid w) :
    Calls Tryd.prog 10 #[str l] w fun e w' => (∃ a c, e = .returned (.tuple #[.slice a 0 c, .int .i64 (p : Int), .int .i64 er]) ∧ RowsAt w' [] (.slice a 0 c)) ∧ Below w.heap.size w w' := by
  refine (pprogram_at l w hr hL).mono ?_
  rintro e w' ⟨⟨u, rfl, hu⟩, hb⟩
  rw [hp] at hu ⊢
  obtain ⟨a, c, rfl⟩ := hu.none
  exact ⟨⟨a, c, rfl, hu⟩, hb⟩
theorem pprog_any (l : List UInt8) (w : World) (hr : l.length ≤ 281474976710656) (hL : Laid w) :
    Calls Tryd.prog 10 #[str l] w fun e w' => (∃ a c, e = .returned (.tuple #[.slice a (Ps.rs (Ps.prog l)).length c, .int .i64 (Ps.place (Ps.prog l) : Int), .int .i64 (Ps.err (Ps.prog l))]) ∧ RowsAt w' (Ps.rs (Ps.prog l)) (.slice a (Ps.rs (Ps.prog l)).length c)) ∧ Below w.heap.size w w' := by
  refine (pprogram_at l w hr hL).mono ?_
  rintro e w' ⟨⟨u, rfl, hu⟩, hb⟩
  obtain ⟨a, c, rfl⟩ := hu.len
  exact ⟨⟨a, c, rfl, hu⟩, hb⟩
theorem prog_ans {l : List UInt8} {r : List Ru} (h : Ps.prog l = .ok r) : ∃ L, Lx.ans l = .ok L := by
  unfold Ps.prog at h
  cases ha : Lx.ans l with
  | error x => rw [ha] at h; cases h
  | ok L => exact ⟨L, rfl⟩
end Go.Proofs.YtcncmpgababfjaaDoor
