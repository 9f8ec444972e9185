/-
  The document's examples.
-/
import Derived.KernelRfl
import Derived.Test.YtcjfdackhgaigaaDoorPi
namespace Go.Proofs.YtcjfdackhgaigaaDoor
open Go.RowKit Go.Lib Go.Shelf

abbrev exA : List UInt8 := [97, 58, 32, 112, 40, 49, 41, 32, 116, 111, 32, 66, 32, 58, 45, 32, 66, 32, 115, 97, 121, 115, 32, 113, 40, 34, 120, 32, 121, 34, 41, 32, 97, 116, 32, 99, 46]
abbrev exB : List UInt8 := [97, 58, 32, 112, 40, 32, 58, 45]
abbrev exC : List UInt8 := [115, 97, 121, 115, 58, 32, 112, 40, 41, 32, 58, 45, 32, 113, 40, 41, 46]
abbrev exR : Ru := ⟨⟨[], ⟨false, 0, [97]⟩⟩, [112], [⟨[], ⟨true, 1, []⟩⟩], ⟨[66], k0⟩, [⟨⟨[66], k0⟩, [113], [⟨[], ⟨false, 0, [120, 32, 121]⟩⟩], ⟨[], ⟨false, 0, [99]⟩⟩⟩]⟩
theorem ex_a : Ps.prog exA = .ok [exR] := by kernel_rfl
theorem ex_b : Ps.prog exB = .error (6, 80) := by kernel_rfl
theorem ex_c : Ps.prog exC = .error (0, 80) := by kernel_rfl
/-- what is known of the example's rule in memory -/
theorem ex_cells {w : World} {u : Value} (h : RowsAt w [exR] u) : ∃ P O c Q U d A B f, u = .slice (some ⟨P, O, none⟩) 1 c ∧ 1 ≤ c ∧ 1 ≤ d ∧ 1 ≤ f ∧ ∀ W, Below w.heap.size w W → W.cell? ⟨P, O + 6, none⟩ = some (str [66]) ∧ W.cell? ⟨P, O + 10, none⟩ = some (.slice (some ⟨Q, U, none⟩) 1 d) ∧ W.cell? ⟨Q, U + 9, none⟩ = some (str [99]) ∧ W.cell? ⟨Q, U + 5, none⟩ = some (.slice (some ⟨A, B, none⟩) 1 f) ∧ W.cell? ⟨A, B + 3, none⟩ = some (str [120, 32, 121]) := by
  obtain ⟨a, c, xs, rfl, h1, h2, h3⟩ := h
  obtain ⟨x, rfl, g1⟩ := List.map_eq_singleton_iff.1 h1
  clear h1
  obtain ⟨P, O, rfl⟩ := h2.row.addr (by simp)
  obtain ⟨h4, h5, h6⟩ := h3 x (by simp)
  obtain ⟨hm, pr, aa, ca, ts, to, ba, bc, ls⟩ := x
  have g1 : Ru.mk hm pr ts to (ls.map Lv.l) = exR := g1
  simp only [Ru.mk.injEq] at g1
  obtain ⟨rfl, rfl, rfl, rfl, g2⟩ := g1
  obtain ⟨y, rfl, g3⟩ := List.map_eq_singleton_iff.1 g2
  clear g2
  have h5 : RowT lK 58 w ba bc [y] := h5
  obtain ⟨Q, U, rfl⟩ := h5.row.addr (by simp)
  have h7 := h6 y (by simp)
  obtain ⟨by_, pr, ya, yc, us, at_⟩ := y
  simp only [Lv.l, Lt.mk.injEq] at g3
  obtain ⟨rfl, rfl, rfl, rfl⟩ := g3
  have h7 : RowT tK 50 w ya yc [⟨[], ⟨false, 0, [120, 32, 121]⟩⟩] := h7
  obtain ⟨A, B, rfl⟩ := h7.row.addr (by simp)
  refine ⟨P, O, c, Q, U, bc, A, B, yc, rfl, h2.row.room, h5.row.room, h7.row.room, fun W hW => ?_⟩
  have r1 := (h2.row.below hW (Nat.le_refl _)).range 0 (by simp)
  have r2 := (h5.row.below hW (Nat.le_refl _)).range 0 (by simp)
  have r3 := (h7.row.below hW (Nat.le_refl _)).range 0 (by simp)
  simp only [Nat.zero_mul, Nat.add_zero] at r1 r2 r3
  exact ⟨r1 6 _ rfl, r1 10 _ rfl, r2 9 _ rfl, r2 5 _ rfl, r3 3 _ rfl⟩

set_option maxRecDepth 100000 in
set_option maxHeartbeats 4000000 in
theorem live_at (w : World) (hL : Laid w) : Calls Tryd.prog 11 #[] w fun e w' => e = .returned (.bool true) ∧ Below w.heap.size w w' := by
  have T1 := hideP (pprogram_at exA w (by decide) hL)
  have T2 := hideP (fun w hL => pprogram_at exB w (by decide) hL)
  have T3 := hideP (fun w hL => pprogram_at exC w (by decide) hL)
  go_enter Tryd.func11, Tryd.ntmps11
  go_wp2_with fail
  refine T1.out.mono ?_
  rintro e w1 ⟨⟨u1, rfl, r1⟩, b1⟩
  rw [ex_a] at r1 ⊢
  simp only [Ps.rs, Ps.place, Ps.err] at r1 ⊢
  obtain ⟨P, O, c, Q, U, d, A, B, f, rfl, k1, k2, k3, hc⟩ := ex_cells r1
  go_wp2_with fail
  refine (T2.out _ (hL.below b1)).mono ?_
  rintro e w2 ⟨⟨u2, rfl, r2⟩, b2⟩
  rw [ex_b]
  simp only [Ps.place, Ps.err]
  go_wp2_with fail
  refine (T3.out _ (hL.below (Below.then b1 b2))).mono ?_
  rintro e w3 ⟨⟨u3, rfl, r3⟩, b3⟩
  rw [ex_c]
  simp only [Ps.place, Ps.err]
  obtain ⟨q1, q2, q3, q4, q5⟩ := hc w3 (Below.then b2 b3)
  clear r1 r2 r3 hc
  go_wp2_with fail
  go_ret
  exact ⟨rfl, Below.then (Below.then b1 b2) b3⟩
end Go.Proofs.YtcjfdackhgaigaaDoor
