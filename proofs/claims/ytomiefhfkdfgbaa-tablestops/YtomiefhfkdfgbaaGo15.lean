/-
  Which constants may be: the program's Good and the reference's.
-/
import Derived.Test.YtomiefhfkdfgbaaCmp
namespace Go.Proofs.Ytomiefhfkdfgbaa
open Go.RowKit Go.Sort

/-- a text of 1 to 32 bytes -/
def fitsB (l : List UInt8) : Bool := decide (1 ≤ l.length) && decide (l.length ≤ 32)
def goodB (x : K) : Bool := if x.num then x.s.isEmpty else decide (x.n = 0) && fitsB x.s
theorem fits_at (l : List UInt8) (w : World) : Calls Try.prog 48 #[str l] w fun e w' => e = .returned (.bool (fitsB l)) ∧ w = w' := by
  have hf : fitsB l = (decide ((1 : Int) ≤ (l.length : Int)) && decide ((l.length : Int) ≤ 32)) := by unfold fitsB; congr 1 <;> rw [decide_eq_decide] <;> omega
  rw [hf]; clear hf
  go_enter Try.func48, Try.ntmps48
  go_wp2
  all_goals (go_ret; refine ⟨ret_bool ?_, rfl⟩; simp_all; try (intros; omega))
theorem text_at (l : List UInt8) (w : World) : Calls Try.prog 57 #[str l] w fun e w' => e = .returned (.bool (fitsB l)) ∧ w = w' := by
  have hf : fitsB l = (decide ((1 : Int) ≤ (l.length : Int)) && decide ((l.length : Int) ≤ 32)) := by unfold fitsB; congr 1 <;> rw [decide_eq_decide] <;> omega
  rw [hf]; clear hf
  go_enter Try.func57, Try.ntmps57
  go_wp2
  all_goals (go_ret; refine ⟨ret_bool ?_, rfl⟩; simp_all; try (intros; omega))
theorem good_at (x : K) (w : World) : Calls Try.prog 51 #[kval x] w fun e w' => e = .returned (.bool (goodB x)) ∧ Grew w w' := by
  have hS := fun W => fits_at x.s W
  obtain ⟨xn, xi, xs⟩ := x
  simp only [goodB] at *
  generalize fitsB xs = c at *
  cases xn
  all_goals go_enter Try.func51, Try.ntmps51
  all_goals go_wp2_with (go_at_call 48; refine (hS _).mono ?_; rintro e w' ⟨rfl, rfl⟩)
  all_goals (go_ret; refine ⟨ret_bool ?_, (Grew.refl _).allocs _⟩)
  all_goals simp_all
theorem refgood_at (x : K) (w : World) : Calls Try.prog 58 #[kval x] w fun e w' => e = .returned (.bool (goodB x)) ∧ Grew w w' := by
  have hS := fun W => text_at x.s W
  obtain ⟨xn, xi, xs⟩ := x
  simp only [goodB] at *
  generalize fitsB xs = c at *
  cases xn
  all_goals go_enter Try.func58, Try.ntmps58
  all_goals go_wp2_with (go_at_call 57; refine (hS _).mono ?_; rintro e w' ⟨rfl, rfl⟩)
  all_goals (go_ret; refine ⟨ret_bool ?_, (Grew.refl _).allocs _⟩)
  all_goals simp_all
end Go.Proofs.Ytomiefhfkdfgbaa
