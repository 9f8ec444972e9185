/-
  Constants: what the program's Compare, and the reference's, answer.
-/
import Derived.Test.YtomiefhfkdfgbaaFc
import Derived.Test.YtomiefhfkdfgbaaLb
import Derived.Test.YtomiefhfkdfgbaaFm
import Derived.Test.YtomiefhfkdfgbaaShelf2
import Derived.Shelf.Small.Strs
import Derived.Shelf.SlicesG.Cmp
namespace Go.Proofs.Ytomiefhfkdfgbaa
open Go.RowKit Go.Sort

theorem str_compare (a b : List UInt8) (w : World) : Calls Try.prog 63 #[str a, str b] w fun e w' => e = .returned (.int .i64 (cT a b)) ∧ w = w' :=
  (Any.strings_Compare Try.strCmp ⟨a.toArray⟩ ⟨b.toArray⟩ w).mono fun _ _ ⟨h1, h2⟩ => ⟨h1, h2.symm⟩
theorem int_compare (a b : Int) (w : World) : Calls Try.prog 62 #[.int .i64 a, .int .i64 b] w fun e w' => e = .returned (.int .i64 (Lib.compareInt a b)) ∧ w = w' :=
  (AnyG.cmp_Compare_int Try.cmpInt a b w).mono fun _ _ ⟨h1, h2⟩ => ⟨h1, h2.symm⟩

theorem cK_num {x y : K} (h : x.num ≠ y.num) : cK x y = if x.num then -1 else 1 := by
  unfold cK lex2 cNum; cases hx : x.num <;> cases hy : y.num <;> simp_all
theorem cK_same {x y : K} (h : x.num = y.num) : cK x y = lex2 (Lib.compareInt x.n y.n) (cT x.s y.s) := by
  unfold cK; rw [show cNum x.num y.num = 0 by unfold cNum; rw [if_pos h], lex2, if_pos rfl]
theorem lex2_ne {a b : Int} (h : a ≠ 0) : lex2 a b = a := by unfold lex2; rw [if_neg h]
theorem lex2_eq (b : Int) : lex2 0 b = b := by unfold lex2; rw [if_pos rfl]

set_option maxHeartbeats 1000000 in
theorem compare_at (x y : K) (w : World) : Calls Try.prog 45 #[kval x, kval y] w fun e w' => e = .returned (.int .i64 (cK x y)) ∧ Grew w w' := by
  have hS := fun W => str_compare x.s y.s W
  have hI := fun W => int_compare x.n y.n W
  have h1 := @cK_num x y
  have h2 := @cK_same x y
  obtain ⟨xn, xi, xs⟩ := x; obtain ⟨yn, yi, ys⟩ := y
  simp only at hS hI h1 h2
  generalize cK ⟨xn, xi, xs⟩ ⟨yn, yi, ys⟩ = r at h1 h2 ⊢
  have H1 := hideP h1; have H2 := hideP h2; clear h1 h2
  generalize cT xs ys = c at hS H2
  generalize Lib.compareInt xi yi = d at hI H2
  cases xn <;> cases yn
  all_goals go_enter Try.func45, Try.ntmps45
  all_goals go_wp2_with (first | (go_at_call 63; refine (hS _).mono ?_; rintro e w' ⟨rfl, rfl⟩) | (go_at_call 62; refine (hI _).mono ?_; rintro e w' ⟨rfl, rfl⟩))
  all_goals (go_ret; refine ⟨ret_int ?_, ?_⟩)
  all_goals first
    | exact ((Grew.refl _).allocs _).allocs _
    | (rw [H1.out (by decide)]; rfl)
    | (rw [H2.out (by simp), lex2_ne (by assumption)])
    | (rw [H2.out (by simp)]; simp_all [lex2])

theorem texts_at (a b : List UInt8) (w : World) : Calls Try.prog 59 #[str a, str b] w fun e w' => e = .returned (.int .i64 (cT a b)) ∧ w = w' := by
  have h1 := bytesLess_cT a b
  have h2 : (a == b) = decide (cT a b = 0) := by rw [Bool.eq_iff_iff]; simp [cT_zero]
  have h3 := pre_cT.low a b
  have h4 := pre_cT.high a b
  generalize cT a b = c at *
  have H3 := hideP h3; have H4 := hideP h4; clear h3 h4
  go_enter Try.func59, Try.ntmps59
  go_wp2
  all_goals (go_ret; refine ⟨ret_int ?_, rfl⟩; have := H3.out; have := H4.out; simp_all; try omega)

set_option maxHeartbeats 1000000 in
theorem refcompare_at (x y : K) (w : World) : Calls Try.prog 46 #[kval x, kval y] w fun e w' => e = .returned (.int .i64 (cK x y)) ∧ Grew w w' := by
  have hS := fun W => texts_at x.s y.s W
  have h1 := @cK_num x y
  have h2 := @cK_same x y
  obtain ⟨xn, xi, xs⟩ := x; obtain ⟨yn, yi, ys⟩ := y
  simp only at hS h1 h2
  generalize cK ⟨xn, xi, xs⟩ ⟨yn, yi, ys⟩ = r at h1 h2 ⊢
  have H1 := hideP h1; have H2 := hideP h2; clear h1 h2
  generalize cT xs ys = c at hS H2
  cases xn <;> cases yn
  all_goals go_enter Try.func46, Try.ntmps46
  all_goals go_wp2_with (go_at_call 59; refine (hS _).mono ?_; rintro e w' ⟨rfl, rfl⟩)
  all_goals (go_ret; refine ⟨ret_int ?_, ?_⟩)
  all_goals first
    | exact ((Grew.refl _).allocs _).allocs _
    | (rw [H1.out (by decide)]; rfl)
    | (rw [H2.out (by simp)]; simp_all [lex2, Lib.compareInt]; try omega)

end Go.Proofs.Ytomiefhfkdfgbaa
