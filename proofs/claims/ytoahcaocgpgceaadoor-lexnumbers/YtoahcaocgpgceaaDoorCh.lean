/-
  The functions of one byte, the program's and the reference's: what they answer; the world is as it was.
-/
import Derived.Test.YtoahcaocgpgceaaDoorLm
import Derived.Test.YtoahcaocgpgceaaDoorBs
namespace Go.Proofs.YtoahcaocgpgceaaDoor
open Go.RowKit

theorem hideP {p : Prop} (h : p) : Hid p := h

theorem lsmall_at (c : UInt8) (w : World) : Calls Tryd.prog 29 #[.int .u8 (c.toNat : Int)] w fun e w' => e = .returned (.bool (Lx.small c)) ∧ w = w' := by
  generalize hk : c.toNat = k
  go_enter Tryd.func29, Tryd.ntmps29
  go_wp2
  all_goals (go_ret; refine ⟨ret_bool ?_, rfl⟩; simp only [Lx.small, hk])
  all_goals (rw [Bool.eq_iff_iff]; simp; try omega)

theorem lgreat_at (c : UInt8) (w : World) : Calls Tryd.prog 31 #[.int .u8 (c.toNat : Int)] w fun e w' => e = .returned (.bool (Lx.great c)) ∧ w = w' := by
  generalize hk : c.toNat = k
  go_enter Tryd.func31, Tryd.ntmps31
  go_wp2
  all_goals (go_ret; refine ⟨ret_bool ?_, rfl⟩; simp only [Lx.great, hk])
  all_goals (rw [Bool.eq_iff_iff]; simp; try omega)

theorem ldigit_at (c : UInt8) (w : World) : Calls Tryd.prog 32 #[.int .u8 (c.toNat : Int)] w fun e w' => e = .returned (.bool (Lx.digit c)) ∧ w = w' := by
  generalize hk : c.toNat = k
  go_enter Tryd.func32, Tryd.ntmps32
  go_wp2
  all_goals (go_ret; refine ⟨ret_bool ?_, rfl⟩; simp only [Lx.digit, hk])
  all_goals (rw [Bool.eq_iff_iff]; simp; try omega)

theorem rsmall_at (c : UInt8) (w : World) : Calls Tryd.prog 21 #[.int .u8 (c.toNat : Int)] w fun e w' => e = .returned (.bool (Lx.small c)) ∧ w = w' := by
  generalize hk : c.toNat = k
  go_enter Tryd.func21, Tryd.ntmps21
  go_wp2
  all_goals (go_ret; refine ⟨ret_bool ?_, rfl⟩; simp only [Lx.small, hk])
  all_goals (rw [Bool.eq_iff_iff]; simp; try omega)

theorem rgreat_at (c : UInt8) (w : World) : Calls Tryd.prog 22 #[.int .u8 (c.toNat : Int)] w fun e w' => e = .returned (.bool (Lx.great c)) ∧ w = w' := by
  generalize hk : c.toNat = k
  go_enter Tryd.func22, Tryd.ntmps22
  go_wp2
  all_goals (go_ret; refine ⟨ret_bool ?_, rfl⟩; simp only [Lx.great, hk])
  all_goals (rw [Bool.eq_iff_iff]; simp; try omega)

theorem rdigit_at (c : UInt8) (w : World) : Calls Tryd.prog 24 #[.int .u8 (c.toNat : Int)] w fun e w' => e = .returned (.bool (Lx.digit c)) ∧ w = w' := by
  generalize hk : c.toNat = k
  go_enter Tryd.func24, Tryd.ntmps24
  go_wp2
  all_goals (go_ret; refine ⟨ret_bool ?_, rfl⟩; simp only [Lx.digit, hk])
  all_goals (rw [Bool.eq_iff_iff]; simp; try omega)

theorem rplain_at (c : UInt8) (w : World) : Calls Tryd.prog 40 #[.int .u8 (c.toNat : Int)] w fun e w' => e = .returned (.bool (Lx.plain c)) ∧ w = w' := by
  generalize hk : c.toNat = k
  go_enter Tryd.func40, Tryd.ntmps40
  go_wp2
  all_goals (go_ret; refine ⟨ret_bool ?_, rfl⟩; simp only [Lx.plain, hk])
  all_goals (rw [Bool.eq_iff_iff]; simp; try omega)

theorem lplain_at (c : UInt8) (w : World) : Calls Tryd.prog 44 #[.int .u8 (c.toNat : Int)] w fun e w' => e = .returned (.bool (Lx.plain c)) ∧ w = w' := by
  generalize hk : c.toNat = k
  go_enter Tryd.func44, Tryd.ntmps44
  go_wp2
  all_goals (go_ret; refine ⟨ret_bool ?_, rfl⟩; simp only [Lx.plain, hk])
  all_goals (rw [Bool.eq_iff_iff]; simp; try omega)

theorem lnolf_at (c : UInt8) (w : World) : Calls Tryd.prog 28 #[.int .u8 (c.toNat : Int)] w fun e w' => e = .returned (.bool (Lx.noLf c)) ∧ w = w' := by
  generalize hk : c.toNat = k
  go_enter Tryd.func28, Tryd.ntmps28
  go_wp2
  all_goals (go_ret; refine ⟨ret_bool ?_, rfl⟩; simp only [Lx.noLf, hk])
  all_goals (rw [Bool.eq_iff_iff]; simp; try omega)

theorem linner_at (c : UInt8) (w : World) : Calls Tryd.prog 41 #[.int .u8 (c.toNat : Int)] w fun e w' => e = .returned (.bool (Lx.inner c)) ∧ w = w' := by
  have h1 := hideP (lsmall_at c)
  have h2 := hideP (lgreat_at c)
  have h3 := hideP (ldigit_at c)
  have hi : Lx.inner c = (Lx.small c || Lx.great c || Lx.digit c || decide (c.toNat = 95)) := rfl
  generalize Lx.inner c = r at *
  generalize Lx.small c = s1 at *
  generalize Lx.great c = s2 at *
  generalize Lx.digit c = s3 at *
  generalize hk : c.toNat = k at *
  have HI := hideP hi
  clear hi
  go_enter Tryd.func41, Tryd.ntmps41
  go_wp2_with (first
    | (go_at_call 29; refine (h1.out _).mono ?_; rintro e w1 ⟨rfl, rfl⟩)
    | (go_at_call 31; refine (h2.out _).mono ?_; rintro e w1 ⟨rfl, rfl⟩)
    | (go_at_call 32; refine (h3.out _).mono ?_; rintro e w1 ⟨rfl, rfl⟩))
  all_goals (go_ret; refine ⟨ret_bool ?_, rfl⟩; rw [HI.out])
  all_goals (simp_all <;> (rw [Bool.eq_iff_iff]; simp; try omega))

theorem rinner_at (c : UInt8) (w : World) : Calls Tryd.prog 23 #[.int .u8 (c.toNat : Int)] w fun e w' => e = .returned (.bool (Lx.inner c)) ∧ w = w' := by
  have h1 := hideP (rsmall_at c)
  have h2 := hideP (rgreat_at c)
  have h3 := hideP (rdigit_at c)
  have hi : Lx.inner c = (Lx.small c || Lx.great c || Lx.digit c || decide (c.toNat = 95)) := rfl
  generalize Lx.inner c = r at *
  generalize Lx.small c = s1 at *
  generalize Lx.great c = s2 at *
  generalize Lx.digit c = s3 at *
  generalize hk : c.toNat = k at *
  have HI := hideP hi
  clear hi
  go_enter Tryd.func23, Tryd.ntmps23
  go_wp2_with (first
    | (go_at_call 21; refine (h1.out _).mono ?_; rintro e w1 ⟨rfl, rfl⟩)
    | (go_at_call 22; refine (h2.out _).mono ?_; rintro e w1 ⟨rfl, rfl⟩)
    | (go_at_call 24; refine (h3.out _).mono ?_; rintro e w1 ⟨rfl, rfl⟩))
  all_goals (go_ret; refine ⟨ret_bool ?_, rfl⟩; rw [HI.out])
  all_goals (simp_all <;> (rw [Bool.eq_iff_iff]; simp; try omega))

end Go.Proofs.YtoahcaocgpgceaaDoor
