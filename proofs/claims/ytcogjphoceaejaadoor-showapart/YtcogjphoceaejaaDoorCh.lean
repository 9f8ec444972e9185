/-
  The functions of one byte, the program's and the reference's: what they answer; the world is as it was.
-/
import Derived.Test.YtcogjphoceaejaaDoorLm
import Derived.Test.YtcogjphoceaejaaDoorBs
namespace Go.Proofs.YtcogjphoceaejaaDoor
open Go.RowKit

theorem hideP {p : Prop} (h : p) : Hid p := h

theorem lsmall_at (c : UInt8) (w : World) : Calls Tryd.prog 65 #[.int .u8 (c.toNat : Int)] w fun e w' => e = .returned (.bool (Lx.small c)) ∧ w = w' := by
  generalize hk : c.toNat = k
  go_enter Tryd.func65, Tryd.ntmps65
  go_wp2
  all_goals (go_ret; refine ⟨ret_bool ?_, rfl⟩; simp only [Lx.small, hk])
  all_goals (rw [Bool.eq_iff_iff]; simp; try omega)

theorem lgreat_at (c : UInt8) (w : World) : Calls Tryd.prog 67 #[.int .u8 (c.toNat : Int)] w fun e w' => e = .returned (.bool (Lx.great c)) ∧ w = w' := by
  generalize hk : c.toNat = k
  go_enter Tryd.func67, Tryd.ntmps67
  go_wp2
  all_goals (go_ret; refine ⟨ret_bool ?_, rfl⟩; simp only [Lx.great, hk])
  all_goals (rw [Bool.eq_iff_iff]; simp; try omega)

theorem ldigit_at (c : UInt8) (w : World) : Calls Tryd.prog 68 #[.int .u8 (c.toNat : Int)] w fun e w' => e = .returned (.bool (Lx.digit c)) ∧ w = w' := by
  generalize hk : c.toNat = k
  go_enter Tryd.func68, Tryd.ntmps68
  go_wp2
  all_goals (go_ret; refine ⟨ret_bool ?_, rfl⟩; simp only [Lx.digit, hk])
  all_goals (rw [Bool.eq_iff_iff]; simp; try omega)

theorem rsmall_at (c : UInt8) (w : World) : Calls Tryd.prog 58 #[.int .u8 (c.toNat : Int)] w fun e w' => e = .returned (.bool (Lx.small c)) ∧ w = w' := by
  generalize hk : c.toNat = k
  go_enter Tryd.func58, Tryd.ntmps58
  go_wp2
  all_goals (go_ret; refine ⟨ret_bool ?_, rfl⟩; simp only [Lx.small, hk])
  all_goals (rw [Bool.eq_iff_iff]; simp; try omega)

theorem rgreat_at (c : UInt8) (w : World) : Calls Tryd.prog 59 #[.int .u8 (c.toNat : Int)] w fun e w' => e = .returned (.bool (Lx.great c)) ∧ w = w' := by
  generalize hk : c.toNat = k
  go_enter Tryd.func59, Tryd.ntmps59
  go_wp2
  all_goals (go_ret; refine ⟨ret_bool ?_, rfl⟩; simp only [Lx.great, hk])
  all_goals (rw [Bool.eq_iff_iff]; simp; try omega)

theorem rdigit_at (c : UInt8) (w : World) : Calls Tryd.prog 60 #[.int .u8 (c.toNat : Int)] w fun e w' => e = .returned (.bool (Lx.digit c)) ∧ w = w' := by
  generalize hk : c.toNat = k
  go_enter Tryd.func60, Tryd.ntmps60
  go_wp2
  all_goals (go_ret; refine ⟨ret_bool ?_, rfl⟩; simp only [Lx.digit, hk])
  all_goals (rw [Bool.eq_iff_iff]; simp; try omega)

theorem rplain_at (c : UInt8) (w : World) : Calls Tryd.prog 26 #[.int .u8 (c.toNat : Int)] w fun e w' => e = .returned (.bool (Lx.plain c)) ∧ w = w' := by
  generalize hk : c.toNat = k
  go_enter Tryd.func26, Tryd.ntmps26
  go_wp2
  all_goals (go_ret; refine ⟨ret_bool ?_, rfl⟩; simp only [Lx.plain, hk])
  all_goals (rw [Bool.eq_iff_iff]; simp; try omega)

theorem lplain_at (c : UInt8) (w : World) : Calls Tryd.prog 83 #[.int .u8 (c.toNat : Int)] w fun e w' => e = .returned (.bool (Lx.plain c)) ∧ w = w' := by
  generalize hk : c.toNat = k
  go_enter Tryd.func83, Tryd.ntmps83
  go_wp2
  all_goals (go_ret; refine ⟨ret_bool ?_, rfl⟩; simp only [Lx.plain, hk])
  all_goals (rw [Bool.eq_iff_iff]; simp; try omega)

theorem lnolf_at (c : UInt8) (w : World) : Calls Tryd.prog 64 #[.int .u8 (c.toNat : Int)] w fun e w' => e = .returned (.bool (Lx.noLf c)) ∧ w = w' := by
  generalize hk : c.toNat = k
  go_enter Tryd.func64, Tryd.ntmps64
  go_wp2
  all_goals (go_ret; refine ⟨ret_bool ?_, rfl⟩; simp only [Lx.noLf, hk])
  all_goals (rw [Bool.eq_iff_iff]; simp; try omega)

theorem linner_at (c : UInt8) (w : World) : Calls Tryd.prog 81 #[.int .u8 (c.toNat : Int)] w fun e w' => e = .returned (.bool (Lx.inner c)) ∧ w = w' := by
  have h1 := hideP (lsmall_at c)
  have h2 := hideP (lgreat_at c)
  have h3 := hideP (ldigit_at c)
  have hi : Lx.inner c = (Lx.small c || Lx.great c || Lx.digit c || decide (c.toNat = 95)) := rfl
  generalize Lx.inner c = r at *
  generalize Lx.small c = s1 at *
  generalize Lx.great c = s2 at *
  generalize Lx.digit c = s3 at *
  generalize hk : c.toNat = k at *
  have HI := hideP hi
  clear hi
  go_enter Tryd.func81, Tryd.ntmps81
  go_wp2_with (first
    | (go_at_call 65; refine (h1.out _).mono ?_; rintro e w1 ⟨rfl, rfl⟩)
    | (go_at_call 67; refine (h2.out _).mono ?_; rintro e w1 ⟨rfl, rfl⟩)
    | (go_at_call 68; refine (h3.out _).mono ?_; rintro e w1 ⟨rfl, rfl⟩))
  all_goals (go_ret; refine ⟨ret_bool ?_, rfl⟩; rw [HI.out])
  all_goals (simp_all <;> (rw [Bool.eq_iff_iff]; simp; try omega))

theorem rinner_at (c : UInt8) (w : World) : Calls Tryd.prog 45 #[.int .u8 (c.toNat : Int)] w fun e w' => e = .returned (.bool (Lx.inner c)) ∧ w = w' := by
  have h1 := hideP (rsmall_at c)
  have h2 := hideP (rgreat_at c)
  have h3 := hideP (rdigit_at c)
  have hi : Lx.inner c = (Lx.small c || Lx.great c || Lx.digit c || decide (c.toNat = 95)) := rfl
  generalize Lx.inner c = r at *
  generalize Lx.small c = s1 at *
  generalize Lx.great c = s2 at *
  generalize Lx.digit c = s3 at *
  generalize hk : c.toNat = k at *
  have HI := hideP hi
  clear hi
  go_enter Tryd.func45, Tryd.ntmps45
  go_wp2_with (first
    | (go_at_call 58; refine (h1.out _).mono ?_; rintro e w1 ⟨rfl, rfl⟩)
    | (go_at_call 59; refine (h2.out _).mono ?_; rintro e w1 ⟨rfl, rfl⟩)
    | (go_at_call 60; refine (h3.out _).mono ?_; rintro e w1 ⟨rfl, rfl⟩))
  all_goals (go_ret; refine ⟨ret_bool ?_, rfl⟩; rw [HI.out])
  all_goals (simp_all <;> (rw [Bool.eq_iff_iff]; simp; try omega))

end Go.Proofs.YtcogjphoceaejaaDoor
