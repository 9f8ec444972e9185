/-
  The statement FactSorts, walked.
-/
import Derived.Test.YtdlhleblolcjpaaRSorted
import Derived.Test.YtdlhleblolcjpaaCopy
import Derived.Test.YtdlhleblolcjpaaSpoil
namespace Go.Proofs.Ytdlhleblolcjpaa
open Go.RowKit Go.Sort

set_option maxHeartbeats 2000000 in
theorem factSorts_walk (a : Option Addr) (c : Nat) (xs : List Fv) (w : World) (hl : Lies w a c xs) (hx : ∀ x ∈ xs, Fv.At w x) : Calls Try.prog 6 #[.slice a xs.length c] w fun e w' => e = .returned (.bool true) ∧ Below w.heap.size w w' := by
  have hV := fun (W : World) => live_at W
  go_enter Try.func6, Try.ntmps6
  go_wp2_with fail
  refine (weight_at a c xs 300 w hl hx).mono ?_
  rintro e w0 ⟨⟨r, rfl⟩, hg0⟩
  have hl0 := hl.below hg0.below (Nat.le_refl _)
  have hx0 := fun x h => (hx x h).grew hg0
  have B0 := hg0.below
  clear hl hx hg0
  by_cases hr : 300 < r
  · go_wp2_with fail
    refine (hV _).mono ?_
    rintro e w1 ⟨rfl, hb1⟩
    go_wp2_with fail
    go_ret
    exact ⟨rfl, Below.then B0 hb1⟩
  · go_wp2_with fail
    refine (copy_at a c xs w0 hl0 hx0).mono ?_
    rintro e w1 ⟨a1, c1, gs, rfl, hO1, hat1, hf1, hb1⟩
    have Hf1 := hideP hf1; clear hf1
    have hS := sorted_at a1 c1 gs w1 hO1.lies hat1
    go_wp2_with fail
    refine hS.mono ?_
    rintro e w2 ⟨a2, c2, zs, rfl, hO2, hat2, hf2, hb2⟩
    have Hf2 := hideP hf2; clear hf2 hS
    have hb02 := Below.then hb1 hb2
    have hR := refsorted_at a c xs w2 (hl0.below hb02 (Nat.le_refl _)) (fun x h => (hx0 x h).below hb02 (Nat.le_refl _))
    go_wp2_with fail
    refine hR.mono ?_
    rintro e w3 ⟨a3, c3, ys, rfl, hO3, hin3, hf3, hb3⟩
    have Hf3 := hideP hf3; clear hf3 hR
    have hb03 := Below.then hb02 hb3
    have hL := like_at a2 a3 c2 c3 zs ys w3 (hO2.lies.below hb3 (Nat.le_refl _)) hO3.lies (fun z h => (hat2 z h).1.below hb3 (Nat.le_refl _)) (fun y h => (hx0 y (hin3 y h)).below hb03 (Nat.le_refl _))
    rw [show likeB (zs.map Fv.f) (ys.map Fv.f) = true from (likeB_iff _ _).2 (by rw [Hf2.out, Hf3.out, Hf1.out])] at hL
    go_wp2_with fail
    refine hL.mono ?_
    rintro e w4 ⟨rfl, hg4⟩
    have hb13 := Below.then hb2 hb3
    have hb14 := Below.then hb13 hg4.below
    have hb04 := Below.then hb03 hg4.below
    have hL2 := like_at a1 a c1 c gs xs w4 (hO1.lies.below hb14 (Nat.le_refl _)) (hl0.below hb04 (Nat.le_refl _)) (fun z h => (hat1 z h).below hb14 (Nat.le_refl _)) (fun y h => (hx0 y h).below hb04 (Nat.le_refl _))
    rw [show likeB (gs.map Fv.f) (xs.map Fv.f) = true from (likeB_iff _ _).2 Hf1.out] at hL2
    clear hL
    go_wp2_with fail
    refine hL2.mono ?_
    rintro e w5 ⟨rfl, hg5⟩
    have hb25 := Below.then (Below.then hb3 hg4.below) hg5.below
    have hP := spoil_at a2 c2 zs w5 w1.heap.size (hO2.below hb25) (fun z h => ⟨(hat2 z h).1.below hb25 (Nat.le_refl _), (hat2 z h).2.1, (hat2 z h).2.2.1, (hat2 z h).2.2.2.below hb25⟩)
    clear hL2
    go_wp2_with fail
    refine hP.mono ?_
    rintro e w6 ⟨rfl, hb6⟩
    have hb16 : Below w1.heap.size w1 w6 := (Below.then hb14 hg5.below).trans hb6
    have hb06 : Below w0.heap.size w0 w6 := Below.then hb1 hb16
    have hL3 := like_at a1 a c1 c gs xs w6 (hO1.lies.below hb16 (Nat.le_refl _)) (hl0.below hb06 (Nat.le_refl _)) (fun z h => (hat1 z h).below hb16 (Nat.le_refl _)) (fun y h => (hx0 y h).below hb06 (Nat.le_refl _))
    rw [show likeB (gs.map Fv.f) (xs.map Fv.f) = true from (likeB_iff _ _).2 Hf1.out] at hL3
    clear hP
    go_wp2_with fail
    refine hL3.mono ?_
    rintro e w7 ⟨rfl, hg7⟩
    go_wp2_with fail
    refine (hV _).mono ?_
    rintro e w8 ⟨rfl, hb8⟩
    go_wp2_with fail
    go_ret
    exact ⟨rfl, Below.then B0 (Below.then (Below.then hb06 hg7.below) hb8)⟩

end Go.Proofs.Ytdlhleblolcjpaa
