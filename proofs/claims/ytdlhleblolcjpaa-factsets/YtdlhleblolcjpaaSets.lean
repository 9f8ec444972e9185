/-
  The statement FactSets, walked.
-/
import Derived.Test.YtdlhleblolcjpaaMinus
import Derived.Test.YtdlhleblolcjpaaSame
import Derived.Test.YtdlhleblolcjpaaCopy
import Derived.Deep.RegionHeld3
import Derived.Deep.RegionWith
namespace Go.Proofs.Ytdlhleblolcjpaa
open Go.RowKit Go.Sort

set_option maxHeartbeats 8000000 in
theorem factSets_walk (a : Option Addr) (c : Nat) (xs : List Fv) (b : Option Addr) (d : Nat) (ys : List Fv) (x : Fv) (w : World) (hl : Lies w a c xs) (hx : ∀ x ∈ xs, Fv.At w x) (hm : Lies w b d ys) (hy : ∀ y ∈ ys, Fv.At w y) (hf : Fv.At w x) :
    Calls Try.prog 7 #[.slice a xs.length c, .slice b ys.length d, x.val] w fun e w' => e = .returned (.bool true) ∧ Below w.heap.size w w' := by
  have mixed : Try.prog.follows .mixedOrders = true := by kernel_rfl
  have hV := fun (W : World) => live_at W
  obtain ⟨x1, x2, x3, xa, xc, xk⟩ := x
  go_enter Try.func7, Try.ntmps7
  go_wp2_with fail
  obtain ⟨w0, hw0⟩ : ∃ w0, w0 = w.alloc (.cells #[str x1, str x2, str x3, .slice xa xk.length xc] 30) := ⟨_, rfl⟩
  have B0 : Below w.heap.size w w0 := by rw [hw0]; exact below_alloc _ _
  have H0 : w0.heap[w.heap.size]? = some (.cells #[str x1, str x2, str x3, .slice xa xk.length xc] 30) := by rw [hw0]; exact heap_alloc_new w _
  rw [← hw0]
  clear hw0
  have hl0 := hl.below B0 (Nat.le_refl _)
  have hm0 := hm.below B0 (Nat.le_refl _)
  have hx0 := fun x h => (hx x h).below B0 (Nat.le_refl _)
  have hy0 := fun x h => (hy x h).below B0 (Nat.le_refl _)
  have hf0 := hf.below B0 (Nat.le_refl _)
  have b0 := heap_cell H0 0; have b1 := heap_cell H0 1; have b2 := heap_cell H0 2; have b3 := heap_cell H0 3
  simp at b0 b1 b2 b3
  clear hl hx hm hy hf H0
  refine (weight_at a c xs 200 w0 hl0 hx0).mono ?_
  rintro e w1 ⟨⟨r, rfl⟩, hg1⟩
  have hb01 := hg1.below
  by_cases hr : 200 < r
  · go_wp2_with fail
    refine (hV _).mono ?_
    rintro e w2 ⟨rfl, hb2⟩
    go_wp2_with fail
    go_ret
    exact ⟨rfl, B0.trans ((Below.then hb01 hb2).mono B0.size)⟩
  · go_wp2_with fail
    refine (weight_at b d ys 200 w1 (hm0.below hb01 (Nat.le_refl _)) (fun y h => (hy0 y h).below hb01 (Nat.le_refl _))).mono ?_
    rintro e w2 ⟨⟨r', rfl⟩, hg2⟩
    have hb02 := Below.then hb01 hg2.below
    by_cases hr' : 200 < r'
    · go_wp2_with fail
      refine (hV _).mono ?_
      rintro e w3 ⟨rfl, hb3⟩
      go_wp2_with fail
      go_ret
      exact ⟨rfl, B0.trans ((Below.then hb02 hb3).mono B0.size)⟩
    · go_wp2_with fail
      refine (copy_at a c xs w2 (hl0.below hb02 (Nat.le_refl _)) (fun y h => (hx0 y h).below hb02 (Nat.le_refl _))).mono ?_
      rintro e w3 ⟨ag, cg, gs, rfl, hO3, hat3, hf3, hb3⟩
      have Hf3 := hideP hf3; clear hf3
      have hb03 := Below.then hb02 hb3
      go_wp2_with fail
      refine (refsorted_at a c xs w3 (hl0.below hb03 (Nat.le_refl _)) (fun y h => (hx0 y h).below hb03 (Nat.le_refl _))).mono ?_
      rintro e w4 ⟨a4, c4, us, rfl, hO4, hin4, hf4, hb4⟩
      have Hf4 := hideP hf4; clear hf4
      have hb04 := Below.then hb03 hb4
      go_wp2_with fail
      refine (refsorted_at b d ys w4 (hm0.below hb04 (Nat.le_refl _)) (fun y h => (hy0 y h).below hb04 (Nat.le_refl _))).mono ?_
      rintro e w5 ⟨a5, c5, vs, rfl, hO5, hin5, hf5, hb5⟩
      have Hf5 := hideP hf5; clear hf5
      have hb05 := Below.then hb04 hb5
      have hLk := like_at a4 a5 c4 c5 us vs w5 (hO4.lies.below hb5 (Nat.le_refl _)) hO5.lies (fun y h => (hx0 y (hin4 y h)).below hb05 (Nat.le_refl _)) (fun y h => (hy0 y (hin5 y h)).below hb05 (Nat.le_refl _))
      rw [Hf4.out, Hf5.out] at hLk
      go_wp2_with fail
      refine hLk.mono ?_
      rintro e w6 ⟨rfl, hg6⟩
      have hb06 := Below.then hb05 hg6.below
      have hb36 := Below.then (Below.then hb4 hb5) hg6.below
      have hl6 := hl0.below hb06 (Nat.le_refl _)
      have hm6 := hm0.below hb06 (Nat.le_refl _)
      have hx6 := fun x h => (hx0 x h).below hb06 (Nat.le_refl _)
      have hy6 := fun x h => (hy0 x h).below hb06 (Nat.le_refl _)
      have hf6 := hf0.below hb06 (Nat.le_refl _)
      have hG6 := hO3.lies.below hb36 (Nat.le_refl _)
      have hg6' := fun z h => (hat3 z h).below hb36 (Nat.le_refl _)
      have c0 := (hb06.cell (p := ⟨w.heap.size, 0, none⟩) (cell_block b0)).trans b0
      have c1 := (hb06.cell (p := ⟨w.heap.size, 1, none⟩) (cell_block b1)).trans b1
      have c2 := (hb06.cell (p := ⟨w.heap.size, 2, none⟩) (cell_block b2)).trans b2
      have c3 := (hb06.cell (p := ⟨w.heap.size, 3, none⟩) (cell_block b3)).trans b3
      have B6 : Below w.heap.size w w6 := B0.trans (hb06.mono B0.size)
      clear hl0 hm0 hx0 hy0 hf0 b0 b1 b2 b3 hO3 hat3 hO4 hin4 hO5 hin5 hLk hg6 hb01 hb02 hb03 hb04 hb05 hb06 hb36 hb3 hb4 hb5 B0 Hf4 Hf5 hr hr' hg1 hg2
      have hbox : ∀ W, Below w6.heap.size w6 W → W.cell? ⟨w.heap.size, 0, none⟩ = some (str x1) ∧ W.cell? ⟨w.heap.size, 1, none⟩ = some (str x2) ∧ W.cell? ⟨w.heap.size, 2, none⟩ = some (str x3) ∧ W.cell? ⟨w.heap.size, 3, none⟩ = some (.slice xa xk.length xc) := fun W hW =>
        ⟨(hW.cell (p := ⟨w.heap.size, 0, none⟩) (cell_block c0)).trans c0, (hW.cell (p := ⟨w.heap.size, 1, none⟩) (cell_block c1)).trans c1, (hW.cell (p := ⟨w.heap.size, 2, none⟩) (cell_block c2)).trans c2, (hW.cell (p := ⟨w.heap.size, 3, none⟩) (cell_block c3)).trans c3⟩
      have D6 : Below w6.heap.size w6 w6.drew := (Below.refl _ _).drew
      have hH := fun (W : World) (hW : Below w6.heap.size w6 W) => has_at ag cg gs ⟨x1, x2, x3, xa, xc, xk⟩ W (hG6.below hW (Nat.le_refl _)) (fun y h => (hg6' y h).below hW (Nat.le_refl _)) (hf6.below hW (Nat.le_refl _))
      have hRH := fun (W : World) (hW : Below w6.heap.size w6 W) => refhas_at a c xs ⟨x1, x2, x3, xa, xc, xk⟩ W (hl6.below hW (Nat.le_refl _)) (fun y h => (hx6 y h).below hW (Nat.le_refl _)) (hf6.below hW (Nat.le_refl _))
      have hMi := fun (W : World) (hW : Below w6.heap.size w6 W) => minus_at ag b cg d gs ys W (hG6.below hW (Nat.le_refl _)) (hm6.below hW (Nat.le_refl _)) (fun y h => (hg6' y h).below hW (Nat.le_refl _)) (fun y h => (hy6 y h).below hW (Nat.le_refl _))
      have hRM := fun (W : World) (hW : Below w6.heap.size w6 W) => refminus_at a b c d xs ys W (hl6.below hW (Nat.le_refl _)) (hm6.below hW (Nat.le_refl _)) (fun y h => (hx6 y h).below hW (Nat.le_refl _)) (fun y h => (hy6 y h).below hW (Nat.le_refl _))
      have hSa := fun (W : World) (hW : Below w6.heap.size w6 W) => same_at ag b cg d gs ys W (hG6.below hW (Nat.le_refl _)) (hm6.below hW (Nat.le_refl _)) (fun y h => (hg6' y h).below hW (Nat.le_refl _)) (fun y h => (hy6 y h).below hW (Nat.le_refl _))
      have hL2 := fun (W : World) (hW : Below w6.heap.size w6 W) => like_at ag a cg c gs xs W (hG6.below hW (Nat.le_refl _)) (hl6.below hW (Nat.le_refl _)) (fun y h => (hg6' y h).below hW (Nat.le_refl _)) (fun y h => (hx6 y h).below hW (Nat.le_refl _))
      rw [Hf3.out] at hH hMi hSa hL2
      simp only [likeB_self] at hL2
      clear hl6 hm6 hf6 hG6 c0 c1 c2 c3
      generalize hasF (xs.map Fv.f) (Fv.f ⟨x1, x2, x3, xa, xc, xk⟩) = R1 at hH hRH
      generalize likeB (sortF (xs.map Fv.f)) (sortF (ys.map Fv.f)) = R2 at *
      have hL1 := fun (a8 a9 : Option Addr) (c8 c9 : Nat) (zs zs' : List Fv) (W : World) => like_at a8 a9 c8 c9 zs zs' W
      go_wp2_with fail
      go_region_held3 (fun W => W.cell? ⟨w.heap.size, 0, none⟩ = some (str x1) ∧ W.cell? ⟨w.heap.size, 1, none⟩ = some (str x2) ∧ W.cell? ⟨w.heap.size, 2, none⟩ = some (str x3) ∧ W.cell? ⟨w.heap.size, 3, none⟩ = some (.slice xa xk.length xc))
        (first | exact hbox _ D6 | exact hbox _ E14 | exact hbox _ E13 | exact hbox _ E12 | exact hbox _ E11 | exact hbox _ E10 | exact hbox _ E9 | exact hbox _ E8 | exact hbox _ E7)
        (first
          | (go_at_call 24; refine (hH w6.drew D6).mono ?_; rintro e w7 ⟨rfl, hb7⟩; have E7 := Below.then D6 hb7)
          | (go_at_call 25; refine (hRH w7 E7).mono ?_; rintro e w8 ⟨rfl, hg8⟩; have E8 := Below.then E7 hg8.below)
          | (go_at_call 26; refine (hMi w8 E8).mono ?_; rintro e w9 ⟨a9, c9, zs, rfl, hO9, hat9, hf9, hb9⟩; have E9 := Below.then E8 hb9)
          | (go_at_call 27; refine (hRM w9 E9).mono ?_; rintro e w10 ⟨a10, c10, zs', rfl, hO10, hin10, hf10, hb10⟩; have E10 := Below.then E9 hb10; have hlk := hL1 a9 a10 c9 c10 zs zs' w10 (hO9.lies.below hb10 (Nat.le_refl _)) hO10.lies (fun y h => (hat9 y h).below hb10 (Nat.le_refl _)) (fun y h => (hx6 y (hin10 y h)).below E10 (Nat.le_refl _)); rw [(likeB_iff _ _).2 (hf9.trans hf10.symm)] at hlk)
          | (go_at_call_of 21 (Value.slice a xs.length c); refine (hL2 w12 E12).mono ?_; rintro e w13 ⟨rfl, hg13⟩; have E13 := Below.then E12 hg13.below)
          | (go_at_call 21; refine hlk.mono ?_; rintro e w11 ⟨rfl, hg11⟩; have E11 := Below.then E10 hg11.below)
          | (go_at_call 28; refine (hSa w11 E11).mono ?_; rintro e w12 ⟨rfl, hb12⟩; have E12 := Below.then E11 hb12)
          | (go_at_call 13; refine (hV w13).mono ?_; rintro e w14 ⟨rfl, hb14⟩; have E14 := Below.then E13 hb14))
      all_goals go_wp2_with fail
      all_goals go_ret
      all_goals exact ⟨rfl, B6.trans (E14.mono B6.size)⟩

end Go.Proofs.Ytdlhleblolcjpaa
