/-
  Same: whether two lists are the same set.
-/
import Derived.Test.YtdehimbfcilhpaaGreatDoorQSorted
namespace Go.Proofs.YtdehimbfcilhpaaGreatDoor
open Go.RowKit Go.Sort

theorem same1F_at (x y : Fv) (w : World) (hx : Fv.At w x) (hy : Fv.At w y) : Calls Tryz.prog 44 #[x.val, y.val] w fun e w' => e = .returned (.bool (decide (cV x y = 0))) ∧ Grew w w' := by
  have hO := fun (W : World) (hg : Grew w W) => order_at x y W (hx.grew hg) (hy.grew hg)
  have hg2 : ∀ o o' : Obj, Grew w ((w.alloc o).alloc o') := fun o o' => ((Grew.refl w).allocs o).allocs o'
  show Calls _ _ _ _ fun e w' => e = .returned (.bool (decide (cF x.f y.f = 0))) ∧ Grew w w'
  generalize cF x.f y.f = r at *
  obtain ⟨x1, x2, x3, xa, xc, xk⟩ := x; obtain ⟨y1, y2, y3, ya, yc, yk⟩ := y
  go_enter Tryz.func44, Tryz.ntmps44
  go_wp2_with fail
  refine (hO _ (hg2 _ _)).mono ?_; rintro e w1 ⟨rfl, hg⟩
  go_wp2_with fail
  go_ret
  refine ⟨ret_bool ?_, (hg2 _ _).trans hg⟩
  rw [Bool.eq_iff_iff]; simp

set_option maxHeartbeats 2000000 in
theorem equalFunc_at (a a' : Option Addr) (c c' : Nat) (xs ys : List Fv) (w : World) (hx : Lies w a c xs) (hy : Lies w a' c' ys) (ax : ∀ x ∈ xs, Fv.At w x) (ay : ∀ y ∈ ys, Fv.At w y) :
    Calls Tryz.prog 43 #[.slice a xs.length c, .slice a' ys.length c', .func (.func 44) #[] #[]] w fun e w' => e = .returned (.bool (likeB (xs.map Fv.f) (ys.map Fv.f))) ∧ Grew w w' := by
  have eg : ∀ args w, (callFunc 44 args).run Tryz.prog w = .ok (.enter 44 args) w := enters_of Tryz.func44 (by kernel_rfl) rfl
  have hC := fun (p q : Fv) (W : World) (hp : Fv.At W p) (hq : Fv.At W q) => same1F_at p q W hp hq
  have b1 := hx.few; have b2 := hy.few
  by_cases hl : xs.length = ys.length
  rotate_left
  · have q0 : ((xs.length : Int) != (ys.length : Int)) = true := by simp; omega
    have hno : likeB (xs.map Fv.f) (ys.map Fv.f) = false := likeB_no fun h => hl (by have := congrArg List.length h; simpa using this)
    rw [hno]
    go_enter Tryz.func43, Tryz.ntmps43
    go_wp2_with fail
    go_ret
    exact ⟨rfl, Grew.refl _⟩
  · have q0 : ((xs.length : Int) != (ys.length : Int)) = false := by simp; omega
    have Hl := hideP hl; clear hl
    go_enter Tryz.func43, Tryz.ntmps43
    go_wp2_with fail
    go_loopw [7, 8, 9, 17] (fun _ _ _ v wr => ∃ k : Nat, v = .int .i64 (k : Int) ∧ k ≤ xs.length ∧ Hid (∀ j (h1 : j < xs.length) (h2 : j < ys.length), j < k → xs[j].f = ys[j].f) ∧ Grew w wr) (fun _ _ _ v _ => xs.length - (intOf v).toNat)
    case atStart => exact ⟨0, rfl, by omega, fun j _ _ h => absurd h (by omega), Grew.refl _⟩
    case round =>
      obtain ⟨k, rfl, hk, hev, hg⟩ := hrel
      by_cases hlt : k < xs.length
      · have q2 : (k : Int) < (xs.length : Int) := by omega
        have hlt' : k < ys.length := by have := Hl.out; omega
        have q3 : (k : Int) < (ys.length : Int) := by omega
        obtain ⟨P1, O1, rfl⟩ := hx.addr (Nat.lt_of_le_of_lt (Nat.zero_le _) hlt)
        obtain ⟨P2, O2, rfl⟩ := hy.addr (Nat.lt_of_le_of_lt (Nat.zero_le _) hlt')
        obtain ⟨a1, a2, a3, a4⟩ := (hx.below hg.below (Nat.le_refl _)).get k hlt
        obtain ⟨d1, d2, d3, d4⟩ := (hy.below hg.below (Nat.le_refl _)).get k hlt'
        have D1 := fun o : Obj => Lib.cell?_alloc_some o d1
        have D2 := fun o : Obj => Lib.cell?_alloc_some o d2
        have D3 := fun o : Obj => Lib.cell?_alloc_some o d3
        have D4 := fun o : Obj => Lib.cell?_alloc_some o d4
        have hn := fun (o o' : Obj) => hC (xs[k]'hlt) (ys[k]'hlt') ((wr.alloc o).alloc o') ((ax _ (List.getElem_mem hlt)).grew ((hg.allocs _).allocs _)) ((ay _ (List.getElem_mem hlt')).grew ((hg.allocs _).allocs _))
        have hev' : Hid (cV (xs[k]'hlt) (ys[k]'hlt') = 0 → ∀ j (h1 : j < xs.length) (h2 : j < ys.length), j < k + 1 → xs[j].f = ys[j].f) := fun h j h1 h2 hj => by
          by_cases e : j = k
          · subst e; exact (cF_zero _ _).1 h
          · exact hev.out j h1 h2 (by omega)
        have hno : Hid (cV (xs[k]'hlt) (ys[k]'hlt') ≠ 0 → likeB (xs.map Fv.f) (ys.map Fv.f) = false) := fun h => likeB_no fun he => h (by
          rw [cV, cF_zero]
          have h1 : (xs.map Fv.f)[k]'(by simpa using hlt) = (ys.map Fv.f)[k]'(by simpa using hlt') := by simp only [he]
          simpa using h1)
        generalize (xs[k]'hlt) = p at *
        generalize (ys[k]'hlt') = q at *
        clear hC ax ay d1 d2 d3 d4
        by_cases hr : cV p q = 0
        · have hev'' := hideP (hev'.out hr)
          simp only [hr, decide_true] at hn
          go_wp2_with fail
          refine (hn _ _).mono ?_; rintro e w1 ⟨rfl, hg1⟩
          go_wp2_with fail
          exact ⟨⟨k + 1, by simp, by omega, hev'', (hg.allocs _).allocs _ |>.trans hg1⟩, by simp [intOf]; omega⟩
        · have hno' := hideP (hno.out hr)
          simp only [hr, decide_false] at hn
          go_wp2_with fail
          refine (hn _ _).mono ?_; rintro e w1 ⟨rfl, hg1⟩
          go_wp2_with fail
          go_ret
          exact ⟨ret_bool hno'.out.symm, (hg.allocs _).allocs _ |>.trans hg1⟩
      · have q2 : ¬ (k : Int) < (xs.length : Int) := by omega
        have hyes : Hid (likeB (xs.map Fv.f) (ys.map Fv.f) = true) := (likeB_iff _ _).2 (List.ext_getElem (by simpa using Hl.out) fun j h1 h2 => by
          simp only [List.getElem_map]
          exact hev.out j (by simpa using h1) (by simpa using h2) (by simp at h1; omega))
        go_wp2_with fail
        go_ret
        exact ⟨ret_bool hyes.out.symm, hg⟩

theorem sameF_at (a a' : Option Addr) (c c' : Nat) (xs ys : List Fv) (w : World) (hx : Lies w a c xs) (hy : Lies w a' c' ys) (ax : ∀ x ∈ xs, Fv.At w x) (ay : ∀ y ∈ ys, Fv.At w y) :
    Calls Tryz.prog 23 #[.slice a xs.length c, .slice a' ys.length c'] w fun e w' => e = .returned (.bool (likeB (sortF (xs.map Fv.f)) (sortF (ys.map Fv.f)))) ∧ Below w.heap.size w w' := by
  go_enter Tryz.func23, Tryz.ntmps23
  go_wp2_with fail
  refine (ordered_at a c xs w hx ax).mono ?_
  rintro e w1 ⟨a1, c1, us, rfl, hO1, hin1, hf1, hb1⟩
  have Hf1 := hideP hf1; clear hf1
  go_wp2_with fail
  refine (ordered_at a' c' ys w1 (hy.below hb1 (Nat.le_refl _)) (fun y h => (ay y h).below hb1 (Nat.le_refl _))).mono ?_
  rintro e w2 ⟨a2, c2, vs, rfl, hO2, hin2, hf2, hb2⟩
  have Hf2 := hideP hf2; clear hf2
  have hb12 := Below.then hb1 hb2
  have hE := equalFunc_at a1 a2 c1 c2 us vs w2 (hO1.lies.below hb2 (Nat.le_refl _)) hO2.lies (fun y h => (ax y (hin1 y h)).below hb12 (Nat.le_refl _)) (fun y h => (ay y (hin2 y h)).below hb12 (Nat.le_refl _))
  rw [Hf1.out, Hf2.out] at hE
  go_wp2_with fail
  refine hE.mono ?_
  rintro e w3 ⟨rfl, hg3⟩
  go_wp2_with fail
  go_ret
  exact ⟨rfl, Below.then hb12 hg3.below⟩

end Go.Proofs.YtdehimbfcilhpaaGreatDoor
