/-
  Facts: what Order, the program's and the reference's, answers.
-/
import Derived.Test.YtomiefhfkdfgbaaCmp
import Derived.Deep.LoopGhost
import Derived.Deep.QuietTactic
import Derived.BigQuiet
namespace Go.Proofs.Ytomiefhfkdfgbaa
open Go.RowKit Go.Sort

/-- of two lists of constants the first k are the same -/
def Even (x y : List K) (k : Nat) : Prop := ∀ j (hx : j < x.length) (hy : j < y.length), j < k → cK x[j] y[j] = 0

set_option maxHeartbeats 2000000 in
theorem compareFunc_at (a a' : Option Addr) (c c' : Nat) (x y : List K) (w : World) (hx : ArgsAt w a c x) (hy : ArgsAt w a' c' y) :
    Calls Try.prog 65 #[.slice a x.length c, .slice a' y.length c', .func (.func 45) #[] #[]] w
      fun e w' => e = .returned (.int .i64 (cL cK x y)) ∧ Grew w w' := by
  have hC := fun (p q : K) (W : World) => compare_at p q W
  have b1 := hx.few; have b2 := hy.few
  have eg : ∀ args w, (callFunc 45 args).run Try.prog w = .ok (.enter 45 args) w := enters_of Try.func45 (by kernel_rfl) rfl
  go_enter Try.func65, Try.ntmps65
  go_wp2_with fail
  go_loopw [7, 8, 9, 10, 13] (fun _ _ _ _ v wr => ∃ k : Nat, v = .int .i64 (k : Int) ∧ k ≤ x.length ∧ k ≤ y.length ∧ Hid (Even x y k) ∧ Grew w wr) (fun _ _ _ _ v _ => x.length - (intOf v).toNat)
  case atStart => exact ⟨0, rfl, by omega, by omega, fun j _ _ h => absurd h (by omega), Grew.refl _⟩
  case round =>
    obtain ⟨k, rfl, hk, hk', hev, hg⟩ := hrel
    by_cases hlt : k < x.length
    · have q2 : (k : Int) < (x.length : Int) := by omega
      obtain ⟨B1, O1, rfl⟩ := hx.addr (by omega)
      obtain ⟨c1, c2, c3⟩ := (hx.below hg.below (Nat.le_refl _)).get k hlt
      have n1 := cell_block c1
      by_cases hlt' : k < y.length
      · have q3 : ¬ (y.length : Int) ≤ (k : Int) := by omega
        have q4 : (k : Int) < (y.length : Int) := by omega
        obtain ⟨B2, O2, rfl⟩ := hy.addr (by omega)
        obtain ⟨d1, d2, d3⟩ := (hy.below hg.below (Nat.le_refl _)).get k hlt'
        have n2 := cell_block d1
        have hn := hC x[k] y[k]
        have hev' : Hid (cK x[k] y[k] = 0 → Even x y (k + 1)) := fun h j hjx hjy hj => by
          by_cases e : j = k
          · subst e; exact h
          · exact hev.out j hjx hjy (by omega)
        have hhit : Hid (cK x[k] y[k] ≠ 0 → cL cK x y = cK x[k] y[k]) := fun h => cL_hit cK x y k hlt hlt' (fun j hjx hjy hj => hev.out j hjx hjy hj) h
        generalize x[k] = p at *
        generalize y[k] = q at *
        by_cases hr : cK p q = 0
        · have hev'' := hideP (hev'.out hr)
          simp only [hr] at hn
          go_wp2_with fail
          refine (hn _).mono ?_; rintro e w1 ⟨rfl, hg1⟩
          go_wp2_with fail
          exact ⟨⟨k + 1, by simp, by omega, by omega, hev'', (hg.allocs _).allocs _ |>.trans hg1⟩, by simp [intOf]; omega⟩
        · have hhit' := hideP (hhit.out hr)
          generalize cK p q = r at hn hr hhit'
          go_wp2_with fail
          refine (hn _).mono ?_; rintro e w1 ⟨rfl, hg1⟩
          go_wp2_with fail
          go_ret
          exact ⟨ret_int hhit'.out.symm, (hg.allocs _).allocs _ |>.trans hg1⟩
      · have q3 : (y.length : Int) ≤ (k : Int) := by omega
        go_wp2_with fail
        go_ret
        refine ⟨ret_int ?_, hg.allocs _⟩
        rw [cL_long cK x y (by omega) fun j hjx hjy => hev.out j hjx hjy (by omega)]
    · have q2 : ¬ (k : Int) < (x.length : Int) := by omega
      by_cases hlt' : x.length < y.length
      · have q3 : (x.length : Int) < (y.length : Int) := by omega
        go_wp2_with fail
        go_ret
        refine ⟨ret_int ?_, hg⟩
        rw [cL_short cK x y (by omega) fun j hjx hjy => hev.out j hjx hjy (by omega)]
      · have q3 : ¬ (x.length : Int) < (y.length : Int) := by omega
        go_wp2_with fail
        go_ret
        refine ⟨ret_int ?_, hg⟩
        rw [cL_even cK x y (by omega) fun j hjx hjy => hev.out j hjx hjy (by omega)]

theorem cF_at {x y : F} (h : cT x.at_ y.at_ ≠ 0) : cF x y = cT x.at_ y.at_ := by unfold cF; rw [lex2_ne h]
theorem cF_by {x y : F} (h0 : cT x.at_ y.at_ = 0) (h : cT x.by_ y.by_ ≠ 0) : cF x y = cT x.by_ y.by_ := by unfold cF; rw [h0, lex2_eq, lex2_ne h]
theorem cF_pred {x y : F} (h0 : cT x.at_ y.at_ = 0) (h1 : cT x.by_ y.by_ = 0) (h : cT x.pred y.pred ≠ 0) : cF x y = cT x.pred y.pred := by unfold cF; rw [h0, lex2_eq, h1, lex2_eq, lex2_ne h]
theorem cF_args {x y : F} (h0 : cT x.at_ y.at_ = 0) (h1 : cT x.by_ y.by_ = 0) (h : cT x.pred y.pred = 0) : cF x y = cL cK x.ks y.ks := by unfold cF; rw [h0, lex2_eq, h1, lex2_eq, h, lex2_eq]

set_option maxHeartbeats 2000000 in
theorem order_at (x y : Fv) (w : World) (hx : Fv.At w x) (hy : Fv.At w y) : Calls Try.prog 54 #[x.val, y.val] w fun e w' => e = .returned (.int .i64 (cF x.f y.f)) ∧ Grew w w' := by
  have hS := fun (l m : List UInt8) (W : World) => str_compare l m W
  have hL := fun (W : World) (hg : Grew w W) => compareFunc_at x.a y.a x.cap y.cap x.ks y.ks W (hx.grew hg) (hy.grew hg)
  have hg2 : ∀ o o' : Obj, Grew w ((w.alloc o).alloc o') := fun o o' => ((Grew.refl w).allocs o).allocs o'
  have e1 := @cF_at x.f y.f; have e2 := @cF_by x.f y.f; have e3 := @cF_pred x.f y.f; have e4 := @cF_args x.f y.f
  generalize cF x.f y.f = r at *
  simp only [Fv.f] at e1 e2 e3 e4
  clear hx hy
  obtain ⟨x1, x2, x3, xa, xc, xk⟩ := x; obtain ⟨y1, y2, y3, ya, yc, yk⟩ := y
  simp only at hL e1 e2 e3 e4
  have E1 := hideP e1; have E2 := hideP e2; have E3 := hideP e3; have E4 := hideP e4; clear e1 e2 e3 e4
  generalize cL cK xk yk = d at hL E4
  have H1 := hS x1 y1; have H2 := hS x2 y2; have H3 := hS x3 y3; clear hS
  generalize cT x1 y1 = r1 at *
  generalize cT x2 y2 = r2 at *
  generalize cT x3 y3 = r3 at *
  go_enter Try.func54, Try.ntmps54
  go_wp2_with fail
  refine (H1 _).mono ?_; rintro e w1 ⟨rfl, rfl⟩
  go_wp2_with fail
  · go_ret; exact ⟨ret_int (E1.out (by simp_all)).symm, hg2 _ _⟩
  refine (H2 _).mono ?_; rintro e w1 ⟨rfl, rfl⟩
  go_wp2_with fail
  · go_ret; exact ⟨ret_int (E2.out (by simp_all) (by simp_all)).symm, hg2 _ _⟩
  refine (H3 _).mono ?_; rintro e w1 ⟨rfl, rfl⟩
  go_wp2_with fail
  · go_ret; exact ⟨ret_int (E3.out (by simp_all) (by simp_all) (by simp_all)).symm, hg2 _ _⟩
  refine (hL _ (hg2 _ _)).mono ?_; rintro e w1 ⟨rfl, hg⟩
  go_wp2_with fail
  go_ret; exact ⟨ret_int (E4.out (by simp_all) (by simp_all) (by simp_all)).symm, (hg2 _ _).trans hg⟩

end Go.Proofs.Ytomiefhfkdfgbaa
