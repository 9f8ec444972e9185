/-
  Where this program bears the library's functions of which contracts are known: the numbers, and that the bodies are those.
-/
import Derived.Shelf.Lays
import Derived.Shelf.SlLaysH0
import Derived.Shelf.SlLaysC2
import Derived.KernelRfl
import Derived.Shelf.Small.Strs
import Derived.Shelf.SlicesG.Cmp
import Derived.Deep.LoopGhost
import Derived.Deep.QuietTactic
import Derived.BigQuiet
import Derived.Shelf.SlLaysF0
import Derived.Deep.MidRow
import Derived.Shelf.SlSortCmp.WholeK
import Derived.Shelf.SlSortCmp.NoneTotal
import Derived.Lib.SliceRun
import Derived.Test.YtdehimbfcilhpaaGreatDoorRows
import Derived.Test.YtdehimbfcilhpaaGreatDoorQOw
import Derived.Test.YtdehimbfcilhpaaGreatDoorQNa
namespace Go.Proofs
open Go.Shelf
def Tryz.strCmp_ren : Go.Shelf.Ren := ⟨fun | 106 => 69 | 213 => 90 | 265 => 130 | n => n, fun | 9 => 9 | 3 => 3 | n => n, fun | n => n⟩
theorem Tryz.strCmp : Go.Proofs.Lays.n106 Tryz.prog Tryz.strCmp_ren := {
  mixed := by kernel_rfl
  f106 := Tryz.func69.trans (congrArg some (by kernel_rfl))
  f213 := Tryz.func90.trans (congrArg some (by kernel_rfl))
  f265 := Tryz.func130.trans (congrArg some (by kernel_rfl))
  t3 := Tryz.underlying3
  a3 := Tryz.isAgg3
  z3 := Tryz.sizeOf3
  v3 := Tryz.zeroValue3
  t9 := Tryz.underlying9
  a9 := Tryz.isAgg9
  z9 := Tryz.sizeOf9
  v9 := Tryz.zeroValue9 }
def Tryz.cmpInt_ren : Go.Shelf.Ren := ⟨fun | 5 => 91 | 7 => 131 | n => n, fun | 22 => 3 | 3 => 3 | 4 => 4 | n => n, fun | n => n⟩
theorem Tryz.cmpInt : Go.Proofs.SlLaysC2.n5 Tryz.prog Tryz.cmpInt_ren := {
  mixed := by kernel_rfl
  f5 := ⟨Tryz.f91.name, by decide, Tryz.func91.trans (congrArg some (by kernel_rfl))⟩
  f7 := ⟨Tryz.f131.name, by decide, Tryz.func131.trans (congrArg some (by kernel_rfl))⟩
  t3 := Tryz.underlying3
  a3 := Tryz.isAgg3
  z3 := Tryz.sizeOf3
  v3 := Tryz.zeroValue3
  t4 := Tryz.underlying4
  a4 := Tryz.isAgg4
  z4 := Tryz.sizeOf4
  v4 := Tryz.zeroValue4
  t22 := Tryz.underlying3
  a22 := Tryz.isAgg3
  z22 := Tryz.sizeOf3
  v22 := Tryz.zeroValue3 }
end Go.Proofs

/-
  Where this program bears the library's ContainsFunc at terms, literals and rules: the numbers, and that the bodies are those.
-/
namespace Go.Proofs
open Go.Shelf
end Go.Proofs

/-
  Constants: what the program's Compare, and the reference's, answer.
-/
namespace Go.Proofs.YtdehimbfcilhpaaGreatDoor
open Go.RowKit Go.Sort

theorem str_compare (a b : List UInt8) (w : World) : Calls Tryz.prog 69 #[str a, str b] w fun e w' => e = .returned (.int .i64 (cT a b)) ∧ w = w' :=
  (Any.strings_Compare Tryz.strCmp ⟨a.toArray⟩ ⟨b.toArray⟩ w).mono fun _ _ ⟨h1, h2⟩ => ⟨h1, h2.symm⟩
theorem int_compare (a b : Int) (w : World) : Calls Tryz.prog 91 #[.int .i64 a, .int .i64 b] w fun e w' => e = .returned (.int .i64 (Lib.compareInt a b)) ∧ w = w' :=
  (AnyG.cmp_Compare_int Tryz.cmpInt a b w).mono fun _ _ ⟨h1, h2⟩ => ⟨h1, h2.symm⟩

theorem cK_num {x y : K} (h : x.num ≠ y.num) : cK x y = if x.num then -1 else 1 := by
  unfold cK lex2 cNum; cases hx : x.num <;> cases hy : y.num <;> simp_all
theorem cK_same {x y : K} (h : x.num = y.num) : cK x y = lex2 (Lib.compareInt x.n y.n) (cT x.s y.s) := by
  unfold cK; rw [show cNum x.num y.num = 0 by unfold cNum; rw [if_pos h], lex2, if_pos rfl]
theorem lex2_ne {a b : Int} (h : a ≠ 0) : lex2 a b = a := by unfold lex2; rw [if_neg h]
theorem lex2_eq (b : Int) : lex2 0 b = b := by unfold lex2; rw [if_pos rfl]

set_option maxHeartbeats 1000000 in
theorem compare_at (x y : K) (w : World) : Calls Tryz.prog 71 #[kval x, kval y] w fun e w' => e = .returned (.int .i64 (cK x y)) ∧ Grew w w' := by
  have hS := fun W => str_compare x.s y.s W
  have hI := fun W => int_compare x.n y.n W
  have h1 := @cK_num x y
  have h2 := @cK_same x y
  obtain ⟨xn, xi, xs⟩ := x; obtain ⟨yn, yi, ys⟩ := y
  simp only at hS hI h1 h2
  generalize cK ⟨xn, xi, xs⟩ ⟨yn, yi, ys⟩ = r at h1 h2 ⊢
  have H1 := hideP h1; have H2 := hideP h2; clear h1 h2
  generalize cT xs ys = c at hS H2
  generalize Lib.compareInt xi yi = d at hI H2
  cases xn <;> cases yn
  all_goals go_enter Tryz.func71, Tryz.ntmps71
  all_goals go_wp2_with (first | (go_at_call 69; refine (hS _).mono ?_; rintro e w' ⟨rfl, rfl⟩) | (go_at_call 91; refine (hI _).mono ?_; rintro e w' ⟨rfl, rfl⟩))
  all_goals (go_ret; refine ⟨ret_int ?_, ?_⟩)
  all_goals first
    | exact ((Grew.refl _).allocs _).allocs _
    | (rw [H1.out (by decide)]; rfl)
    | (rw [H2.out (by simp), lex2_ne (by assumption)])
    | (rw [H2.out (by simp)]; simp_all [lex2])

theorem texts_at (a b : List UInt8) (w : World) : Calls Tryz.prog 55 #[str a, str b] w fun e w' => e = .returned (.int .i64 (cT a b)) ∧ w = w' := by
  have h1 := bytesLess_cT a b
  have h2 : (a == b) = decide (cT a b = 0) := by rw [Bool.eq_iff_iff]; simp [cT_zero]
  have h3 := pre_cT.low a b
  have h4 := pre_cT.high a b
  generalize cT a b = c at *
  have H3 := hideP h3; have H4 := hideP h4; clear h3 h4
  go_enter Tryz.func55, Tryz.ntmps55
  go_wp2
  all_goals (go_ret; refine ⟨ret_int ?_, rfl⟩; have := H3.out; have := H4.out; simp_all; try omega)

set_option maxHeartbeats 1000000 in
theorem refcompare_at (x y : K) (w : World) : Calls Tryz.prog 56 #[kval x, kval y] w fun e w' => e = .returned (.int .i64 (cK x y)) ∧ Grew w w' := by
  have hS := fun W => texts_at x.s y.s W
  have h1 := @cK_num x y
  have h2 := @cK_same x y
  obtain ⟨xn, xi, xs⟩ := x; obtain ⟨yn, yi, ys⟩ := y
  simp only at hS h1 h2
  generalize cK ⟨xn, xi, xs⟩ ⟨yn, yi, ys⟩ = r at h1 h2 ⊢
  have H1 := hideP h1; have H2 := hideP h2; clear h1 h2
  generalize cT xs ys = c at hS H2
  cases xn <;> cases yn
  all_goals go_enter Tryz.func56, Tryz.ntmps56
  all_goals go_wp2_with (go_at_call 55; refine (hS _).mono ?_; rintro e w' ⟨rfl, rfl⟩)
  all_goals (go_ret; refine ⟨ret_int ?_, ?_⟩)
  all_goals first
    | exact ((Grew.refl _).allocs _).allocs _
    | (rw [H1.out (by decide)]; rfl)
    | (rw [H2.out (by simp)]; simp_all [lex2, Lib.compareInt]; try omega)

end Go.Proofs.YtdehimbfcilhpaaGreatDoor

/-
  Facts: what Order, the program's and the reference's, answers.
-/
namespace Go.Proofs.YtdehimbfcilhpaaGreatDoor
open Go.RowKit Go.Sort

/-- of two lists of constants the first k are the same -/
def Even (x y : List K) (k : Nat) : Prop := ∀ j (hx : j < x.length) (hy : j < y.length), j < k → cK x[j] y[j] = 0

set_option maxHeartbeats 2000000 in
theorem compareFunc_at (a a' : Option Addr) (c c' : Nat) (x y : List K) (w : World) (hx : ArgsAt w a c x) (hy : ArgsAt w a' c' y) :
    Calls Tryz.prog 70 #[.slice a x.length c, .slice a' y.length c', .func (.func 71) #[] #[]] w
      fun e w' => e = .returned (.int .i64 (cL cK x y)) ∧ Grew w w' := by
  have hC := fun (p q : K) (W : World) => compare_at p q W
  have b1 := hx.few; have b2 := hy.few
  have eg : ∀ args w, (callFunc 71 args).run Tryz.prog w = .ok (.enter 71 args) w := enters_of Tryz.func71 (by kernel_rfl) rfl
  go_enter Tryz.func70, Tryz.ntmps70
  go_wp2_with fail
  go_loopw [7, 8, 9, 10, 13] (fun _ _ _ _ v wr => ∃ k : Nat, v = .int .i64 (k : Int) ∧ k ≤ x.length ∧ k ≤ y.length ∧ Hid (Even x y k) ∧ Grew w wr) (fun _ _ _ _ v _ => x.length - (intOf v).toNat)
  case atStart => exact ⟨0, rfl, by omega, by omega, fun j _ _ h => absurd h (by omega), Grew.refl _⟩
  case round =>
    obtain ⟨k, rfl, hk, hk', hev, hg⟩ := hrel
    by_cases hlt : k < x.length
    · have q2 : (k : Int) < (x.length : Int) := by omega
      obtain ⟨B1, O1, rfl⟩ := hx.addr (by omega)
      obtain ⟨c1, c2, c3⟩ := (hx.below hg.below (Nat.le_refl _)).get k hlt
      have n1 := cell_block c1
      by_cases hlt' : k < y.length
      · have q3 : ¬ (y.length : Int) ≤ (k : Int) := by omega
        have q4 : (k : Int) < (y.length : Int) := by omega
        obtain ⟨B2, O2, rfl⟩ := hy.addr (by omega)
        obtain ⟨d1, d2, d3⟩ := (hy.below hg.below (Nat.le_refl _)).get k hlt'
        have n2 := cell_block d1
        have hn := hC x[k] y[k]
        have hev' : Hid (cK x[k] y[k] = 0 → Even x y (k + 1)) := fun h j hjx hjy hj => by
          by_cases e : j = k
          · subst e; exact h
          · exact hev.out j hjx hjy (by omega)
        have hhit : Hid (cK x[k] y[k] ≠ 0 → cL cK x y = cK x[k] y[k]) := fun h => cL_hit cK x y k hlt hlt' (fun j hjx hjy hj => hev.out j hjx hjy hj) h
        generalize x[k] = p at *
        generalize y[k] = q at *
        by_cases hr : cK p q = 0
        · have hev'' := hideP (hev'.out hr)
          simp only [hr] at hn
          go_wp2_with fail
          refine (hn _).mono ?_; rintro e w1 ⟨rfl, hg1⟩
          go_wp2_with fail
          exact ⟨⟨k + 1, by simp, by omega, by omega, hev'', (hg.allocs _).allocs _ |>.trans hg1⟩, by simp [intOf]; omega⟩
        · have hhit' := hideP (hhit.out hr)
          generalize cK p q = r at hn hr hhit'
          go_wp2_with fail
          refine (hn _).mono ?_; rintro e w1 ⟨rfl, hg1⟩
          go_wp2_with fail
          go_ret
          exact ⟨ret_int hhit'.out.symm, (hg.allocs _).allocs _ |>.trans hg1⟩
      · have q3 : (y.length : Int) ≤ (k : Int) := by omega
        go_wp2_with fail
        go_ret
        refine ⟨ret_int ?_, hg.allocs _⟩
        rw [cL_long cK x y (by omega) fun j hjx hjy => hev.out j hjx hjy (by omega)]
    · have q2 : ¬ (k : Int) < (x.length : Int) := by omega
      by_cases hlt' : x.length < y.length
      · have q3 : (x.length : Int) < (y.length : Int) := by omega
        go_wp2_with fail
        go_ret
        refine ⟨ret_int ?_, hg⟩
        rw [cL_short cK x y (by omega) fun j hjx hjy => hev.out j hjx hjy (by omega)]
      · have q3 : ¬ (x.length : Int) < (y.length : Int) := by omega
        go_wp2_with fail
        go_ret
        refine ⟨ret_int ?_, hg⟩
        rw [cL_even cK x y (by omega) fun j hjx hjy => hev.out j hjx hjy (by omega)]

theorem cF_at {x y : F} (h : cT x.at_ y.at_ ≠ 0) : cF x y = cT x.at_ y.at_ := by unfold cF; rw [lex2_ne h]
theorem cF_by {x y : F} (h0 : cT x.at_ y.at_ = 0) (h : cT x.by_ y.by_ ≠ 0) : cF x y = cT x.by_ y.by_ := by unfold cF; rw [h0, lex2_eq, lex2_ne h]
theorem cF_pred {x y : F} (h0 : cT x.at_ y.at_ = 0) (h1 : cT x.by_ y.by_ = 0) (h : cT x.pred y.pred ≠ 0) : cF x y = cT x.pred y.pred := by unfold cF; rw [h0, lex2_eq, h1, lex2_eq, lex2_ne h]
theorem cF_args {x y : F} (h0 : cT x.at_ y.at_ = 0) (h1 : cT x.by_ y.by_ = 0) (h : cT x.pred y.pred = 0) : cF x y = cL cK x.ks y.ks := by unfold cF; rw [h0, lex2_eq, h1, lex2_eq, h, lex2_eq]

set_option maxHeartbeats 2000000 in
theorem order_at (x y : Fv) (w : World) (hx : Fv.At w x) (hy : Fv.At w y) : Calls Tryz.prog 42 #[x.val, y.val] w fun e w' => e = .returned (.int .i64 (cF x.f y.f)) ∧ Grew w w' := by
  have hS := fun (l m : List UInt8) (W : World) => str_compare l m W
  have hL := fun (W : World) (hg : Grew w W) => compareFunc_at x.a y.a x.cap y.cap x.ks y.ks W (hx.grew hg) (hy.grew hg)
  have hg2 : ∀ o o' : Obj, Grew w ((w.alloc o).alloc o') := fun o o' => ((Grew.refl w).allocs o).allocs o'
  have e1 := @cF_at x.f y.f; have e2 := @cF_by x.f y.f; have e3 := @cF_pred x.f y.f; have e4 := @cF_args x.f y.f
  generalize cF x.f y.f = r at *
  simp only [Fv.f] at e1 e2 e3 e4
  clear hx hy
  obtain ⟨x1, x2, x3, xa, xc, xk⟩ := x; obtain ⟨y1, y2, y3, ya, yc, yk⟩ := y
  simp only at hL e1 e2 e3 e4
  have E1 := hideP e1; have E2 := hideP e2; have E3 := hideP e3; have E4 := hideP e4; clear e1 e2 e3 e4
  generalize cL cK xk yk = d at hL E4
  have H1 := hS x1 y1; have H2 := hS x2 y2; have H3 := hS x3 y3; clear hS
  generalize cT x1 y1 = r1 at *
  generalize cT x2 y2 = r2 at *
  generalize cT x3 y3 = r3 at *
  go_enter Tryz.func42, Tryz.ntmps42
  go_wp2_with fail
  refine (H1 _).mono ?_; rintro e w1 ⟨rfl, rfl⟩
  go_wp2_with fail
  · go_ret; exact ⟨ret_int (E1.out (by simp_all)).symm, hg2 _ _⟩
  refine (H2 _).mono ?_; rintro e w1 ⟨rfl, rfl⟩
  go_wp2_with fail
  · go_ret; exact ⟨ret_int (E2.out (by simp_all) (by simp_all)).symm, hg2 _ _⟩
  refine (H3 _).mono ?_; rintro e w1 ⟨rfl, rfl⟩
  go_wp2_with fail
  · go_ret; exact ⟨ret_int (E3.out (by simp_all) (by simp_all) (by simp_all)).symm, hg2 _ _⟩
  refine (hL _ (hg2 _ _)).mono ?_; rintro e w1 ⟨rfl, hg⟩
  go_wp2_with fail
  go_ret; exact ⟨ret_int (E4.out (by simp_all) (by simp_all) (by simp_all)).symm, (hg2 _ _).trans hg⟩

end Go.Proofs.YtdehimbfcilhpaaGreatDoor

/-
  Where this program bears the library's functions of which contracts are known: the numbers, and that the bodies are those.
-/
namespace Go.Proofs
open Go.Shelf
def Tryz.sortF_ren : Go.Shelf.Ren := ⟨fun | 6 => 65 | 15 => 89 | 14 => 88 | 28 => 128 | 29 => 129 | 20 => 120 | 21 => 121 | 22 => 122 | 23 => 123 | 24 => 124 | 25 => 125 | 26 => 126 | 27 => 127 | 46 => 156 | 47 => 157 | 48 => 158 | 49 => 159 | 50 => 160 | 57 => 170 | n => n, fun | 22 => 24 | 24 => 36 | 25 => 70 | 3 => 3 | 39 => 115 | 0 => 0 | 53 => 177 | 55 => 179 | 4 => 4 | 46 => 171 | 45 => 170 | 50 => 76 | 5 => 5 | 9 => 9 | 66 => 205 | 70 => 209 | 76 => 218 | 77 => 219 | n => n, fun | n => n⟩
theorem Tryz.sortF : Go.Proofs.SlLaysF0.n6 Tryz.prog Tryz.sortF_ren := {
  mixed := by kernel_rfl
  f6 := ⟨Tryz.f65.name, by decide, Tryz.func65.trans (congrArg some (by kernel_rfl))⟩
  f14 := ⟨Tryz.f88.name, by decide, Tryz.func88.trans (congrArg some (by kernel_rfl))⟩
  f15 := Tryz.func89.trans (congrArg some (by kernel_rfl))
  f20 := ⟨Tryz.f120.name, by decide, Tryz.func120.trans (congrArg some (by kernel_rfl))⟩
  f21 := ⟨Tryz.f121.name, by decide, Tryz.func121.trans (congrArg some (by kernel_rfl))⟩
  f22 := ⟨Tryz.f122.name, by decide, Tryz.func122.trans (congrArg some (by kernel_rfl))⟩
  f23 := ⟨Tryz.f123.name, by decide, Tryz.func123.trans (congrArg some (by kernel_rfl))⟩
  f24 := ⟨Tryz.f124.name, by decide, Tryz.func124.trans (congrArg some (by kernel_rfl))⟩
  f25 := ⟨Tryz.f125.name, by decide, Tryz.func125.trans (congrArg some (by kernel_rfl))⟩
  f26 := ⟨Tryz.f126.name, by decide, Tryz.func126.trans (congrArg some (by kernel_rfl))⟩
  f27 := ⟨Tryz.f127.name, by decide, Tryz.func127.trans (congrArg some (by kernel_rfl))⟩
  f28 := Tryz.func128.trans (congrArg some (by kernel_rfl))
  f29 := Tryz.func129.trans (congrArg some (by kernel_rfl))
  f46 := ⟨Tryz.f156.name, by decide, Tryz.func156.trans (congrArg some (by kernel_rfl))⟩
  f47 := Tryz.func157.trans (congrArg some (by kernel_rfl))
  f48 := Tryz.func158.trans (congrArg some (by kernel_rfl))
  f49 := ⟨Tryz.f159.name, by decide, Tryz.func159.trans (congrArg some (by kernel_rfl))⟩
  f50 := ⟨Tryz.f160.name, by decide, Tryz.func160.trans (congrArg some (by kernel_rfl))⟩
  f57 := ⟨Tryz.f170.name, by decide, Tryz.func170.trans (congrArg some (by kernel_rfl))⟩
  t0 := Tryz.underlying0
  a0 := Tryz.isAgg0
  z0 := Tryz.sizeOf0
  v0 := Tryz.zeroValue0
  t3 := Tryz.underlying3
  a3 := Tryz.isAgg3
  z3 := Tryz.sizeOf3
  v3 := Tryz.zeroValue3
  t4 := Tryz.underlying4
  a4 := Tryz.isAgg4
  z4 := Tryz.sizeOf4
  v4 := Tryz.zeroValue4
  t5 := Tryz.underlying5
  a5 := Tryz.isAgg5
  z5 := Tryz.sizeOf5
  v5 := Tryz.zeroValue5
  t9 := Tryz.underlying9
  a9 := Tryz.isAgg9
  z9 := Tryz.sizeOf9
  v9 := Tryz.zeroValue9
  t22 := Tryz.underlying24
  a22 := Tryz.isAgg24
  z22 := Tryz.sizeOf24
  v22 := Tryz.zeroValue24
  t25 := Tryz.underlying70
  a25 := Tryz.isAgg70
  z25 := Tryz.sizeOf70
  v25 := Tryz.zeroValue70
  t39 := Tryz.underlying115
  a39 := Tryz.isAgg115
  z39 := Tryz.sizeOf115
  v39 := Tryz.zeroValue115
  t45 := Tryz.underlying170
  a45 := Tryz.isAgg170
  z45 := Tryz.sizeOf170
  v45 := Tryz.zeroValue170
  t46 := Tryz.underlying171
  a46 := Tryz.isAgg171
  z46 := Tryz.sizeOf171
  v46 := Tryz.zeroValue171
  t50 := Tryz.underlying76
  a50 := Tryz.isAgg76
  z50 := Tryz.sizeOf76
  v50 := Tryz.zeroValue76
  t53 := Tryz.underlying177
  a53 := Tryz.isAgg177
  z53 := Tryz.sizeOf177
  v53 := Tryz.zeroValue177
  t55 := Tryz.underlying179
  a55 := Tryz.isAgg179
  z55 := Tryz.sizeOf179
  v55 := Tryz.zeroValue179
  t66 := Tryz.underlying205
  a66 := Tryz.isAgg205
  z66 := Tryz.sizeOf205
  v66 := Tryz.zeroValue205
  t70 := Tryz.underlying209
  a70 := Tryz.isAgg209
  z70 := Tryz.sizeOf209
  v70 := Tryz.zeroValue209
  t76 := Tryz.underlying218
  a76 := Tryz.isAgg218
  z76 := Tryz.sizeOf218
  v76 := Tryz.zeroValue218
  t77 := Tryz.underlying219
  a77 := Tryz.isAgg219
  z77 := Tryz.sizeOf219
  v77 := Tryz.zeroValue219 }
def Tryz.hasF_ren : Go.Shelf.Ren := ⟨fun | 8 => 45 | 6 => 68 | n => n, fun | 22 => 24 | 23 => 36 | 25 => 81 | 4 => 4 | 3 => 3 | 0 => 0 | n => n, fun | n => n⟩
theorem Tryz.hasF : Go.Proofs.SlLaysH0.n8 Tryz.prog Tryz.hasF_ren := {
  mixed := by kernel_rfl
  f6 := ⟨Tryz.f68.name, by decide, Tryz.func68.trans (congrArg some (by kernel_rfl))⟩
  f8 := ⟨Tryz.f45.name, by decide, Tryz.func45.trans (congrArg some (by kernel_rfl))⟩
  t0 := Tryz.underlying0
  a0 := Tryz.isAgg0
  z0 := Tryz.sizeOf0
  v0 := Tryz.zeroValue0
  t3 := Tryz.underlying3
  a3 := Tryz.isAgg3
  z3 := Tryz.sizeOf3
  v3 := Tryz.zeroValue3
  t4 := Tryz.underlying4
  a4 := Tryz.isAgg4
  z4 := Tryz.sizeOf4
  v4 := Tryz.zeroValue4
  t22 := Tryz.underlying24
  a22 := Tryz.isAgg24
  z22 := Tryz.sizeOf24
  v22 := Tryz.zeroValue24
  t25 := Tryz.underlying81
  a25 := Tryz.isAgg81
  z25 := Tryz.sizeOf81
  v25 := Tryz.zeroValue81 }
def Tryz.idxF_ren : Go.Shelf.Ren := ⟨fun | 6 => 68 | n => n, fun | 22 => 24 | 23 => 36 | 25 => 81 | 3 => 3 | 0 => 0 | 4 => 4 | n => n, fun | n => n⟩
theorem Tryz.idxF : Go.Proofs.SlLaysH0.n6 Tryz.prog Tryz.idxF_ren := {
  mixed := by kernel_rfl
  f6 := ⟨Tryz.f68.name, by decide, Tryz.func68.trans (congrArg some (by kernel_rfl))⟩
  t0 := Tryz.underlying0
  a0 := Tryz.isAgg0
  z0 := Tryz.sizeOf0
  v0 := Tryz.zeroValue0
  t3 := Tryz.underlying3
  a3 := Tryz.isAgg3
  z3 := Tryz.sizeOf3
  v3 := Tryz.zeroValue3
  t4 := Tryz.underlying4
  a4 := Tryz.isAgg4
  z4 := Tryz.sizeOf4
  v4 := Tryz.zeroValue4
  t22 := Tryz.underlying24
  a22 := Tryz.isAgg24
  z22 := Tryz.sizeOf24
  v22 := Tryz.zeroValue24
  t25 := Tryz.underlying81
  a25 := Tryz.isAgg81
  z25 := Tryz.sizeOf81
  v25 := Tryz.zeroValue81 }
end Go.Proofs

/-
  Facts are made: constants and Args in memory of the call's own.
-/
namespace Go.Proofs.YtdehimbfcilhpaaGreatDoor
open Go.RowKit Go.Sort

theorem flat_spot {α β : Type} (f : α → List β) (k : Nat) (hk : ∀ x, (f x).length = k) (l : List α) (j : Nat) (u : β) (h : (l.flatMap f)[j]? = some u) : ∃ i c, ∃ hi : i < l.length, c < k ∧ j = i * k + c ∧ (f l[i])[c]? = some u := by
  have hj := (List.getElem?_eq_some_iff.1 h).1
  rw [flat_len f k hk] at hj
  have hk0 : 0 < k := by rcases Nat.eq_zero_or_pos k with rfl | h0; · simp at hj
                         · exact h0
  have hd := Nat.div_add_mod' j k
  have hi : j / k < l.length := Nat.div_lt_of_lt_mul (by rw [Nat.mul_comm]; exact hj)
  refine ⟨j / k, j % k, hi, Nat.mod_lt _ hk0, by omega, ?_⟩
  rw [← flat_get f k hk l (j / k) (j % k) hi (Nat.mod_lt _ hk0), hd, h]

theorem results_row {P : Program} {fn : Func} {p : Tmp} {ty : TypeId} {tmps : Array Value} {w : World} {b o : Nat} {cs : List Value} {d : TypeDesc} (h : fn.results = #[.cell p ty]) (hp : tmps.getD p undef = .pointer (some ⟨b, o, none⟩)) (hc : w.rangeAt b o cs)
    (hu : P.underlying ty = some d) (hd : d.isRow = true) (hi : (P.info? ty).map (·.size) = some cs.length) : (results fn tmps).run P w = .ok (.agg cs.toArray) w := by
  simp only [Array.getD_eq_getD_getElem?] at hp
  simp only [results, h]
  simp [asAddr, hp, run_loadVar_mid w b o ty cs d hc hu hd hi]

theorem range_new (w : World) (c : Array Value) (t : TypeId) (cs : List Value) (h : c.toList = cs) : (w.alloc (.cells c t)).rangeAt w.heap.size 0 cs := fun j v hv => by
  subst h
  simp at hv
  simp [hv]

theorem Tryz.infoK : (Tryz.prog.info? 56).map (fun i => (i.zero, i.size, i.bytes)) = some (some (.agg #[.bool false, .int .i64 0, .string .empty]), 3, 32) := by kernel_rfl
theorem Tryz.infoF : (Tryz.prog.info? 36).map (fun i => (i.zero, i.size, i.bytes)) = some (some (.agg #[.string .empty, .string .empty, .string .empty, .slice none 0 0]), 4, 72) := by kernel_rfl

/-- a row of constants of the call's own -/
theorem own_args {w : World} {base : Nat} {v : Value} {n : Nat} {ks : List K} (h : w.ownsRow base 56 3 v n (kcells ks)) (hf : ks.length ≤ 4398046510976) :
    ∃ a c, v = .slice a ks.length c ∧ ArgsAt w a c ks ∧ ∀ ad, a = some ad → base ≤ ad.block := by
  have hn : ks.length = n := by have := h.1; rw [kcells_len] at this; omega
  subst hn
  rcases h.2 with ⟨hv, h0⟩ | ⟨g, cap, cur, hv, hb, hg, hnc, hcm, hcs, ht⟩
  · have : ks = [] := List.eq_nil_of_length_eq_zero h0
    subst this
    exact ⟨none, 0, hv, ArgsAt.nil w, fun _ h => by cases h⟩
  · refine ⟨some ⟨g, 0, none⟩, cap, hv, ⟨hnc, hf, (fun h => by cases h), fun ad ha j u hu => ?_⟩, (fun ad ha => by cases ha; exact hb)⟩
    cases ha
    have hj : j < ks.length * 3 := by have := (List.getElem?_eq_some_iff.1 hu).1; rwa [kcells_len] at this
    rw [← ht, List.getElem?_take, if_pos hj] at hu
    rw [Addr.add_lit, Nat.zero_add]
    simp only [World.cell?, hg]
    simpa using hu

/-- Args lie in a block of constants -/
def TagK (w : World) (a : Option Addr) : Prop := ∀ ad, a = some ad → ∃ cur : Array Value, w.heap[ad.block]? = some (.cells cur 56)
theorem TagK.below {w w' : World} {a : Option Addr} (h : TagK w a) (hb : Below w.heap.size w w') : TagK w' a := fun ad ha => by
  obtain ⟨cur, hc⟩ := h ad ha
  exact ⟨cur, (hb.block _ (heap_lt hc)).trans hc⟩
theorem TagK.setCell {w : World} {a : Option Addr} (h : TagK w a) (p : Addr) (u : Value) (hp : ∀ ad, a = some ad → ad.block ≠ p.block) : TagK (w.setCell p u) a := fun ad ha => by
  obtain ⟨cur, hc⟩ := h ad ha
  exact ⟨cur, (Below.heap_setCell w p u _ (hp ad ha)).trans hc⟩
theorem own_args_tag {w : World} {base : Nat} {a : Option Addr} {m c n : Nat} {ks : List K} (h : w.ownsRow base 56 3 (.slice a m c) n (kcells ks)) : TagK w a := fun ad ha => by
  rcases h.2 with ⟨h0, _⟩ | ⟨g, cap, cur, hv, _, hh, _⟩
  · cases h0; cases ha
  · cases hv; cases ha; exact ⟨cur, hh⟩

/-- append([]Const(nil), args...) -/
theorem wpList_append_ks (w : World) {ops : Array Oper} {rest : List Oper} {o : Oper} {a : Act} {Q : Exit → Act → World → Prop} (hgd : o.guard = none) (s x : Operand)
    (ho : o.op = .call { callee := .builtin .append, args := #[s, x], argTypes := #[34, 34] })
    (ks : List K) (ao : Option Addr) (c : Nat) (hs : a.eval s = .slice none 0 0) (hx : a.eval x = .slice ao ks.length c) (hl : ArgsAt w ao c ks)
    (h : ∀ a' c' w', ArgsAt w' a' c' ks → (∀ ad, a' = some ad → w.heap.size ≤ ad.block) → Below w.heap.size w w' → TagK w' a' → wpList Tryz.prog ops Q rest (a.put o.dst (.slice a' ks.length c')) w') : wpList Tryz.prog ops Q (o :: rest) a w := by
  obtain ⟨i0, hi, hz0, hz1, hz2⟩ := info_parts Tryz.infoK
  have hown : w.ownsRow w.heap.size 56 3 (.slice none 0 0) 0 (kcells []) := ⟨rfl, .inl ⟨rfl, rfl⟩⟩
  cases ao with
  | none =>
    obtain ⟨rfl, rfl⟩ := hl.void rfl
    exact wpList_append_own_none hgd s x 34 ho w.heap.size 56 i0 3 Tryz.underlying34 hi _ 0 (kcells []) hs hown hx (h none 0 w (ArgsAt.nil w) (fun _ h => by cases h) (Below.refl _ _) (fun _ h => by cases h))
  | some ad =>
    have hf := hl.few
    refine wpList_append_own w hgd s x 34 ho w.heap.size 56 i0 _ 3 32 Tryz.underlying34 hi hz0 hz1 hz2 rfl (by decide) _ 0 (kcells []) hs hown ad ks.length c (kcells ks) hx (kcells_len ks) (hl.cells ad rfl) (kcells_one ks) (by unfold maxLen; omega) (by omega) (Nat.le_refl _) ?_
    intro v' w' ho' hg' hn'
    have hbel : Below w.heap.size w w' := (Below.refl _ _).grown hg' (Nat.le_refl _) (fun k hk => by cases hk)
    have ho2 : w'.ownsRow w.heap.size 56 3 v' (0 + ks.length) (kcells ks) := by simpa [kcells] using ho'
    obtain ⟨a', c', rfl, hA, hF⟩ := own_args (ks := ks) ho2 hf
    exact h a' c' w' hA hF hbel (own_args_tag ho2)

theorem ArgsAt.setCell {w : World} {a : Option Addr} {c : Nat} {ks : List K} (h : ArgsAt w a c ks) (p : Addr) (u : Value) (hp : ∀ ad, a = some ad → ad.block ≠ p.block) : ArgsAt (w.setCell p u) a c ks :=
  ⟨h.room, h.few, h.void, fun ad ha j v hv => by
    rw [← h.cells ad ha j v hv]
    exact World.cell?_of_block (w := w) (Below.heap_setCell w p u _ (by rw [addr_add_block]; exact hp ad ha))⟩

theorem heap_alloc2 (w : World) (o1 o2 : Obj) : ((w.alloc o1).alloc o2).heap[w.heap.size]? = some o1 ∧ ((w.alloc o1).alloc o2).heap[w.heap.size + 1]? = some o2 := by
  refine ⟨(Below.heap_alloc _ _ _ (by simp)).trans (heap_alloc_new w _), ?_⟩
  have := heap_alloc_new (w.alloc o1) o2
  rwa [show (w.alloc o1).heap.size = w.heap.size + 1 by simp] at this

set_option maxHeartbeats 1000000 in
theorem clone_at (x : Fv) (w : World) (hx : Fv.At w x) : Calls Tryz.prog 57 #[x.val] w fun e w' => ∃ a c, e = .returned (Fv.val { x with a := a, cap := c }) ∧ ArgsAt w' a c x.ks ∧ (∀ ad, a = some ad → w.heap.size ≤ ad.block) ∧ Below w.heap.size w w' ∧ TagK w' a := by
  obtain ⟨x1, x2, x3, xa, xc, xk⟩ := x
  have hx : ArgsAt w xa xc xk := hx
  have hx1 : ∀ o o' : Obj, ArgsAt ((w.alloc o).alloc o') xa xc xk := fun o o' => hx.below (B := w.heap.size) ((below_alloc _ _).alloc (by simp) _) (Nat.le_refl _)
  go_enter Tryz.func57, Tryz.ntmps57
  go_wp2_with (at_builtin; refine wpList_append_ks _ rfl _ _ rfl xk xa xc rfl rfl (hx1 _ _) ?ap)
  case ap =>
    intro a' c' w' hA hF hB hT
    have h1 : w'.heap[w.heap.size]? = some (.cells #[str x1, str x2, str x3, .slice xa xk.length xc] 36) := (hB.block _ (by omega)).trans (heap_alloc2 _ _ _).1
    have h2 : w'.heap[w.heap.size + 1]? = some (.cells #[.string .empty, .string .empty, .string .empty, .slice none 0 0] 36) := (hB.block _ (by omega)).trans (heap_alloc2 _ _ _).2
    have b0 := heap_cell h1 0; have b1 := heap_cell h1 1; have b2 := heap_cell h1 2; have b3 := heap_cell h1 3; have b4 := heap_frozen h1 3
    have d0 := heap_cell h2 0; have d1 := heap_cell h2 1; have d2 := heap_cell h2 2; have d3 := heap_cell h2 3
    have e0 := heap_frozen h2 0; have e1 := heap_frozen h2 1; have e2 := heap_frozen h2 2; have e3 := heap_frozen h2 3
    simp at b0 b1 b2 b3 d0 d1 d2 d3
    have hBw : Below w.heap.size w w' := ((below_alloc _ _).alloc (by simp) _).trans (hB.mono (by omega))
    clear h1 h2 hB
    go_wp2_with fail
    refine bodyPost_ret (results_row (b := w.heap.size + 1) (o := 0) (cs := fv ⟨x1, x2, x3, a', c', xk⟩) rfl rfl ?_ Tryz.underlying36 rfl (by kernel_rfl)) rfl ⟨a', c', rfl, ?_, fun ad ha => by have := hF ad ha; omega, ?_, ?_⟩
    · intro j v hv
      match j, hv with
      | 0, hv => simp [fv] at hv; subst hv; simp [World.cell?_setCell_other, World.cell?_setCell_same', d0]
      | 1, hv => simp [fv] at hv; subst hv; simp [World.cell?_setCell_other, World.cell?_setCell_same', d1]
      | 2, hv => simp [fv] at hv; subst hv; simp [World.cell?_setCell_other, World.cell?_setCell_same', d2]
      | 3, hv => simp [fv] at hv; subst hv; simp [World.cell?_setCell_other, World.cell?_setCell_same', d3]
      | j + 4, hv => simp [fv] at hv
    · have hne : ∀ ad : Addr, a' = some ad → ad.block ≠ w.heap.size := fun ad ha => by have := hF ad ha; omega
      have hne' : ∀ ad : Addr, a' = some ad → ad.block ≠ w.heap.size + 1 := fun ad ha => by have := hF ad ha; omega
      exact ((((hA.setCell _ _ hne).setCell _ _ hne').setCell _ _ hne').setCell _ _ hne').setCell _ _ hne'
    · exact ((((hBw.setCell (p := ⟨w.heap.size, 3, none⟩) (Nat.le_refl _) _).setCell (p := ⟨w.heap.size + 1, 0, none⟩) (Nat.le_succ _) _).setCell (p := ⟨w.heap.size + 1, 1, none⟩) (Nat.le_succ _) _).setCell (p := ⟨w.heap.size + 1, 2, none⟩) (Nat.le_succ _) _).setCell (p := ⟨w.heap.size + 1, 3, none⟩) (Nat.le_succ _) _
    · have hne : ∀ ad : Addr, a' = some ad → ad.block ≠ w.heap.size := fun ad ha => by have := hF ad ha; omega
      have hne' : ∀ ad : Addr, a' = some ad → ad.block ≠ w.heap.size + 1 := fun ad ha => by have := hF ad ha; omega
      exact ((((hT.setCell _ _ hne).setCell _ _ hne').setCell _ _ hne').setCell _ _ hne').setCell _ _ hne'

theorem lies_new (w : World) (c : Array Value) (t : TypeId) (xs : List Fv) (h : c.toList = fcells xs) (hf : xs.length ≤ 1954687338211) : Lies (w.alloc (.cells c t)) (some ⟨w.heap.size, 0, none⟩) xs.length xs :=
  ⟨Nat.le_refl _, by unfold maxLen; omega, hf, (fun h => by cases h), fun ad ha j u hu => by
    cases ha
    rw [Addr.add_lit, heap_cell (heap_alloc_new w _), Nat.zero_add, ← Array.getElem?_toList, h]
    exact hu⟩

end Go.Proofs.YtdehimbfcilhpaaGreatDoor

/-
  Rows of facts in memory of the call's own; slices.SortFunc over them.
-/
namespace Go.Proofs.YtdehimbfcilhpaaGreatDoor
open Go.RowKit Go.Sort

theorem But.cell {h : Nat} {w w' : World} (x : But h w w') {p : Addr} (hp : p.block ≠ h) (hs : p.block < w.heap.size) : w'.cell? p = w.cell? p := World.cell?_of_block (w := w) (x.block p.block hs hp)

/-- A ROW OF FACTS from the head of block b on, that may be written -/
def RowF (w : World) (b : Nat) (xs : List Fv) : Prop := ∀ i (hi : i < xs.length) c, c < 4 → w.cell? ⟨b, i * 4 + c, none⟩ = (fv xs[i])[c]? ∧ w.frozen? ⟨b, i * 4 + c, none⟩ = false
theorem RowF.below {w w' : World} {b : Nat} {xs : List Fv} {B : Nat} (h : RowF w b xs) (hb : Below B w w') (hB : b < B) : RowF w' b xs := fun i hi c hc => by
  rw [hb.cell (p := ⟨b, i * 4 + c, none⟩) hB, hb.frozen (p := ⟨b, i * 4 + c, none⟩) hB]; exact h i hi c hc
theorem RowF.lt {w : World} {b : Nat} {xs : List Fv} (h : RowF w b xs) (h0 : 0 < xs.length) : b < w.heap.size := by
  have := (h 0 h0 0 (by omega)).1
  exact cell_block (p := ⟨b, 0 * 4 + 0, none⟩) (v := str xs[0].at_) (by rw [this]; rfl)
theorem RowF.cells {w : World} {b : Nat} {xs : List Fv} (h : RowF w b xs) : ∀ j u, (fcells xs)[j]? = some u → w.cell? ((⟨b, 0, none⟩ : Addr).add j) = some u := fun j u hu => by
  obtain ⟨i, c, hi, hc, rfl, hv⟩ := flat_spot fv 4 fv_len xs j u hu
  rw [Addr.add_lit, Nat.zero_add, (h i hi c hc).1, hv]
theorem RowF.lies {w : World} {b cap : Nat} {xs : List Fv} (h : RowF w b xs) (h1 : xs.length ≤ cap) (h2 : cap ≤ maxLen) (h3 : xs.length ≤ 1954687338211) : Lies w (some ⟨b, 0, none⟩) cap xs :=
  ⟨h1, h2, h3, fun h => (by cases h), fun ad ha => by cases ha; exact h.cells⟩
theorem RowF.get {w : World} {b : Nat} {xs : List Fv} (h : RowF w b xs) (i : Nat) (hi : i < xs.length) :
    w.cell? ⟨b, i * 4, none⟩ = some (str xs[i].at_) ∧ w.cell? ⟨b, i * 4 + 1, none⟩ = some (str xs[i].by_) ∧ w.cell? ⟨b, i * 4 + 2, none⟩ = some (str xs[i].pred) ∧ w.cell? ⟨b, i * 4 + 3, none⟩ = some (.slice xs[i].a xs[i].ks.length xs[i].cap) :=
  ⟨(h i hi 0 (by omega)).1, (h i hi 1 (by omega)).1, (h i hi 2 (by omega)).1, (h i hi 3 (by omega)).1⟩
theorem RowF.thaw {w : World} {b : Nat} {xs : List Fv} (h : RowF w b xs) (i : Nat) (hi : i < xs.length) :
    w.frozen? ⟨b, i * 4, none⟩ = false ∧ w.frozen? ⟨b, i * 4 + 1, none⟩ = false ∧ w.frozen? ⟨b, i * 4 + 2, none⟩ = false ∧ w.frozen? ⟨b, i * 4 + 3, none⟩ = false :=
  ⟨(h i hi 0 (by omega)).2, (h i hi 1 (by omega)).2, (h i hi 2 (by omega)).2, (h i hi 3 (by omega)).2⟩

/-! the sort -/
/-- a fact whose Args lie in w0 -/
abbrev In (w0 : World) : Type := { x : Fv // Fv.At w0 x }
def noIn (w0 : World) : In w0 := ⟨nof, ArgsAt.nil w0⟩
abbrev encIn (w0 : World) (x : In w0) : List Value := fv x.1
def allIn (w0 : World) (xs : List Fv) (h : ∀ x ∈ xs, Fv.At w0 x) : List (In w0) := xs.pmap Subtype.mk h
theorem allIn_val (w0 : World) (xs : List Fv) (h : ∀ x ∈ xs, Fv.At w0 x) : (allIn w0 xs h).map (·.1) = xs := by
  unfold allIn; rw [List.map_pmap]; simp
theorem rowF_holdsK (w0 w : World) [Inhabited (In w0)] (b : Nat) (d : List (In w0)) : RowF w b (d.map (·.1)) ↔ HoldsK (encIn w0) 4 w b 0 d.toArray := by
  constructor
  · intro h t ht
    rw [size_flatK] at ht
    have ht' : t < d.length * 4 := by simpa using ht
    have hi : t / 4 < d.length := by omega
    have h1 := h (t / 4) (by simpa using hi) (t % 4) (Nat.mod_lt _ (by decide))
    rw [show 0 + t = t / 4 * 4 + t % 4 by omega]
    refine ⟨?_, h1.2⟩
    rw [h1.1, get_flatK _ _ _ _ ht, getElem!_pos d.toArray (t / 4) (by simpa using hi)]
    have hc : t % 4 < (fv d[t / 4].1).length := by rw [fv_len]; omega
    simp only [List.getElem_map, List.getElem_toArray, encIn, id]
    rw [List.getElem?_eq_getElem hc, getElem!_pos (fv d[t / 4].1) _ hc]
  · intro h i hi c hc
    have hi' : i < d.length := by simpa using hi
    have := h.cell (i := i) (c := c) (by simpa using hi') hc
    rw [Nat.zero_add] at this
    refine ⟨?_, this.2⟩
    rw [this.1, getElem!_pos d.toArray i (by simpa using hi')]
    have hc' : c < (fv d[i].1).length := by rw [fv_len]; omega
    simp only [List.getElem_map, List.getElem_toArray, encIn]
    rw [List.getElem?_eq_getElem hc', getElem!_pos (fv d[i].1) _ hc']

theorem but_sortWorldK {α : Type} [Inhabited α] (enc : α → List Value) (k : Nat) (w : World) (blk off m : Nat) (d : Array α) (os : Array Obj) : But blk w (sortWorldK enc k w blk off m d os) := by
  refine ⟨rfl, rfl, rfl, by simp [sortWorldK, Sort.grow, putRowK, putRow, mapBlock, Sort.ahead], fun j hj hn => ?_⟩
  unfold sortWorldK
  rw [heap_grow_old _ _ (by simpa [putRowK, putRow, mapBlock, Sort.ahead] using hj)]
  simp only [putRowK, putRow, mapBlock, Sort.ahead, Array.getElem?_modify]
  rw [if_neg (fun e => hn e.symm)]

def SortedL (ys : List Fv) : Prop := ∀ i j (hi : i < ys.length) (hj : j < ys.length), i < j → cF ys[i].f ys[j].f ≤ 0

theorem sort_at (w0 w : World) (blk cap : Nat) (xs : List Fv) (hxs : ∀ x ∈ xs, Fv.At w0 x) (hB : Below w0.heap.size w0 w) (hb0 : w0.heap.size ≤ blk) (hrow : RowF w blk xs) (hblk : blk < w.heap.size) (hlen : xs.length < 4611686018427387904) :
    Calls Tryz.prog 65 #[.slice (some ⟨blk, 0, none⟩) xs.length cap, .func (.func 42) #[] #[]] w fun e w' => e = .returned (.tuple #[]) ∧ ∃ ys : List Fv, ys.Perm xs ∧ SortedL ys ∧ RowF w' blk ys ∧ But blk w w' := by
  have eg : ∀ args w, (callFunc 42 args).run Tryz.prog w = .ok (.enter 42 args) w := enters_of Tryz.func42 (by kernel_rfl) rfl
  haveI : Inhabited (In w0) := ⟨noIn w0⟩
  have hd : (allIn w0 xs hxs).length = xs.length := by rw [← List.length_map (f := fun x : In w0 => x.1), allIn_val]
  have hH : HoldsK (encIn w0) 4 w blk 0 (allIn w0 xs hxs).toArray := (rowF_holdsK w0 w blk _).1 (by rw [allIn_val]; exact hrow)
  have hpre := pre_cF.on (fun x : In w0 => x.1.f)
  have hcmp : CmpLays Tryz.prog 42 #[] (encIn w0) 4 (fun x y => cF x.1.f y.1.f) blk 0 (allIn w0 xs hxs).toArray.size w := fun m os dk _ x y => by
    have hbw : Below w0.heap.size w0 (sortWorldK (encIn w0) 4 w blk 0 m dk os) := hB.trans ((but_sortWorldK _ _ _ _ _ _ _ _).lower hb0 hB.size)
    exact order_at x.1 y.1 _ (x.2.below hbw (Nat.le_refl _)) (y.2.below hbw (Nat.le_refl _))
  have hO : SWO (ltOf fun x y : In w0 => cF x.1.f y.1.f) := by
    refine ⟨fun x => ?_, fun x y z h1 h2 => ?_, fun x y z h1 h2 => ?_⟩
    · show decide (cF x.1.f x.1.f < 0) = false; rw [hpre.refl x]; rfl
    · simp only [ltOf, decide_eq_true_eq] at *; exact hpre.lt_of_lt_of_le h1 (Int.le_of_lt h2)
    · simp only [ltOf, decide_eq_false_iff_not, Int.not_lt] at *
      have a1 := hpre.anti x y; have a2 := hpre.anti y z; have a3 := hpre.anti x z
      have := hpre.trans z y x (by omega) (by omega)
      omega
  have := AnyQ.slices_SortFunc Tryz.sortF 4 Tryz.isAgg36 Tryz.sizeOf36 (encIn w0) (fun x => fv_len x.1) (fun x v hv => fv_one x.1 v hv) (fun x y => cF x.1.f y.1.f) hO 42 #[] blk 0 cap (allIn w0 xs hxs).toArray w eg hcmp hH hblk (by simpa [hd] using hlen)
  rw [List.size_toArray, hd] at this
  refine this.mono fun e w' ⟨h1, d', n, os, hp, hs, hw⟩ => ⟨h1, d'.toList.map (·.1), ?_, ?_, ?_, ?_⟩
  · have hsz : d'.size = xs.length := by rw [hp.1, List.size_toArray, hd]
    have h3 := hp.2.2
    have e1 : d'.extract 0 xs.length = d' := by rw [← hsz]; exact Array.extract_size
    have e2 : (allIn w0 xs hxs).toArray.extract 0 xs.length = (allIn w0 xs hxs).toArray := by
      have := Array.extract_size (xs := (allIn w0 xs hxs).toArray)
      rwa [List.size_toArray, hd] at this
    rw [e1, e2] at h3
    have := h3.map (fun x : In w0 => x.1)
    rwa [List.toList_toArray, allIn_val] at this
  · have hsz : d'.size = xs.length := by rw [hp.1, List.size_toArray, hd]
    intro i j hi hj hij
    rw [List.length_map, Array.length_toList] at hi hj
    have h3 := hs i j (Nat.zero_le _) hij (by omega)
    rw [getElem!_pos d' i hi, getElem!_pos d' j hj] at h3
    simp only [ltOf, decide_eq_false_iff_not, Int.not_lt] at h3
    simp only [List.getElem_map, Array.getElem_toList]
    have := pre_cF.anti d'[i].1.f d'[j].1.f
    omega
  · rw [rowF_holdsK w0, Array.toArray_toList, hw]
    exact holdsK_sortWorldK_c (encIn w0) 4 w blk 0 (allIn w0 xs hxs).toArray d' n os hH hblk hp.1
  · rw [hw]; exact but_sortWorldK _ _ _ _ _ _ _ _

theorem sort_none (p : Option Addr) (cap : Nat) (f : Value) (w : World) : Calls Tryz.prog 65 #[.slice p 0 cap, f] w fun e w' => e = .returned (.tuple #[]) ∧ w = w' :=
  (AnyF.slices_SortFunc_none Tryz.sortF p cap f w).mono fun _ _ ⟨h1, h2⟩ => ⟨h1, h2.symm⟩

end Go.Proofs.YtdehimbfcilhpaaGreatDoor

/-
  slices.CompactFunc over a row of facts: of neighbours that are the same the first is kept.
-/
namespace Go.Proofs.YtdehimbfcilhpaaGreatDoor
open Go.RowKit Go.Sort

abbrev cV (x y : Fv) : Int := cF x.f y.f

theorem ordered1_at (x y : Fv) (w : World) (hx : Fv.At w x) (hy : Fv.At w y) : Calls Tryz.prog 67 #[x.val, y.val] w fun e w' => e = .returned (.bool (decide (cV x y = 0))) ∧ ∃ q os, w' = grow (w.drewN q) os := by
  have hO := fun (W : World) (hg : Grew w W) => order_at x y W (hx.grew hg) (hy.grew hg)
  have hg2 : ∀ o o' : Obj, Grew w ((w.alloc o).alloc o') := fun o o' => ((Grew.refl w).allocs o).allocs o'
  show Calls _ _ _ _ fun e w' => e = .returned (.bool (decide (cF x.f y.f = 0))) ∧ Grew w w'
  generalize cF x.f y.f = r at *
  obtain ⟨x1, x2, x3, xa, xc, xk⟩ := x; obtain ⟨y1, y2, y3, ya, yc, yk⟩ := y
  go_enter Tryz.func67, Tryz.ntmps67
  go_wp2_with fail
  refine (hO _ (hg2 _ _)).mono ?_; rintro e w1 ⟨rfl, hg⟩
  go_wp2_with fail
  go_ret
  refine ⟨ret_bool ?_, (hg2 _ _).trans hg⟩
  rw [Bool.eq_iff_iff]; simp

/-- a fact stored at a place of a row -/
theorem RowF.store {w : World} {b : Nat} {ys : List Fv} (h : RowF w b ys) (k : Nat) (hk : k < ys.length) (x : Fv) :
    RowF ((((w.setCell ⟨b, k * 4, none⟩ (str x.at_)).setCell ⟨b, k * 4 + 1, none⟩ (str x.by_)).setCell ⟨b, k * 4 + 2, none⟩ (str x.pred)).setCell ⟨b, k * 4 + 3, none⟩ (.slice x.a x.ks.length x.cap)) b (ys.set k x) := by
  obtain ⟨c0, c1, c2, c3⟩ := h.get k hk
  intro i hi c hc
  rw [List.length_set] at hi
  obtain ⟨h1, h2⟩ := h i hi c hc
  refine ⟨?_, by simpa using h2⟩
  by_cases e : k = i
  · subst e
    rw [List.getElem_set_self]
    match c, hc with
    | 0, _ => simp [World.cell?_setCell_other, World.cell?_setCell_same', c0, fv]
    | 1, _ => simp [World.cell?_setCell_other, World.cell?_setCell_same', c1, fv]
    | 2, _ => simp [World.cell?_setCell_other, World.cell?_setCell_same', c2, fv]
    | 3, _ => simp [World.cell?_setCell_other, World.cell?_setCell_same', c3, fv]
  · rw [List.getElem_set_ne e, ← h1]
    rw [World.cell?_setCell_other, World.cell?_setCell_other, World.cell?_setCell_other, World.cell?_setCell_other]
    all_goals (simp only [ne_eq, Addr.mk.injEq, not_and]; intros; omega)

theorem zeroCells_len (c : Array Value) (n : Nat) : (Builtin.zeroCells c n).size = n * c.size := by simp [Builtin.zeroCells]
theorem zeroCells_one (c : Array Value) (n : Nat) (h0 : 0 < c.size) (h : ∀ i (hi : i < c.size), c[i].oneCell' = true) : ∀ v ∈ (Builtin.zeroCells c n).toList, v.oneCell' = true := by
  intro v hv
  simp only [Builtin.zeroCells, Array.mem_toList_iff, Array.mem_map, Array.mem_range] at hv
  obtain ⟨i, _, rfl⟩ := hv
  rw [getElem!_pos c (i % c.size) (Nat.mod_lt _ h0)]
  exact h _ _

/-- clear(s), s a slice of facts that has some -/
theorem run_clear_facts (w : World) (b o n c : Nat) (hn : 0 < n) (hc : ∀ j, j < n * 4 → (w.cell? ⟨b, o + j, none⟩).isSome = true) (hf : ∀ j, j < n * 4 → w.frozen? ⟨b, o + j, none⟩ = false) :
    ∃ Z : List Value, Z.length = n * 4 ∧ ∀ ty, (Builtin.clear_ #[24] ty #[.slice (some ⟨b, o, none⟩) n c]).run Tryz.prog w = .ok (.tuple #[]) (w.setCells b o Z) := by
  obtain ⟨zs, hzs⟩ : ∃ zs : Array Value, zs = #[.string .empty, .string .empty, .string .empty, .slice none 0 0] := ⟨_, rfl⟩
  have hsz : zs.size = 4 := by rw [hzs]; rfl
  have h1 : ∀ i (hi : i < zs.size), zs[i].oneCell' = true := by
    subst hzs
    intro i hi
    match i, hi with
    | 0, _ => rfl
    | 1, _ => rfl
    | 2, _ => rfl
    | 3, _ => rfl
  have hz : ∀ w, (zeroValue 36).run Tryz.prog w = .ok (.agg zs) w := by rw [hzs]; exact Tryz.zeroValue36
  clear hzs
  have hl : (Builtin.zeroCells zs n).toList.length = n * 4 := by rw [Array.length_toList, zeroCells_len, hsz]
  refine ⟨(Builtin.zeroCells zs n).toList, hl, fun ty => ?_⟩
  have hst := run_storeCells_cells (P := Tryz.prog) b o _ 0 w (by rw [hl]; simpa using hc) (by rw [hl]; simpa using hf) (zeroCells_one zs n (by omega) h1)
  simp only [Nat.add_zero] at hst
  obtain ⟨m, rfl⟩ : ∃ m, n = m + 1 := ⟨n - 1, by omega⟩
  simp [Builtin.clear_, run_underlying Tryz.underlying24, hz, hst, Value.cells]

end Go.Proofs.YtdehimbfcilhpaaGreatDoor
