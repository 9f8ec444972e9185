/-
  Where this program bears the library's functions of which contracts are known: the numbers, and that the bodies are those.
-/
import Derived.Shelf.Lays
import Derived.Shelf.SlLaysH0
import Derived.Shelf.SlLaysC2
import Derived.KernelRfl
import Derived.Shelf.Small.Strs
import Derived.Shelf.SlicesG.Cmp
import Derived.Deep.LoopGhost
import Derived.Deep.QuietTactic
import Derived.BigQuiet
import Derived.Shelf.SlLaysF0
import Derived.Test.YtpdmmmdkpipmkaaGreatDoorRows
import Derived.Test.YtpdmmmdkpipmkaaGreatDoorQFc
import Derived.Test.YtpdmmmdkpipmkaaGreatDoorQOp1
import Derived.Test.YtpdmmmdkpipmkaaGreatDoorQMb
namespace Go.Proofs
open Go.Shelf
def Tryz.strCmp_ren : Go.Shelf.Ren := ⟨fun | 106 => 141 | 213 => 186 | 265 => 219 | n => n, fun | 9 => 9 | 3 => 3 | n => n, fun | n => n⟩
theorem Tryz.strCmp : Go.Proofs.Lays.n106 Tryz.prog Tryz.strCmp_ren := {
  mixed := by kernel_rfl
  f106 := Tryz.func141.trans (congrArg some (by kernel_rfl))
  f213 := Tryz.func186.trans (congrArg some (by kernel_rfl))
  f265 := Tryz.func219.trans (congrArg some (by kernel_rfl))
  t3 := Tryz.underlying3
  a3 := Tryz.isAgg3
  z3 := Tryz.sizeOf3
  v3 := Tryz.zeroValue3
  t9 := Tryz.underlying9
  a9 := Tryz.isAgg9
  z9 := Tryz.sizeOf9
  v9 := Tryz.zeroValue9 }
def Tryz.cmpInt_ren : Go.Shelf.Ren := ⟨fun | 5 => 187 | 7 => 220 | n => n, fun | 22 => 3 | 3 => 3 | 4 => 4 | n => n, fun | n => n⟩
theorem Tryz.cmpInt : Go.Proofs.SlLaysC2.n5 Tryz.prog Tryz.cmpInt_ren := {
  mixed := by kernel_rfl
  f5 := ⟨Tryz.f187.name, by decide, Tryz.func187.trans (congrArg some (by kernel_rfl))⟩
  f7 := ⟨Tryz.f220.name, by decide, Tryz.func220.trans (congrArg some (by kernel_rfl))⟩
  t3 := Tryz.underlying3
  a3 := Tryz.isAgg3
  z3 := Tryz.sizeOf3
  v3 := Tryz.zeroValue3
  t4 := Tryz.underlying4
  a4 := Tryz.isAgg4
  z4 := Tryz.sizeOf4
  v4 := Tryz.zeroValue4
  t22 := Tryz.underlying3
  a22 := Tryz.isAgg3
  z22 := Tryz.sizeOf3
  v22 := Tryz.zeroValue3 }
end Go.Proofs

/-
  Where this program bears the library's ContainsFunc at terms, literals and rules: the numbers, and that the bodies are those.
-/
namespace Go.Proofs
open Go.Shelf
def Tryz.hasT_ren : Go.Shelf.Ren := ⟨fun | 8 => 130 | 6 => 171 | n => n, fun | 22 => 45 | 23 => 44 | 25 => 134 | 4 => 4 | 3 => 3 | 0 => 0 | n => n, fun | n => n⟩
theorem Tryz.hasT : Go.Proofs.SlLaysH0.n8 Tryz.prog Tryz.hasT_ren := {
  mixed := by kernel_rfl
  f6 := ⟨Tryz.f171.name, by decide, Tryz.func171.trans (congrArg some (by kernel_rfl))⟩
  f8 := ⟨Tryz.f130.name, by decide, Tryz.func130.trans (congrArg some (by kernel_rfl))⟩
  t0 := Tryz.underlying0
  a0 := Tryz.isAgg0
  z0 := Tryz.sizeOf0
  v0 := Tryz.zeroValue0
  t3 := Tryz.underlying3
  a3 := Tryz.isAgg3
  z3 := Tryz.sizeOf3
  v3 := Tryz.zeroValue3
  t4 := Tryz.underlying4
  a4 := Tryz.isAgg4
  z4 := Tryz.sizeOf4
  v4 := Tryz.zeroValue4
  t22 := Tryz.underlying45
  a22 := Tryz.isAgg45
  z22 := Tryz.sizeOf45
  v22 := Tryz.zeroValue45
  t25 := Tryz.underlying134
  a25 := Tryz.isAgg134
  z25 := Tryz.sizeOf134
  v25 := Tryz.zeroValue134 }
end Go.Proofs

/-
  Constants: what the program's Compare, and the reference's, answer.
-/
namespace Go.Proofs.YtpdmmmdkpipmkaaGreatDoor
open Go.RowKit Go.Sort

theorem str_compare (a b : List UInt8) (w : World) : Calls Tryz.prog 141 #[str a, str b] w fun e w' => e = .returned (.int .i64 (cT a b)) ∧ w = w' :=
  (Any.strings_Compare Tryz.strCmp ⟨a.toArray⟩ ⟨b.toArray⟩ w).mono fun _ _ ⟨h1, h2⟩ => ⟨h1, h2.symm⟩
theorem int_compare (a b : Int) (w : World) : Calls Tryz.prog 187 #[.int .i64 a, .int .i64 b] w fun e w' => e = .returned (.int .i64 (Lib.compareInt a b)) ∧ w = w' :=
  (AnyG.cmp_Compare_int Tryz.cmpInt a b w).mono fun _ _ ⟨h1, h2⟩ => ⟨h1, h2.symm⟩

theorem cK_num {x y : K} (h : x.num ≠ y.num) : cK x y = if x.num then -1 else 1 := by
  unfold cK lex2 cNum; cases hx : x.num <;> cases hy : y.num <;> simp_all
theorem cK_same {x y : K} (h : x.num = y.num) : cK x y = lex2 (Lib.compareInt x.n y.n) (cT x.s y.s) := by
  unfold cK; rw [show cNum x.num y.num = 0 by unfold cNum; rw [if_pos h], lex2, if_pos rfl]
theorem lex2_ne {a b : Int} (h : a ≠ 0) : lex2 a b = a := by unfold lex2; rw [if_neg h]
theorem lex2_eq (b : Int) : lex2 0 b = b := by unfold lex2; rw [if_pos rfl]

set_option maxHeartbeats 1000000 in
theorem compare_at (x y : K) (w : World) : Calls Tryz.prog 143 #[kval x, kval y] w fun e w' => e = .returned (.int .i64 (cK x y)) ∧ Grew w w' := by
  have hS := fun W => str_compare x.s y.s W
  have hI := fun W => int_compare x.n y.n W
  have h1 := @cK_num x y
  have h2 := @cK_same x y
  obtain ⟨xn, xi, xs⟩ := x; obtain ⟨yn, yi, ys⟩ := y
  simp only at hS hI h1 h2
  generalize cK ⟨xn, xi, xs⟩ ⟨yn, yi, ys⟩ = r at h1 h2 ⊢
  have H1 := hideP h1; have H2 := hideP h2; clear h1 h2
  generalize cT xs ys = c at hS H2
  generalize Lib.compareInt xi yi = d at hI H2
  cases xn <;> cases yn
  all_goals go_enter Tryz.func143, Tryz.ntmps143
  all_goals go_wp2_with (first | (go_at_call 141; refine (hS _).mono ?_; rintro e w' ⟨rfl, rfl⟩) | (go_at_call 187; refine (hI _).mono ?_; rintro e w' ⟨rfl, rfl⟩))
  all_goals (go_ret; refine ⟨ret_int ?_, ?_⟩)
  all_goals first
    | exact ((Grew.refl _).allocs _).allocs _
    | (rw [H1.out (by decide)]; rfl)
    | (rw [H2.out (by simp), lex2_ne (by assumption)])
    | (rw [H2.out (by simp)]; simp_all [lex2])

theorem texts_at (a b : List UInt8) (w : World) : Calls Tryz.prog 57 #[str a, str b] w fun e w' => e = .returned (.int .i64 (cT a b)) ∧ w = w' := by
  have h1 := bytesLess_cT a b
  have h2 : (a == b) = decide (cT a b = 0) := by rw [Bool.eq_iff_iff]; simp [cT_zero]
  have h3 := pre_cT.low a b
  have h4 := pre_cT.high a b
  generalize cT a b = c at *
  have H3 := hideP h3; have H4 := hideP h4; clear h3 h4
  go_enter Tryz.func57, Tryz.ntmps57
  go_wp2
  all_goals (go_ret; refine ⟨ret_int ?_, rfl⟩; have := H3.out; have := H4.out; simp_all; try omega)

set_option maxHeartbeats 1000000 in
theorem refcompare_at (x y : K) (w : World) : Calls Tryz.prog 58 #[kval x, kval y] w fun e w' => e = .returned (.int .i64 (cK x y)) ∧ Grew w w' := by
  have hS := fun W => texts_at x.s y.s W
  have h1 := @cK_num x y
  have h2 := @cK_same x y
  obtain ⟨xn, xi, xs⟩ := x; obtain ⟨yn, yi, ys⟩ := y
  simp only at hS h1 h2
  generalize cK ⟨xn, xi, xs⟩ ⟨yn, yi, ys⟩ = r at h1 h2 ⊢
  have H1 := hideP h1; have H2 := hideP h2; clear h1 h2
  generalize cT xs ys = c at hS H2
  cases xn <;> cases yn
  all_goals go_enter Tryz.func58, Tryz.ntmps58
  all_goals go_wp2_with (go_at_call 57; refine (hS _).mono ?_; rintro e w' ⟨rfl, rfl⟩)
  all_goals (go_ret; refine ⟨ret_int ?_, ?_⟩)
  all_goals first
    | exact ((Grew.refl _).allocs _).allocs _
    | (rw [H1.out (by decide)]; rfl)
    | (rw [H2.out (by simp)]; simp_all [lex2, Lib.compareInt]; try omega)

end Go.Proofs.YtpdmmmdkpipmkaaGreatDoor

/-
  Facts: what Order, the program's and the reference's, answers.
-/
namespace Go.Proofs.YtpdmmmdkpipmkaaGreatDoor
open Go.RowKit Go.Sort

/-- of two lists of constants the first k are the same -/
def Even (x y : List K) (k : Nat) : Prop := ∀ j (hx : j < x.length) (hy : j < y.length), j < k → cK x[j] y[j] = 0

set_option maxHeartbeats 2000000 in
theorem compareFunc_at (a a' : Option Addr) (c c' : Nat) (x y : List K) (w : World) (hx : ArgsAt w a c x) (hy : ArgsAt w a' c' y) :
    Calls Tryz.prog 142 #[.slice a x.length c, .slice a' y.length c', .func (.func 143) #[] #[]] w
      fun e w' => e = .returned (.int .i64 (cL cK x y)) ∧ Grew w w' := by
  have hC := fun (p q : K) (W : World) => compare_at p q W
  have b1 := hx.few; have b2 := hy.few
  have eg : ∀ args w, (callFunc 143 args).run Tryz.prog w = .ok (.enter 143 args) w := enters_of Tryz.func143 (by kernel_rfl) rfl
  go_enter Tryz.func142, Tryz.ntmps142
  go_wp2_with fail
  go_loopw [7, 8, 9, 10, 13] (fun _ _ _ _ v wr => ∃ k : Nat, v = .int .i64 (k : Int) ∧ k ≤ x.length ∧ k ≤ y.length ∧ Hid (Even x y k) ∧ Grew w wr) (fun _ _ _ _ v _ => x.length - (RowKit.intOf v).toNat)
  case atStart => exact ⟨0, rfl, by omega, by omega, fun j _ _ h => absurd h (by omega), Grew.refl _⟩
  case round =>
    obtain ⟨k, rfl, hk, hk', hev, hg⟩ := hrel
    by_cases hlt : k < x.length
    · have q2 : (k : Int) < (x.length : Int) := by omega
      obtain ⟨B1, O1, rfl⟩ := hx.addr (by omega)
      obtain ⟨c1, c2, c3⟩ := (hx.below hg.below (Nat.le_refl _)).get k hlt
      have n1 := cell_block c1
      by_cases hlt' : k < y.length
      · have q3 : ¬ (y.length : Int) ≤ (k : Int) := by omega
        have q4 : (k : Int) < (y.length : Int) := by omega
        obtain ⟨B2, O2, rfl⟩ := hy.addr (by omega)
        obtain ⟨d1, d2, d3⟩ := (hy.below hg.below (Nat.le_refl _)).get k hlt'
        have n2 := cell_block d1
        have hn := hC x[k] y[k]
        have hev' : Hid (cK x[k] y[k] = 0 → Even x y (k + 1)) := fun h j hjx hjy hj => by
          by_cases e : j = k
          · subst e; exact h
          · exact hev.out j hjx hjy (by omega)
        have hhit : Hid (cK x[k] y[k] ≠ 0 → cL cK x y = cK x[k] y[k]) := fun h => cL_hit cK x y k hlt hlt' (fun j hjx hjy hj => hev.out j hjx hjy hj) h
        generalize x[k] = p at *
        generalize y[k] = q at *
        by_cases hr : cK p q = 0
        · have hev'' := hideP (hev'.out hr)
          simp only [hr] at hn
          go_wp2_with fail
          refine (hn _).mono ?_; rintro e w1 ⟨rfl, hg1⟩
          go_wp2_with fail
          exact ⟨⟨k + 1, by simp, by omega, by omega, hev'', (hg.allocs _).allocs _ |>.trans hg1⟩, by simp [RowKit.intOf]; omega⟩
        · have hhit' := hideP (hhit.out hr)
          generalize cK p q = r at hn hr hhit'
          go_wp2_with fail
          refine (hn _).mono ?_; rintro e w1 ⟨rfl, hg1⟩
          go_wp2_with fail
          go_ret
          exact ⟨ret_int hhit'.out.symm, (hg.allocs _).allocs _ |>.trans hg1⟩
      · have q3 : (y.length : Int) ≤ (k : Int) := by omega
        go_wp2_with fail
        go_ret
        refine ⟨ret_int ?_, hg.allocs _⟩
        rw [cL_long cK x y (by omega) fun j hjx hjy => hev.out j hjx hjy (by omega)]
    · have q2 : ¬ (k : Int) < (x.length : Int) := by omega
      by_cases hlt' : x.length < y.length
      · have q3 : (x.length : Int) < (y.length : Int) := by omega
        go_wp2_with fail
        go_ret
        refine ⟨ret_int ?_, hg⟩
        rw [cL_short cK x y (by omega) fun j hjx hjy => hev.out j hjx hjy (by omega)]
      · have q3 : ¬ (x.length : Int) < (y.length : Int) := by omega
        go_wp2_with fail
        go_ret
        refine ⟨ret_int ?_, hg⟩
        rw [cL_even cK x y (by omega) fun j hjx hjy => hev.out j hjx hjy (by omega)]

theorem cF_at {x y : F} (h : cT x.at_ y.at_ ≠ 0) : cF x y = cT x.at_ y.at_ := by unfold cF; rw [lex2_ne h]
theorem cF_by {x y : F} (h0 : cT x.at_ y.at_ = 0) (h : cT x.by_ y.by_ ≠ 0) : cF x y = cT x.by_ y.by_ := by unfold cF; rw [h0, lex2_eq, lex2_ne h]
theorem cF_pred {x y : F} (h0 : cT x.at_ y.at_ = 0) (h1 : cT x.by_ y.by_ = 0) (h : cT x.pred y.pred ≠ 0) : cF x y = cT x.pred y.pred := by unfold cF; rw [h0, lex2_eq, h1, lex2_eq, lex2_ne h]
theorem cF_args {x y : F} (h0 : cT x.at_ y.at_ = 0) (h1 : cT x.by_ y.by_ = 0) (h : cT x.pred y.pred = 0) : cF x y = cL cK x.ks y.ks := by unfold cF; rw [h0, lex2_eq, h1, lex2_eq, h, lex2_eq]

set_option maxHeartbeats 2000000 in
theorem order_at (x y : Fv) (w : World) (hx : Fv.At w x) (hy : Fv.At w y) : Calls Tryz.prog 94 #[x.val, y.val] w fun e w' => e = .returned (.int .i64 (cF x.f y.f)) ∧ Grew w w' := by
  have hS := fun (l m : List UInt8) (W : World) => str_compare l m W
  have hL := fun (W : World) (hg : Grew w W) => compareFunc_at x.a y.a x.cap y.cap x.ks y.ks W (hx.grew hg) (hy.grew hg)
  have hg2 : ∀ o o' : Obj, Grew w ((w.alloc o).alloc o') := fun o o' => ((Grew.refl w).allocs o).allocs o'
  have e1 := @cF_at x.f y.f; have e2 := @cF_by x.f y.f; have e3 := @cF_pred x.f y.f; have e4 := @cF_args x.f y.f
  generalize cF x.f y.f = r at *
  simp only [Fv.f] at e1 e2 e3 e4
  clear hx hy
  obtain ⟨x1, x2, x3, xa, xc, xk⟩ := x; obtain ⟨y1, y2, y3, ya, yc, yk⟩ := y
  simp only at hL e1 e2 e3 e4
  have E1 := hideP e1; have E2 := hideP e2; have E3 := hideP e3; have E4 := hideP e4; clear e1 e2 e3 e4
  generalize cL cK xk yk = d at hL E4
  have H1 := hS x1 y1; have H2 := hS x2 y2; have H3 := hS x3 y3; clear hS
  generalize cT x1 y1 = r1 at *
  generalize cT x2 y2 = r2 at *
  generalize cT x3 y3 = r3 at *
  go_enter Tryz.func94, Tryz.ntmps94
  go_wp2_with fail
  refine (H1 _).mono ?_; rintro e w1 ⟨rfl, rfl⟩
  go_wp2_with fail
  · go_ret; exact ⟨ret_int (E1.out (by simp_all)).symm, hg2 _ _⟩
  refine (H2 _).mono ?_; rintro e w1 ⟨rfl, rfl⟩
  go_wp2_with fail
  · go_ret; exact ⟨ret_int (E2.out (by simp_all) (by simp_all)).symm, hg2 _ _⟩
  refine (H3 _).mono ?_; rintro e w1 ⟨rfl, rfl⟩
  go_wp2_with fail
  · go_ret; exact ⟨ret_int (E3.out (by simp_all) (by simp_all) (by simp_all)).symm, hg2 _ _⟩
  refine (hL _ (hg2 _ _)).mono ?_; rintro e w1 ⟨rfl, hg⟩
  go_wp2_with fail
  go_ret; exact ⟨ret_int (E4.out (by simp_all) (by simp_all) (by simp_all)).symm, (hg2 _ _).trans hg⟩

end Go.Proofs.YtpdmmmdkpipmkaaGreatDoor

/-
  Where this program bears the library's functions of which contracts are known: the numbers, and that the bodies are those.
-/
namespace Go.Proofs
open Go.Shelf
def Tryz.sortF_ren : Go.Shelf.Ren := ⟨fun | 6 => 93 | 15 => 140 | 14 => 139 | 28 => 184 | 29 => 185 | 20 => 176 | 21 => 177 | 22 => 178 | 23 => 179 | 24 => 180 | 25 => 181 | 26 => 182 | 27 => 183 | 46 => 214 | 47 => 215 | 48 => 216 | 49 => 217 | 50 => 218 | 57 => 244 | n => n, fun | 22 => 32 | 24 => 37 | 25 => 72 | 3 => 3 | 39 => 190 | 0 => 0 | 53 => 229 | 55 => 231 | 4 => 4 | 46 => 223 | 45 => 222 | 50 => 116 | 5 => 5 | 9 => 9 | 66 => 253 | 70 => 257 | 76 => 284 | 77 => 285 | n => n, fun | n => n⟩
theorem Tryz.sortF : Go.Proofs.SlLaysF0.n6 Tryz.prog Tryz.sortF_ren := {
  mixed := by kernel_rfl
  f6 := ⟨Tryz.f93.name, by decide, Tryz.func93.trans (congrArg some (by kernel_rfl))⟩
  f14 := ⟨Tryz.f139.name, by decide, Tryz.func139.trans (congrArg some (by kernel_rfl))⟩
  f15 := Tryz.func140.trans (congrArg some (by kernel_rfl))
  f20 := ⟨Tryz.f176.name, by decide, Tryz.func176.trans (congrArg some (by kernel_rfl))⟩
  f21 := ⟨Tryz.f177.name, by decide, Tryz.func177.trans (congrArg some (by kernel_rfl))⟩
  f22 := ⟨Tryz.f178.name, by decide, Tryz.func178.trans (congrArg some (by kernel_rfl))⟩
  f23 := ⟨Tryz.f179.name, by decide, Tryz.func179.trans (congrArg some (by kernel_rfl))⟩
  f24 := ⟨Tryz.f180.name, by decide, Tryz.func180.trans (congrArg some (by kernel_rfl))⟩
  f25 := ⟨Tryz.f181.name, by decide, Tryz.func181.trans (congrArg some (by kernel_rfl))⟩
  f26 := ⟨Tryz.f182.name, by decide, Tryz.func182.trans (congrArg some (by kernel_rfl))⟩
  f27 := ⟨Tryz.f183.name, by decide, Tryz.func183.trans (congrArg some (by kernel_rfl))⟩
  f28 := Tryz.func184.trans (congrArg some (by kernel_rfl))
  f29 := Tryz.func185.trans (congrArg some (by kernel_rfl))
  f46 := ⟨Tryz.f214.name, by decide, Tryz.func214.trans (congrArg some (by kernel_rfl))⟩
  f47 := Tryz.func215.trans (congrArg some (by kernel_rfl))
  f48 := Tryz.func216.trans (congrArg some (by kernel_rfl))
  f49 := ⟨Tryz.f217.name, by decide, Tryz.func217.trans (congrArg some (by kernel_rfl))⟩
  f50 := ⟨Tryz.f218.name, by decide, Tryz.func218.trans (congrArg some (by kernel_rfl))⟩
  f57 := ⟨Tryz.f244.name, by decide, Tryz.func244.trans (congrArg some (by kernel_rfl))⟩
  t0 := Tryz.underlying0
  a0 := Tryz.isAgg0
  z0 := Tryz.sizeOf0
  v0 := Tryz.zeroValue0
  t3 := Tryz.underlying3
  a3 := Tryz.isAgg3
  z3 := Tryz.sizeOf3
  v3 := Tryz.zeroValue3
  t4 := Tryz.underlying4
  a4 := Tryz.isAgg4
  z4 := Tryz.sizeOf4
  v4 := Tryz.zeroValue4
  t5 := Tryz.underlying5
  a5 := Tryz.isAgg5
  z5 := Tryz.sizeOf5
  v5 := Tryz.zeroValue5
  t9 := Tryz.underlying9
  a9 := Tryz.isAgg9
  z9 := Tryz.sizeOf9
  v9 := Tryz.zeroValue9
  t22 := Tryz.underlying32
  a22 := Tryz.isAgg32
  z22 := Tryz.sizeOf32
  v22 := Tryz.zeroValue32
  t25 := Tryz.underlying72
  a25 := Tryz.isAgg72
  z25 := Tryz.sizeOf72
  v25 := Tryz.zeroValue72
  t39 := Tryz.underlying190
  a39 := Tryz.isAgg190
  z39 := Tryz.sizeOf190
  v39 := Tryz.zeroValue190
  t45 := Tryz.underlying222
  a45 := Tryz.isAgg222
  z45 := Tryz.sizeOf222
  v45 := Tryz.zeroValue222
  t46 := Tryz.underlying223
  a46 := Tryz.isAgg223
  z46 := Tryz.sizeOf223
  v46 := Tryz.zeroValue223
  t50 := Tryz.underlying116
  a50 := Tryz.isAgg116
  z50 := Tryz.sizeOf116
  v50 := Tryz.zeroValue116
  t53 := Tryz.underlying229
  a53 := Tryz.isAgg229
  z53 := Tryz.sizeOf229
  v53 := Tryz.zeroValue229
  t55 := Tryz.underlying231
  a55 := Tryz.isAgg231
  z55 := Tryz.sizeOf231
  v55 := Tryz.zeroValue231
  t66 := Tryz.underlying253
  a66 := Tryz.isAgg253
  z66 := Tryz.sizeOf253
  v66 := Tryz.zeroValue253
  t70 := Tryz.underlying257
  a70 := Tryz.isAgg257
  z70 := Tryz.sizeOf257
  v70 := Tryz.zeroValue257
  t76 := Tryz.underlying284
  a76 := Tryz.isAgg284
  z76 := Tryz.sizeOf284
  v76 := Tryz.zeroValue284
  t77 := Tryz.underlying285
  a77 := Tryz.isAgg285
  z77 := Tryz.sizeOf285
  v77 := Tryz.zeroValue285 }
end Go.Proofs
