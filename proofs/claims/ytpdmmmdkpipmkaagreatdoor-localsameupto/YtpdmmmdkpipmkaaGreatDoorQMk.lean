/-
  Where this program bears the library's functions of which contracts are known: the numbers, and that the bodies are those.
-/
import Derived.Shelf.Lays
import Derived.Shelf.SlLaysH0
import Derived.Shelf.SlLaysC2
import Derived.KernelRfl
import Derived.Shelf.Small.Strs
import Derived.Shelf.SlicesG.Cmp
import Derived.Deep.LoopGhost
import Derived.Deep.QuietTactic
import Derived.BigQuiet
import Derived.Shelf.SlLaysF0
import Derived.Deep.MidRow
import Derived.Test.YtpdmmmdkpipmkaaGreatDoorRows
import Derived.Test.YtpdmmmdkpipmkaaGreatDoorQLb
import Derived.Test.YtpdmmmdkpipmkaaGreatDoorQNf
import Derived.Test.YtpdmmmdkpipmkaaGreatDoorQBt
set_option maxRecDepth 100000
set_option maxHeartbeats 2000000
namespace Go.Proofs
open Go.Shelf
def Tryz.strCmp_ren: Go.Shelf.Ren:= ⟨fun | 106 => 141 | 213 => 186 | 265 => 219 | n => n,fun | 9 => 9 | 3 => 3 | n => n,fun | n => n⟩
theorem Tryz.strCmp: Go.Proofs.Lays.n106 Tryz.prog Tryz.strCmp_ren:= {
 mixed:= by kernel_rfl
 f106:= Tryz.func141.trans (congrArg some (by kernel_rfl))
 f213:= Tryz.func186.trans (congrArg some (by kernel_rfl))
 f265:= Tryz.func219.trans (congrArg some (by kernel_rfl))
 t3:= Tryz.underlying3
 a3:= Tryz.isAgg3
 z3:= Tryz.sizeOf3
 v3:= Tryz.zeroValue3
 t9:= Tryz.underlying9
 a9:= Tryz.isAgg9
 z9:= Tryz.sizeOf9
 v9:= Tryz.zeroValue9 }
def Tryz.cmpInt_ren: Go.Shelf.Ren:= ⟨fun | 5 => 187 | 7 => 220 | n => n,fun | 22 => 3 | 3 => 3 | 4 => 4 | n => n,fun | n => n⟩
theorem Tryz.cmpInt: Go.Proofs.SlLaysC2.n5 Tryz.prog Tryz.cmpInt_ren:= {
 mixed:= by kernel_rfl
 f5:= ⟨Tryz.f187.name,by decide,Tryz.func187.trans (congrArg some (by kernel_rfl))⟩
 f7:= ⟨Tryz.f220.name,by decide,Tryz.func220.trans (congrArg some (by kernel_rfl))⟩
 t3:= Tryz.underlying3
 a3:= Tryz.isAgg3
 z3:= Tryz.sizeOf3
 v3:= Tryz.zeroValue3
 t4:= Tryz.underlying4
 a4:= Tryz.isAgg4
 z4:= Tryz.sizeOf4
 v4:= Tryz.zeroValue4
 t22:= Tryz.underlying3
 a22:= Tryz.isAgg3
 z22:= Tryz.sizeOf3
 v22:= Tryz.zeroValue3 }
end Go.Proofs
namespace Go.Proofs
open Go.Shelf
end Go.Proofs
namespace Go.Proofs.YtpdmmmdkpipmkaaGreatDoor
open Go.RowKit Go.Sort
theorem str_compare (a b: List UInt8) (w: World): Calls Tryz.prog 141 #[str a,str b] w fun e w' => e = .returned (.int .i64 (cT a b)) ∧ w = w':=
 (Any.strings_Compare Tryz.strCmp ⟨a.toArray⟩ ⟨b.toArray⟩ w).mono fun _ _ ⟨h1,h2⟩ => ⟨h1,h2.symm⟩
theorem int_compare (a b: Int) (w: World): Calls Tryz.prog 187 #[.int .i64 a,.int .i64 b] w fun e w' => e = .returned (.int .i64 (Lib.compareInt a b)) ∧ w = w':=
 (AnyG.cmp_Compare_int Tryz.cmpInt a b w).mono fun _ _ ⟨h1,h2⟩ => ⟨h1,h2.symm⟩
theorem cK_num {x y: K} (h: x.num ≠ y.num): cK x y = if x.num then -1 else 1:= by
 unfold cK lex2 cNum;cases hx: x.num <;> cases hy: y.num <;> simp_all
theorem cK_same {x y: K} (h: x.num = y.num): cK x y = lex2 (Lib.compareInt x.n y.n) (cT x.s y.s):= by
 unfold cK;rw [show cNum x.num y.num = 0 by unfold cNum;rw [if_pos h],lex2,if_pos rfl]
theorem lex2_ne {a b: Int} (h: a ≠ 0): lex2 a b = a:= by unfold lex2;rw [if_neg h]
theorem lex2_eq (b: Int): lex2 0 b = b:= by unfold lex2;rw [if_pos rfl]
theorem compare_at (x y: K) (w: World): Calls Tryz.prog 143 #[kval x,kval y] w fun e w' => e = .returned (.int .i64 (cK x y)) ∧ Grew w w':= by
 have hS:= fun W => str_compare x.s y.s W
 have hI:= fun W => int_compare x.n y.n W
 have h1:= @cK_num x y
 have h2:= @cK_same x y
 obtain ⟨xn,xi,xs⟩:= x;obtain ⟨yn,yi,ys⟩:= y
 simp only at hS hI h1 h2
 generalize cK ⟨xn,xi,xs⟩ ⟨yn,yi,ys⟩ = r at h1 h2 ⊢
 have H1:= hideP h1;have H2:= hideP h2;clear h1 h2
 generalize cT xs ys = c at hS H2
 generalize Lib.compareInt xi yi = d at hI H2
 cases xn <;> cases yn
 all_goals go_enter Tryz.func143,Tryz.ntmps143
 all_goals go_wp2_with (first | (go_at_call 141;refine (hS _).mono ?_;rintro e w' ⟨rfl,rfl⟩) | (go_at_call 187;refine (hI _).mono ?_;rintro e w' ⟨rfl,rfl⟩))
 all_goals (go_ret;refine ⟨ret_int ?_, ?_⟩)
 all_goals first
  | exact ((Grew.refl _).allocs _).allocs _
  | (rw [H1.out (by decide)];rfl)
  | (rw [H2.out (by simp),lex2_ne (by assumption)])
  | (rw [H2.out (by simp)];simp_all [lex2])
theorem texts_at (a b: List UInt8) (w: World): Calls Tryz.prog 57 #[str a,str b] w fun e w' => e = .returned (.int .i64 (cT a b)) ∧ w = w':= by
 have h1:= bytesLess_cT a b
 have h2: (a == b) = decide (cT a b = 0):= by rw [Bool.eq_iff_iff];simp [cT_zero]
 have h3:= pre_cT.low a b
 have h4:= pre_cT.high a b
 generalize cT a b = c at *
 have H3:= hideP h3;have H4:= hideP h4;clear h3 h4
 go_enter Tryz.func57,Tryz.ntmps57
 go_wp2
 all_goals (go_ret;refine ⟨ret_int ?_,rfl⟩;have:= H3.out;have:= H4.out;simp_all;try omega)
theorem refcompare_at (x y: K) (w: World): Calls Tryz.prog 58 #[kval x,kval y] w fun e w' => e = .returned (.int .i64 (cK x y)) ∧ Grew w w':= by
 have hS:= fun W => texts_at x.s y.s W
 have h1:= @cK_num x y
 have h2:= @cK_same x y
 obtain ⟨xn,xi,xs⟩:= x;obtain ⟨yn,yi,ys⟩:= y
 simp only at hS h1 h2
 generalize cK ⟨xn,xi,xs⟩ ⟨yn,yi,ys⟩ = r at h1 h2 ⊢
 have H1:= hideP h1;have H2:= hideP h2;clear h1 h2
 generalize cT xs ys = c at hS H2
 cases xn <;> cases yn
 all_goals go_enter Tryz.func58,Tryz.ntmps58
 all_goals go_wp2_with (go_at_call 57;refine (hS _).mono ?_;rintro e w' ⟨rfl,rfl⟩)
 all_goals (go_ret;refine ⟨ret_int ?_, ?_⟩)
 all_goals first
  | exact ((Grew.refl _).allocs _).allocs _
  | (rw [H1.out (by decide)];rfl)
  | (rw [H2.out (by simp)];simp_all [lex2,Lib.compareInt];try omega)
end Go.Proofs.YtpdmmmdkpipmkaaGreatDoor
namespace Go.Proofs.YtpdmmmdkpipmkaaGreatDoor
open Go.RowKit Go.Sort
def Even (x y: List K) (k: Nat): Prop:= ∀ j (hx: j < x.length) (hy: j < y.length),j < k → cK x[j] y[j] = 0
theorem compareFunc_at (a a': Option Addr) (c c': Nat) (x y: List K) (w: World) (hx: ArgsAt w a c x) (hy: ArgsAt w a' c' y):
 Calls Tryz.prog 142 #[.slice a x.length c,.slice a' y.length c',.func (.func 143) #[] #[]] w
  fun e w' => e = .returned (.int .i64 (cL cK x y)) ∧ Grew w w':= by
 have hC:= fun (p q: K) (W: World) => compare_at p q W
 have b1:= hx.few;have b2:= hy.few
 have eg: ∀ args w,(callFunc 143 args).run Tryz.prog w = .ok (.enter 143 args) w:= enters_of Tryz.func143 (by kernel_rfl) rfl
 go_enter Tryz.func142,Tryz.ntmps142
 go_wp2_with fail
 go_loopw [7,8,9,10,13] (fun _ _ _ _ v wr => ∃ k: Nat,v = .int .i64 (k: Int) ∧ k ≤ x.length ∧ k ≤ y.length ∧ Hid (Even x y k) ∧ Grew w wr) (fun _ _ _ _ v _ => x.length - (RowKit.intOf v).toNat)
 case atStart => exact ⟨0,rfl,by omega,by omega,fun j _ _ h => absurd h (by omega),Grew.refl _⟩
 case round =>
  obtain ⟨k,rfl,hk,hk',hev,hg⟩:= hrel
  by_cases hlt: k < x.length
  ·have q2: (k: Int) < (x.length: Int):= by omega
   obtain ⟨B1,O1,rfl⟩:= hx.addr (by omega)
   obtain ⟨c1,c2,c3⟩:= (hx.below hg.below (Nat.le_refl _)).get k hlt
   have n1:= cell_block c1
   by_cases hlt': k < y.length
   ·have q3: ¬ (y.length: Int) ≤ (k: Int):= by omega
    have q4: (k: Int) < (y.length: Int):= by omega
    obtain ⟨B2,O2,rfl⟩:= hy.addr (by omega)
    obtain ⟨d1,d2,d3⟩:= (hy.below hg.below (Nat.le_refl _)).get k hlt'
    have n2:= cell_block d1
    have hn:= hC x[k] y[k]
    have hev': Hid (cK x[k] y[k] = 0 → Even x y (k + 1)):= fun h j hjx hjy hj => by
     by_cases e: j = k
     ·subst e;exact h
     ·exact hev.out j hjx hjy (by omega)
    have hhit: Hid (cK x[k] y[k] ≠ 0 → cL cK x y = cK x[k] y[k]):= fun h => cL_hit cK x y k hlt hlt' (fun j hjx hjy hj => hev.out j hjx hjy hj) h
    generalize x[k] = p at *
    generalize y[k] = q at *
    by_cases hr: cK p q = 0
    ·have hev'':= hideP (hev'.out hr)
     simp only [hr] at hn
     go_wp2_with fail
     refine (hn _).mono ?_;rintro e w1 ⟨rfl,hg1⟩
     go_wp2_with fail
     exact ⟨⟨k + 1,by simp,by omega,by omega,hev'',(hg.allocs _).allocs _ |>.trans hg1⟩,by simp [RowKit.intOf];omega⟩
    ·have hhit':= hideP (hhit.out hr)
     generalize cK p q = r at hn hr hhit'
     go_wp2_with fail
     refine (hn _).mono ?_;rintro e w1 ⟨rfl,hg1⟩
     go_wp2_with fail
     go_ret
     exact ⟨ret_int hhit'.out.symm,(hg.allocs _).allocs _ |>.trans hg1⟩
   ·have q3: (y.length: Int) ≤ (k: Int):= by omega
    go_wp2_with fail
    go_ret
    refine ⟨ret_int ?_,hg.allocs _⟩
    rw [cL_long cK x y (by omega) fun j hjx hjy => hev.out j hjx hjy (by omega)]
  ·have q2: ¬ (k: Int) < (x.length: Int):= by omega
   by_cases hlt': x.length < y.length
   ·have q3: (x.length: Int) < (y.length: Int):= by omega
    go_wp2_with fail
    go_ret
    refine ⟨ret_int ?_,hg⟩
    rw [cL_short cK x y (by omega) fun j hjx hjy => hev.out j hjx hjy (by omega)]
   ·have q3: ¬ (x.length: Int) < (y.length: Int):= by omega
    go_wp2_with fail
    go_ret
    refine ⟨ret_int ?_,hg⟩
    rw [cL_even cK x y (by omega) fun j hjx hjy => hev.out j hjx hjy (by omega)]
theorem cF_at {x y: F} (h: cT x.at_ y.at_ ≠ 0): cF x y = cT x.at_ y.at_:= by unfold cF;rw [lex2_ne h]
theorem cF_by {x y: F} (h0: cT x.at_ y.at_ = 0) (h: cT x.by_ y.by_ ≠ 0): cF x y = cT x.by_ y.by_:= by unfold cF;rw [h0,lex2_eq,lex2_ne h]
theorem cF_pred {x y: F} (h0: cT x.at_ y.at_ = 0) (h1: cT x.by_ y.by_ = 0) (h: cT x.pred y.pred ≠ 0): cF x y = cT x.pred y.pred:= by unfold cF;rw [h0,lex2_eq,h1,lex2_eq,lex2_ne h]
theorem cF_args {x y: F} (h0: cT x.at_ y.at_ = 0) (h1: cT x.by_ y.by_ = 0) (h: cT x.pred y.pred = 0): cF x y = cL cK x.ks y.ks:= by unfold cF;rw [h0,lex2_eq,h1,lex2_eq,h,lex2_eq]
theorem order_at (x y: Fv) (w: World) (hx: Fv.At w x) (hy: Fv.At w y): Calls Tryz.prog 94 #[x.val,y.val] w fun e w' => e = .returned (.int .i64 (cF x.f y.f)) ∧ Grew w w':= by
 have hS:= fun (l m: List UInt8) (W: World) => str_compare l m W
 have hL:= fun (W: World) (hg: Grew w W) => compareFunc_at x.a y.a x.cap y.cap x.ks y.ks W (hx.grew hg) (hy.grew hg)
 have hg2: ∀ o o': Obj,Grew w ((w.alloc o).alloc o'):= fun o o' => ((Grew.refl w).allocs o).allocs o'
 have e1:= @cF_at x.f y.f;have e2:= @cF_by x.f y.f;have e3:= @cF_pred x.f y.f;have e4:= @cF_args x.f y.f
 generalize cF x.f y.f = r at *
 simp only [Fv.f] at e1 e2 e3 e4
 clear hx hy
 obtain ⟨x1,x2,x3,xa,xc,xk⟩:= x;obtain ⟨y1,y2,y3,ya,yc,yk⟩:= y
 simp only at hL e1 e2 e3 e4
 have E1:= hideP e1;have E2:= hideP e2;have E3:= hideP e3;have E4:= hideP e4;clear e1 e2 e3 e4
 generalize cL cK xk yk = d at hL E4
 have H1:= hS x1 y1;have H2:= hS x2 y2;have H3:= hS x3 y3;clear hS
 generalize cT x1 y1 = r1 at *
 generalize cT x2 y2 = r2 at *
 generalize cT x3 y3 = r3 at *
 go_enter Tryz.func94,Tryz.ntmps94
 go_wp2_with fail
 refine (H1 _).mono ?_;rintro e w1 ⟨rfl,rfl⟩
 go_wp2_with fail
 ·go_ret;exact ⟨ret_int (E1.out (by simp_all)).symm,hg2 _ _⟩
 refine (H2 _).mono ?_;rintro e w1 ⟨rfl,rfl⟩
 go_wp2_with fail
 ·go_ret;exact ⟨ret_int (E2.out (by simp_all) (by simp_all)).symm,hg2 _ _⟩
 refine (H3 _).mono ?_;rintro e w1 ⟨rfl,rfl⟩
 go_wp2_with fail
 ·go_ret;exact ⟨ret_int (E3.out (by simp_all) (by simp_all) (by simp_all)).symm,hg2 _ _⟩
 refine (hL _ (hg2 _ _)).mono ?_;rintro e w1 ⟨rfl,hg⟩
 go_wp2_with fail
 go_ret;exact ⟨ret_int (E4.out (by simp_all) (by simp_all) (by simp_all)).symm,(hg2 _ _).trans hg⟩
end Go.Proofs.YtpdmmmdkpipmkaaGreatDoor
namespace Go.Proofs
open Go.Shelf
def Tryz.sortF_ren: Go.Shelf.Ren:= ⟨fun | 6 => 93 | 15 => 140 | 14 => 139 | 28 => 184 | 29 => 185 | 20 => 176 | 21 => 177 | 22 => 178 | 23 => 179 | 24 => 180 | 25 => 181 | 26 => 182 | 27 => 183 | 46 => 214 | 47 => 215 | 48 => 216 | 49 => 217 | 50 => 218 | 57 => 244 | n => n,fun | 22 => 32 | 24 => 37 | 25 => 72 | 3 => 3 | 39 => 190 | 0 => 0 | 53 => 229 | 55 => 231 | 4 => 4 | 46 => 223 | 45 => 222 | 50 => 116 | 5 => 5 | 9 => 9 | 66 => 253 | 70 => 257 | 76 => 284 | 77 => 285 | n => n,fun | n => n⟩
theorem Tryz.sortF: Go.Proofs.SlLaysF0.n6 Tryz.prog Tryz.sortF_ren:= {
 mixed:= by kernel_rfl
 f6:= ⟨Tryz.f93.name,by decide,Tryz.func93.trans (congrArg some (by kernel_rfl))⟩
 f14:= ⟨Tryz.f139.name,by decide,Tryz.func139.trans (congrArg some (by kernel_rfl))⟩
 f15:= Tryz.func140.trans (congrArg some (by kernel_rfl))
 f20:= ⟨Tryz.f176.name,by decide,Tryz.func176.trans (congrArg some (by kernel_rfl))⟩
 f21:= ⟨Tryz.f177.name,by decide,Tryz.func177.trans (congrArg some (by kernel_rfl))⟩
 f22:= ⟨Tryz.f178.name,by decide,Tryz.func178.trans (congrArg some (by kernel_rfl))⟩
 f23:= ⟨Tryz.f179.name,by decide,Tryz.func179.trans (congrArg some (by kernel_rfl))⟩
 f24:= ⟨Tryz.f180.name,by decide,Tryz.func180.trans (congrArg some (by kernel_rfl))⟩
 f25:= ⟨Tryz.f181.name,by decide,Tryz.func181.trans (congrArg some (by kernel_rfl))⟩
 f26:= ⟨Tryz.f182.name,by decide,Tryz.func182.trans (congrArg some (by kernel_rfl))⟩
 f27:= ⟨Tryz.f183.name,by decide,Tryz.func183.trans (congrArg some (by kernel_rfl))⟩
 f28:= Tryz.func184.trans (congrArg some (by kernel_rfl))
 f29:= Tryz.func185.trans (congrArg some (by kernel_rfl))
 f46:= ⟨Tryz.f214.name,by decide,Tryz.func214.trans (congrArg some (by kernel_rfl))⟩
 f47:= Tryz.func215.trans (congrArg some (by kernel_rfl))
 f48:= Tryz.func216.trans (congrArg some (by kernel_rfl))
 f49:= ⟨Tryz.f217.name,by decide,Tryz.func217.trans (congrArg some (by kernel_rfl))⟩
 f50:= ⟨Tryz.f218.name,by decide,Tryz.func218.trans (congrArg some (by kernel_rfl))⟩
 f57:= ⟨Tryz.f244.name,by decide,Tryz.func244.trans (congrArg some (by kernel_rfl))⟩
 t0:= Tryz.underlying0
 a0:= Tryz.isAgg0
 z0:= Tryz.sizeOf0
 v0:= Tryz.zeroValue0
 t3:= Tryz.underlying3
 a3:= Tryz.isAgg3
 z3:= Tryz.sizeOf3
 v3:= Tryz.zeroValue3
 t4:= Tryz.underlying4
 a4:= Tryz.isAgg4
 z4:= Tryz.sizeOf4
 v4:= Tryz.zeroValue4
 t5:= Tryz.underlying5
 a5:= Tryz.isAgg5
 z5:= Tryz.sizeOf5
 v5:= Tryz.zeroValue5
 t9:= Tryz.underlying9
 a9:= Tryz.isAgg9
 z9:= Tryz.sizeOf9
 v9:= Tryz.zeroValue9
 t22:= Tryz.underlying32
 a22:= Tryz.isAgg32
 z22:= Tryz.sizeOf32
 v22:= Tryz.zeroValue32
 t25:= Tryz.underlying72
 a25:= Tryz.isAgg72
 z25:= Tryz.sizeOf72
 v25:= Tryz.zeroValue72
 t39:= Tryz.underlying190
 a39:= Tryz.isAgg190
 z39:= Tryz.sizeOf190
 v39:= Tryz.zeroValue190
 t45:= Tryz.underlying222
 a45:= Tryz.isAgg222
 z45:= Tryz.sizeOf222
 v45:= Tryz.zeroValue222
 t46:= Tryz.underlying223
 a46:= Tryz.isAgg223
 z46:= Tryz.sizeOf223
 v46:= Tryz.zeroValue223
 t50:= Tryz.underlying116
 a50:= Tryz.isAgg116
 z50:= Tryz.sizeOf116
 v50:= Tryz.zeroValue116
 t53:= Tryz.underlying229
 a53:= Tryz.isAgg229
 z53:= Tryz.sizeOf229
 v53:= Tryz.zeroValue229
 t55:= Tryz.underlying231
 a55:= Tryz.isAgg231
 z55:= Tryz.sizeOf231
 v55:= Tryz.zeroValue231
 t66:= Tryz.underlying253
 a66:= Tryz.isAgg253
 z66:= Tryz.sizeOf253
 v66:= Tryz.zeroValue253
 t70:= Tryz.underlying257
 a70:= Tryz.isAgg257
 z70:= Tryz.sizeOf257
 v70:= Tryz.zeroValue257
 t76:= Tryz.underlying284
 a76:= Tryz.isAgg284
 z76:= Tryz.sizeOf284
 v76:= Tryz.zeroValue284
 t77:= Tryz.underlying285
 a77:= Tryz.isAgg285
 z77:= Tryz.sizeOf285
 v77:= Tryz.zeroValue285 }
end Go.Proofs
namespace Go.Proofs.YtpdmmmdkpipmkaaGreatDoor
open Go.RowKit Go.Sort
theorem flat_spot {α β: Type} (f: α → List β) (k: Nat) (hk: ∀ x,(f x).length = k) (l: List α) (j: Nat) (u: β) (h: (l.flatMap f)[j]? = some u): ∃ i c,∃ hi: i < l.length,c < k ∧ j = i * k + c ∧ (f l[i])[c]? = some u:= by
 have hj:= (List.getElem?_eq_some_iff.1 h).1
 rw [flat_len f k hk] at hj
 have hk0: 0 < k:= by rcases Nat.eq_zero_or_pos k with rfl | h0;· simp at hj
                      ·exact h0
 have hd:= Nat.div_add_mod' j k
 have hi: j / k < l.length:= Nat.div_lt_of_lt_mul (by rw [Nat.mul_comm];exact hj)
 refine ⟨j / k,j % k,hi,Nat.mod_lt _ hk0,by omega, ?_⟩
 rw [← flat_get f k hk l (j / k) (j % k) hi (Nat.mod_lt _ hk0),hd,h]
theorem results_row {P: Program} {fn: Func} {p: Tmp} {ty: TypeId} {tmps: Array Value} {w: World} {b o: Nat} {cs: List Value} {d: TypeDesc} (h: fn.results = #[.cell p ty]) (hp: tmps.getD p undef = .pointer (some ⟨b,o,none⟩)) (hc: w.rangeAt b o cs)
 (hu: P.underlying ty = some d) (hd: d.isRow = true) (hi: (P.info? ty).map (·.size) = some cs.length): (results fn tmps).run P w = .ok (.agg cs.toArray) w:= by
 simp only [Array.getD_eq_getD_getElem?] at hp
 simp only [results,h]
 simp [asAddr,hp,run_loadVar_mid w b o ty cs d hc hu hd hi]
theorem Tryz.infoK: (Tryz.prog.info? 42).map (fun i => (i.zero,i.size,i.bytes)) = some (some (.agg #[.bool false,.int .i64 0,.string .empty]),3,32):= by kernel_rfl
theorem Tryz.infoF: (Tryz.prog.info? 37).map (fun i => (i.zero,i.size,i.bytes)) = some (some (.agg #[.string .empty,.string .empty,.string .empty,.slice none 0 0]),4,72):= by kernel_rfl
theorem own_args {w: World} {base: Nat} {v: Value} {n: Nat} {ks: List K} (h: w.ownsRow base 42 3 v n (kcells ks)) (hf: ks.length ≤ 4398046510976):
 ∃ a c,v = .slice a ks.length c ∧ ArgsAt w a c ks ∧ ∀ ad,a = some ad → base ≤ ad.block:= by
 have hn: ks.length = n:= by have:= h.1;rw [kcells_len] at this;omega
 subst hn
 rcases h.2 with ⟨hv,h0⟩ | ⟨g,cap,cur,hv,hb,hg,hnc,hcm,hcs,ht⟩
 ·have: ks = []:= List.eq_nil_of_length_eq_zero h0
  subst this
  exact ⟨none,0,hv,ArgsAt.nil w,fun _ h => by cases h⟩
 ·refine ⟨some ⟨g,0,none⟩,cap,hv,⟨hnc,hf,(fun h => by cases h),fun ad ha j u hu => ?_⟩,(fun ad ha => by cases ha;exact hb)⟩
  cases ha
  have hj: j < ks.length * 3:= by have:= (List.getElem?_eq_some_iff.1 hu).1;rwa [kcells_len] at this
  rw [← ht,List.getElem?_take,if_pos hj] at hu
  rw [Addr.add_lit,Nat.zero_add]
  simp only [World.cell?,hg]
  simpa using hu
def TagK (w: World) (a: Option Addr): Prop:= ∀ ad,a = some ad → ∃ cur: Array Value,w.heap[ad.block]? = some (.cells cur 42)
theorem TagK.below {w w': World} {a: Option Addr} (h: TagK w a) (hb: Below w.heap.size w w'): TagK w' a:= fun ad ha => by
 obtain ⟨cur,hc⟩:= h ad ha
 exact ⟨cur,(hb.block _ (heap_lt hc)).trans hc⟩
theorem TagK.setCell {w: World} {a: Option Addr} (h: TagK w a) (p: Addr) (u: Value) (hp: ∀ ad,a = some ad → ad.block ≠ p.block): TagK (w.setCell p u) a:= fun ad ha => by
 obtain ⟨cur,hc⟩:= h ad ha
 exact ⟨cur,(Below.heap_setCell w p u _ (hp ad ha)).trans hc⟩
theorem own_args_tag {w: World} {base: Nat} {a: Option Addr} {m c n: Nat} {ks: List K} (h: w.ownsRow base 42 3 (.slice a m c) n (kcells ks)): TagK w a:= fun ad ha => by
 rcases h.2 with ⟨h0,_⟩ | ⟨g,cap,cur,hv,_,hh,_⟩
 ·cases h0;cases ha
 ·cases hv;cases ha;exact ⟨cur,hh⟩
theorem wpList_append_ks (w: World) {ops: Array Oper} {rest: List Oper} {o: Oper} {a: Act} {Q: Exit → Act → World → Prop} (hgd: o.guard = none) (s x: Operand)
 (ho: o.op = .call { callee:= .builtin .append,args:= #[s,x],argTypes:= #[35,35] })
 (ks: List K) (ao: Option Addr) (c: Nat) (hs: a.eval s = .slice none 0 0) (hx: a.eval x = .slice ao ks.length c) (hl: ArgsAt w ao c ks)
 (h: ∀ a' c' w',ArgsAt w' a' c' ks → (∀ ad,a' = some ad → w.heap.size ≤ ad.block) → Below w.heap.size w w' → TagK w' a' → wpList Tryz.prog ops Q rest (a.put o.dst (.slice a' ks.length c')) w'): wpList Tryz.prog ops Q (o:: rest) a w:= by
 obtain ⟨i0,hi,hz0,hz1,hz2⟩:= info_parts Tryz.infoK
 have hown: w.ownsRow w.heap.size 42 3 (.slice none 0 0) 0 (kcells []):= ⟨rfl,.inl ⟨rfl,rfl⟩⟩
 cases ao with
 | none =>
  obtain ⟨rfl,rfl⟩:= hl.void rfl
  exact wpList_append_own_none hgd s x 35 ho w.heap.size 42 i0 3 Tryz.underlying35 hi _ 0 (kcells []) hs hown hx (h none 0 w (ArgsAt.nil w) (fun _ h => by cases h) (Below.refl _ _) (fun _ h => by cases h))
 | some ad =>
  have hf:= hl.few
  refine wpList_append_own w hgd s x 35 ho w.heap.size 42 i0 _ 3 32 Tryz.underlying35 hi hz0 hz1 hz2 rfl (by decide) _ 0 (kcells []) hs hown ad ks.length c (kcells ks) hx (kcells_len ks) (hl.cells ad rfl) (kcells_one ks) (by unfold maxLen;omega) (by omega) (Nat.le_refl _) ?_
  intro v' w' ho' hg' hn'
  have hbel: Below w.heap.size w w':= (Below.refl _ _).grown hg' (Nat.le_refl _) (fun k hk => by cases hk)
  have ho2: w'.ownsRow w.heap.size 42 3 v' (0 + ks.length) (kcells ks):= by simpa [kcells] using ho'
  obtain ⟨a',c',rfl,hA,hF⟩:= own_args (ks:= ks) ho2 hf
  exact h a' c' w' hA hF hbel (own_args_tag ho2)
theorem ArgsAt.setCell {w: World} {a: Option Addr} {c: Nat} {ks: List K} (h: ArgsAt w a c ks) (p: Addr) (u: Value) (hp: ∀ ad,a = some ad → ad.block ≠ p.block): ArgsAt (w.setCell p u) a c ks:=
 ⟨h.room,h.few,h.void,fun ad ha j v hv => by
  rw [← h.cells ad ha j v hv]
  exact World.cell?_of_block (w:= w) (Below.heap_setCell w p u _ (by rw [addr_add_block];exact hp ad ha))⟩
theorem heap_alloc2 (w: World) (o1 o2: Obj): ((w.alloc o1).alloc o2).heap[w.heap.size]? = some o1 ∧ ((w.alloc o1).alloc o2).heap[w.heap.size + 1]? = some o2:= by
 refine ⟨(Below.heap_alloc _ _ _ (by simp)).trans (heap_alloc_new w _), ?_⟩
 have:= heap_alloc_new (w.alloc o1) o2
 rwa [show (w.alloc o1).heap.size = w.heap.size + 1 by simp] at this
theorem clone_at (x: Fv) (w: World) (hx: Fv.At w x): Calls Tryz.prog 63 #[x.val] w fun e w' => ∃ a c,e = .returned (Fv.val { x with a:= a,cap:= c }) ∧ ArgsAt w' a c x.ks ∧ (∀ ad,a = some ad → w.heap.size ≤ ad.block) ∧ Below w.heap.size w w' ∧ TagK w' a:= by
 obtain ⟨x1,x2,x3,xa,xc,xk⟩:= x
 have hx: ArgsAt w xa xc xk:= hx
 have hx1: ∀ o o': Obj,ArgsAt ((w.alloc o).alloc o') xa xc xk:= fun o o' => hx.below (B:= w.heap.size) ((below_alloc _ _).alloc (by simp) _) (Nat.le_refl _)
 go_enter Tryz.func63,Tryz.ntmps63
 go_wp2_with (at_builtin;refine wpList_append_ks _ rfl _ _ rfl xk xa xc rfl rfl (hx1 _ _) ?ap)
 case ap =>
  intro a' c' w' hA hF hB hT
  have h1: w'.heap[w.heap.size]? = some (.cells #[str x1,str x2,str x3,.slice xa xk.length xc] 37):= (hB.block _ (by omega)).trans (heap_alloc2 _ _ _).1
  have h2: w'.heap[w.heap.size + 1]? = some (.cells #[.string .empty,.string .empty,.string .empty,.slice none 0 0] 37):= (hB.block _ (by omega)).trans (heap_alloc2 _ _ _).2
  have b0:= heap_cell h1 0;have b1:= heap_cell h1 1;have b2:= heap_cell h1 2;have b3:= heap_cell h1 3;have b4:= heap_frozen h1 3
  have d0:= heap_cell h2 0;have d1:= heap_cell h2 1;have d2:= heap_cell h2 2;have d3:= heap_cell h2 3
  have e0:= heap_frozen h2 0;have e1:= heap_frozen h2 1;have e2:= heap_frozen h2 2;have e3:= heap_frozen h2 3
  simp at b0 b1 b2 b3 d0 d1 d2 d3
  have hBw: Below w.heap.size w w':= ((below_alloc _ _).alloc (by simp) _).trans (hB.mono (by omega))
  clear h1 h2 hB
  go_wp2_with fail
  refine bodyPost_ret (results_row (b:= w.heap.size + 1) (o:= 0) (cs:= fv ⟨x1,x2,x3,a',c',xk⟩) rfl rfl ?_ Tryz.underlying37 rfl (by kernel_rfl)) rfl ⟨a',c',rfl, ?_,fun ad ha => by have:= hF ad ha;omega, ?_, ?_⟩
  ·intro j v hv
   match j,hv with
   | 0,hv => simp [fv] at hv;subst hv;simp [World.cell?_setCell_other,World.cell?_setCell_same',d0]
   | 1,hv => simp [fv] at hv;subst hv;simp [World.cell?_setCell_other,World.cell?_setCell_same',d1]
   | 2,hv => simp [fv] at hv;subst hv;simp [World.cell?_setCell_other,World.cell?_setCell_same',d2]
   | 3,hv => simp [fv] at hv;subst hv;simp [World.cell?_setCell_other,World.cell?_setCell_same',d3]
   | j + 4,hv => simp [fv] at hv
  ·have hne: ∀ ad: Addr,a' = some ad → ad.block ≠ w.heap.size:= fun ad ha => by have:= hF ad ha;omega
   have hne': ∀ ad: Addr,a' = some ad → ad.block ≠ w.heap.size + 1:= fun ad ha => by have:= hF ad ha;omega
   exact ((((hA.setCell _ _ hne).setCell _ _ hne').setCell _ _ hne').setCell _ _ hne').setCell _ _ hne'
  ·exact ((((hBw.setCell (p:= ⟨w.heap.size,3,none⟩) (Nat.le_refl _) _).setCell (p:= ⟨w.heap.size + 1,0,none⟩) (Nat.le_succ _) _).setCell (p:= ⟨w.heap.size + 1,1,none⟩) (Nat.le_succ _) _).setCell (p:= ⟨w.heap.size + 1,2,none⟩) (Nat.le_succ _) _).setCell (p:= ⟨w.heap.size + 1,3,none⟩) (Nat.le_succ _) _
  ·have hne: ∀ ad: Addr,a' = some ad → ad.block ≠ w.heap.size:= fun ad ha => by have:= hF ad ha;omega
   have hne': ∀ ad: Addr,a' = some ad → ad.block ≠ w.heap.size + 1:= fun ad ha => by have:= hF ad ha;omega
   exact ((((hT.setCell _ _ hne).setCell _ _ hne').setCell _ _ hne').setCell _ _ hne').setCell _ _ hne'
theorem lies_new (w: World) (c: Array Value) (t: TypeId) (xs: List Fv) (h: c.toList = fcells xs) (hf: xs.length ≤ 1954687338211): Lies (w.alloc (.cells c t)) (some ⟨w.heap.size,0,none⟩) xs.length xs:=
 ⟨Nat.le_refl _,by unfold maxLen;omega,hf,(fun h => by cases h),fun ad ha j u hu => by
  cases ha
  rw [Addr.add_lit,heap_cell (heap_alloc_new w _),Nat.zero_add,← Array.getElem?_toList,h]
  exact hu⟩
end Go.Proofs.YtpdmmmdkpipmkaaGreatDoor
namespace Go.Proofs.YtpdmmmdkpipmkaaGreatDoor
open Go.RowKit Go.Lib Go.Shelf
theorem Ml.spB_snoc (l: Lt): ∀ (ls: List Lt) (k: Nat) (f: Ml.SpF),Ml.spB k (ls ++ [l]) f = Ml.mks (k + ls.length) (Ml.spB k ls f) (Ml.lvars l)
 | [],_,_ => rfl
 | a:: ls,k,f => by
  rw [List.cons_append,Ml.spB,Ml.spB,Ml.spB_snoc l ls (k + 1),List.length_cons,show k + 1 + ls.length = k + (ls.length + 1) by omega]
theorem SpansAt.mono {w: World} {bm n n': Nat} {f: Ml.SpF} (h: SpansAt w bm f n) (hn: n ≤ n'): SpansAt w bm f n':= by
 obtain ⟨D,h1,h2⟩:= h.has
 exact ⟨D,h1.mono hn,h2⟩
theorem row_news {α: Type} (D: Kd α) (w: World) (c: Array Value) (t: TypeId) (xs: List α) (h: c.toList = xs.flatMap D.enc) (hl: xs.length ≤ 4398046510976): Row D (w.alloc (.cells c t)) (some ⟨w.heap.size,0,none⟩) xs.length xs:=
 ⟨Nat.le_refl _,hl,(fun h => by cases h),fun ad ha j u hu => by
  cases ha
  rw [Addr.add_lit,heap_cell (heap_alloc_new w (.cells c t)),Nat.zero_add,← Array.getElem?_toList,h]
  exact hu⟩
structure SmR (x: Rv): Prop where
 body: x.body.length ≤ 300
 args: x.args.length ≤ 300
 each: ∀ l ∈ x.body,l.args.length ≤ 300
 head: ∀ v ∈ Ml.hvars x.r,v.length ≤ maxLen
 lits: ∀ l ∈ x.body,∀ v ∈ Ml.lvars l.l,v.length ≤ maxLen
theorem iL10: (Tryz.prog.info? 52).map (·.size) = some 10:= by kernel_rfl
theorem Tryz.iTz: (Tryz.prog.info? 44).map (fun i => (i.zero,i.size,i.bytes)) = some (some (.agg #[.string .empty,.bool false,.int .i64 0,.string .empty]),4,48):= by kernel_rfl
theorem mark_next {k: Nat} {a: Option Addr} {c: Nat} {ts: List Tm} {bx bm n m: Nat} {f: Ml.SpF} {w: World} (hr: Row tK w a c ts) (hx: w.heap[bx]? = some (.cells #[.map (some bm)] 193)) (S: SpansAt w bm f n)
 (hm: n + ts.length ≤ m) (hn: m ≤ 900000) (hv: ∀ t ∈ ts,t.v.length ≤ maxLen):
 Calls Tryz.prog 191 #[.int .i64 (k: Int),.slice a ts.length c,ptr bx] w fun e w' => e = .returned (.tuple #[]) ∧ SpansAt w' bm (Ml.mks k f (ts.map (·.v))) m ∧ But bm w w' ∧ w'.heap[bx]? = some (.cells #[.map (some bm)] 193):= by
 obtain ⟨es,clock,hmm⟩:= S.map
 refine (mark_at k a c ts bx bm n f w hr hx S (by omega) hv).mono ?_
 rintro e w' ⟨rfl,h1,h2⟩
 exact ⟨rfl,h1.mono hm,h2,but_cells h2 hmm hx rfl⟩
theorem spansOf_at (x: Rv) (w: World) (hr: Rv.Aw w x) (hs: SmR x):
 Calls Tryz.prog 146 #[rval x] w fun e w' => ∃ bm,e = .returned (.map (some bm)) ∧ SpansAt w' bm (Ml.spans x.r) 100000 ∧ w.heap.size ≤ bm ∧ Below w.heap.size w w':= by
 have TL:= Tryz.underlying52
 have TT:= Tryz.underlying44
 have few:= hr.body.few
 have fewa:= hr.args.few
 have hmk:= @run_makeMap Tryz.prog
 obtain ⟨W0,hW⟩: ∃ W0,((w.alloc (.cells #[str x.home.v,.bool x.home.k.num,.int .i64 x.home.k.n,str x.home.k.s,str x.pred,.slice x.a x.args.length x.cap,str x.to_.v,.bool x.to_.k.num,.int .i64 x.to_.k.n,str x.to_.k.s,.slice x.ba x.body.length x.bcap] 48)).alloc (.map #[] 0)).alloc (.cells #[.map (some (w.heap.size + 1))] 193) = W0:= ⟨_,rfl⟩
 have A1:= below_alloc w (.cells #[str x.home.v,.bool x.home.k.num,.int .i64 x.home.k.n,str x.home.k.s,str x.pred,.slice x.a x.args.length x.cap,str x.to_.v,.bool x.to_.k.num,.int .i64 x.to_.k.n,str x.to_.k.s,.slice x.ba x.body.length x.bcap] 48)
 have A2:= below_alloc (w.alloc (.cells #[str x.home.v,.bool x.home.k.num,.int .i64 x.home.k.n,str x.home.k.s,str x.pred,.slice x.a x.args.length x.cap,str x.to_.v,.bool x.to_.k.num,.int .i64 x.to_.k.n,str x.to_.k.s,.slice x.ba x.body.length x.bcap] 48)) (.map #[] 0)
 have A3:= below_alloc ((w.alloc (.cells #[str x.home.v,.bool x.home.k.num,.int .i64 x.home.k.n,str x.home.k.s,str x.pred,.slice x.a x.args.length x.cap,str x.to_.v,.bool x.to_.k.num,.int .i64 x.to_.k.n,str x.to_.k.s,.slice x.ba x.body.length x.bcap] 48)).alloc (.map #[] 0)) (.cells #[.map (some (w.heap.size + 1))] 193)
 have A:= Below.then A1 (Below.then A2 A3)
 have H0:= below_heap A3 (below_heap A2 (heap_alloc_new w (.cells #[str x.home.v,.bool x.home.k.num,.int .i64 x.home.k.n,str x.home.k.s,str x.pred,.slice x.a x.args.length x.cap,str x.to_.v,.bool x.to_.k.num,.int .i64 x.to_.k.n,str x.to_.k.s,.slice x.ba x.body.length x.bcap] 48)))
 have M0:= (spans_new (w.alloc (.cells #[str x.home.v,.bool x.home.k.num,.int .i64 x.home.k.n,str x.home.k.s,str x.pred,.slice x.a x.args.length x.cap,str x.to_.v,.bool x.to_.k.num,.int .i64 x.to_.k.n,str x.to_.k.s,.slice x.ba x.body.length x.bcap] 48))).next A3
 have X0:= heap_alloc_new ((w.alloc (.cells #[str x.home.v,.bool x.home.k.num,.int .i64 x.home.k.n,str x.home.k.s,str x.pred,.slice x.a x.args.length x.cap,str x.to_.v,.bool x.to_.k.num,.int .i64 x.to_.k.n,str x.to_.k.s,.slice x.ba x.body.length x.bcap] 48)).alloc (.map #[] 0)) (.cells #[.map (some (w.heap.size + 1))] 193)
 simp only [World.size_alloc] at M0 X0
 rw [hW] at A H0 M0 X0
 clear A1 A2 A3
 go_enter Tryz.func146,Tryz.ntmps146
 have c10: W0.cell? ⟨w.heap.size,10,none⟩ = some (.slice x.ba x.body.length x.bcap):= by rw [heap_cell H0];rfl
 go_upto_region 3 with fail
 have hr0:= hr.below A (Nat.le_refl _)
 have KP:= fun (wr: World) (h: But (w.heap.size + 1) W0 wr) => (⟨hr0.body.bmap h M0.map.choose_spec.choose_spec,hr0.args.bmap h M0.map.choose_spec.choose_spec,but_cells h M0.map.choose_spec.choose_spec H0 rfl,but_cells h M0.map.choose_spec.choose_spec X0 rfl⟩: Row lK wr x.ba x.bcap x.body ∧ Row tK wr x.a x.cap x.args ∧ wr.heap[w.heap.size]? = some (.cells #[str x.home.v,.bool x.home.k.num,.int .i64 x.home.k.n,str x.home.k.s,str x.pred,.slice x.a x.args.length x.cap,str x.to_.v,.bool x.to_.k.num,.int .i64 x.to_.k.n,str x.to_.k.s,.slice x.ba x.body.length x.bcap] 48) ∧ wr.heap[w.heap.size + 1 + 1]? = some (.cells #[.map (some (w.heap.size + 1))] 193))
 have KE:= fun (wr: World) (h: But (w.heap.size + 1) W0 wr) (y: Lv) (hy: y ∈ x.body) => Row.bmap (hr0.each y hy) h M0.map.choose_spec.choose_spec
 clear hr hr0 hW
 generalize x.ba = ba at *
 go_wp2_with fail
 go_loopw [12] (fun v wr => ∃ j: Nat,v = .int .i64 (j: Int) ∧ j ≤ x.body.length ∧ SpansAt wr (w.heap.size + 1) (Ml.spB 0 ((x.body.take j).map Lv.l) fun _ => none) (j * 302) ∧ But (w.heap.size + 1) W0 wr) (fun v _ => x.body.length - (RowKit.intOf v).toNat)
 case atStart => exact ⟨0,rfl,Nat.zero_le _,M0,But.refl _ _⟩
 case round =>
  obtain ⟨j,rfl,hj,Sj,Bj⟩:= hrel
  obtain ⟨Rb,Ra,Hj,Xj⟩:= KP wr Bj
  have hb300:= hs.body
  by_cases hlt: j < x.body.length
  ·have hq: (j: Int) < (x.body.length: Int):= by omega
   obtain ⟨b,o,rfl⟩:= Rb.addr (by omega)
   have rg:= Rb.range j hlt
   have hy:= List.getElem_mem hlt
   have Re:= KE wr Bj _ hy
   have he:= hs.each _ hy
   have hv:= hs.lits _ hy
   have TK: Hid (Ml.spB 0 ((x.body.take (j + 1)).map Lv.l) (fun _ => none) = Ml.mks j (Ml.mks j (Ml.spB 0 ((x.body.take j).map Lv.l) fun _ => none) [x.body[j].by_.v,x.body[j].at_.v]) (x.body[j].args.map (·.v))):= by
    show _ = _
    rw [List.take_succ_eq_append_getElem hlt,List.map_append,List.map_cons,List.map_nil,Ml.spB_snoc,List.length_map,List.length_take,Nat.min_eq_left hj,Nat.zero_add];rfl
   generalize x.body[j] = y at *
   generalize Ml.spB 0 ((x.body.take j).map Lv.l) (fun _ => none) = g at *
   have fewy:= Re.few
   have H1:= heap_alloc_new wr (.cells #[.string { data:= #[] },.bool false,.int .i64 0,.string { data:= #[] },.string { data:= #[] },.slice none 0 0,.string { data:= #[] },.bool false,.int .i64 0,.string { data:= #[] }] 52)
   go_wp2_with (first
    | (refine wpList_load_mid rfl 52 _ rfl b (o + j * 10) rfl (lv y) _ rg TL rfl iL10 ?_)
    | (refine wpList_store_all rfl 52 _ _ rfl wr.heap.size 10 _ 52 (lv y) rfl rfl H1 rfl rfl iL10 rfl ?_;intro w2 H2 b2;have B2:= below_tok b2;have x2:= below_heap B2 Xj;have S2:= Sj.next B2;have r0: w2.rangeAt wr.heap.size 0 (tv y.by_):= World.rangeAt_of_block H2 0 4;have r6: w2.rangeAt wr.heap.size 6 (tv y.at_):= World.rangeAt_of_block H2 6 4)
    | (refine wpList_load_mid rfl 44 _ rfl wr.heap.size 0 rfl (tv y.by_) _ r0 TT rfl iT4 ?_)
    | (refine wpList_load_mid rfl 44 _ rfl wr.heap.size 6 rfl (tv y.at_) _ r6 TT rfl iT4 ?_)
    | (refine wpList_build_two rfl 45 44 _ _ rfl (tv y.by_) (tv y.at_) _ 4 48 rfl rfl rfl rfl (by decide) (by decide) Tryz.underlying45 Tryz.iTz (tv y.by_ ++ tv y.at_).toArray rfl ?_;have A3:= below_alloc w2 (.cells (tv y.by_ ++ tv y.at_).toArray 44);have R3: Row tK (w2.alloc (.cells (tv y.by_ ++ tv y.at_).toArray 44)) (some ⟨w2.heap.size,0,none⟩) 2 [y.by_,y.at_]:= row_news tK w2 _ _ [y.by_,y.at_] rfl (by simp);have x3:= below_heap A3 x2;have S3:= S2.next A3;have H3:= below_heap A3 H2))
   obtain ⟨es3,ck3,m3⟩:= S3.map
   refine (mark_next (k:= j) (ts:= [y.by_,y.at_]) (m:= j * 302 + 2) R3 x3 S3 (by simp) (by omega) (fun t ht => hv _ (by rcases List.mem_cons.1 ht with rfl | ht;exact List.mem_cons_self ..;rw [List.mem_singleton] at ht;subst ht;exact List.mem_cons_of_mem _ (List.mem_cons_self ..)))).mono ?_
   rintro e w4 ⟨rfl,S4,b4,x4⟩
   have H4:= but_cells b4 m3 H3 rfl
   have T3:= Below.then B2 A3
   have R4:= (Row.below Re T3 (Nat.le_refl _)).bmap b4 m3
   have c4: w4.cell? ⟨wr.heap.size,5,none⟩ = some (.slice y.a y.args.length y.cap):= by rw [heap_cell H4];rfl
   have B4: But (w.heap.size + 1) W0 w4:= Bj.trans ((But.of_below T3).trans b4)
   clear b4 m3 H3 S3 R3 A3 x3 S2 x2 r0 r6
   go_wp2_with fail
   refine (mark_next (k:= j) (ts:= y.args) (m:= (j + 1) * 302) R4 x4 S4 (by omega) (by omega) (fun t ht => hv _ (List.mem_cons_of_mem _ (List.mem_cons_of_mem _ (List.mem_map_of_mem ht))))).mono ?_
   rintro e w5 ⟨rfl,S5,b5,x5⟩
   go_wp2_with fail
   go_roundw
   case rel => exact ⟨j + 1,rfl,hlt,by rw [TK.out];exact S5,B4.trans b5⟩
   case measure => simp [RowKit.intOf];omega
  ·have hq: ¬ (j: Int) < (x.body.length: Int):= by omega
   obtain rfl: j = x.body.length:= by omega
   rw [List.take_length] at Sj
   have SP: Hid (Ml.spans x.r = Ml.mks x.body.length (Ml.mks x.body.length (Ml.spB 0 (x.body.map Lv.l) fun _ => none) [x.home.v,x.to_.v]) (x.args.map (·.v))):= by
    show _ = _
    unfold Ml.spans
    rw [show x.r.body = x.body.map Lv.l from rfl,List.length_map];rfl
   have hv:= hs.head
   have ha:= hs.args
   generalize Ml.spB 0 (x.body.map Lv.l) (fun _ => none) = g at *
   have r0: wr.rangeAt w.heap.size 0 (tv x.home):= World.rangeAt_of_block Hj 0 4
   have r6: wr.rangeAt w.heap.size 6 (tv x.to_):= World.rangeAt_of_block Hj 6 4
   have c1: wr.cell? ⟨w.heap.size,10,none⟩ = some (.slice ba x.body.length x.bcap):= by rw [heap_cell Hj];rfl
   have A3:= below_alloc wr (.cells (tv x.home ++ tv x.to_).toArray 44)
   go_wp2_with (first
    | (refine wpList_load_mid rfl 44 _ rfl w.heap.size 0 rfl (tv x.home) _ r0 TT rfl iT4 ?_)
    | (refine wpList_load_mid rfl 44 _ rfl w.heap.size 6 rfl (tv x.to_) _ r6 TT rfl iT4 ?_)
    | (refine wpList_build_two rfl 45 44 _ _ rfl (tv x.home) (tv x.to_) _ 4 48 rfl rfl rfl rfl (by decide) (by decide) Tryz.underlying45 Tryz.iTz (tv x.home ++ tv x.to_).toArray rfl ?_))
   have R3: Row tK (wr.alloc (.cells (tv x.home ++ tv x.to_).toArray 44)) (some ⟨wr.heap.size,0,none⟩) 2 [x.home,x.to_]:= row_news tK wr _ _ [x.home,x.to_] rfl (by simp)
   have S3:= Sj.next A3
   obtain ⟨es3,ck3,m3⟩:= S3.map
   refine (mark_next (k:= x.body.length) (ts:= [x.home,x.to_]) (m:= x.body.length * 302 + 2) R3 (below_heap A3 Xj) S3 (by simp) (by omega) (fun t ht => hv _ (by rcases List.mem_cons.1 ht with rfl | ht;exact List.mem_cons_self ..;rw [List.mem_singleton] at ht;subst ht;exact List.mem_cons_of_mem _ (List.mem_cons_self ..)))).mono ?_
   rintro e w4 ⟨rfl,S4,b4,x4⟩
   have H4:= but_cells b4 m3 (below_heap A3 Hj) rfl
   have R4:= (Row.below Ra A3 (Nat.le_refl _)).bmap b4 m3
   have c4: w4.cell? ⟨w.heap.size,5,none⟩ = some (.slice x.a x.args.length x.cap):= by rw [heap_cell H4];rfl
   have c5: w4.cell? ⟨w.heap.size,10,none⟩ = some (.slice ba x.body.length x.bcap):= by rw [heap_cell H4];rfl
   have B4: But (w.heap.size + 1) W0 w4:= Bj.trans ((But.of_below A3).trans b4)
   clear b4 m3 S3 R3 A3 r0 r6 c1
   go_wp2_with fail
   refine (mark_next (k:= x.body.length) (ts:= x.args) (m:= 100000) R4 x4 S4 (by omega) (by omega) (fun t ht => hv _ (List.mem_cons_of_mem _ (List.mem_cons_of_mem _ (List.mem_map_of_mem ht))))).mono ?_
   rintro e w5 ⟨rfl,S5,b5,x5⟩
   have c6: w5.cell? ⟨w.heap.size + 1 + 1,0,none⟩ = some (.map (some (w.heap.size + 1))):= by rw [heap_cell x5];rfl
   go_wp2_with fail
   go_ret
   refine ⟨_,rfl,by rw [SP.out];exact S5,by omega,A.trans ?_⟩
   exact (B4.trans b5).lower (by omega) A.size
end Go.Proofs.YtpdmmmdkpipmkaaGreatDoor
