/-
  Facts: what the reference's Order answers.
-/
import Derived.Shelf.SlSortCmp.QuietGrown
import Derived.Deep.QuietTactic
import Derived.BigQuiet
import Derived.Test.YtpdmmmdkpipmkaaGreatDoorQMk
import Derived.Test.YtpdmmmdkpipmkaaGreatDoorQAp2
import Derived.Test.YtpdmmmdkpipmkaaGreatDoorQFrame
set_option maxRecDepth 100000
set_option maxHeartbeats 4000000
namespace Go.Proofs.YtpdmmmdkpipmkaaGreatDoor
open Go.RowKit Go.Sort
theorem boxes_args (w: World) (o1 o2: Array Value) (t: TypeId) (v1 v2: Value) (h1: o1[3]? = some v1) (h2: o2[3]? = some v2):
 ((w.alloc (.cells o1 t)).alloc (.cells o2 t)).cell? ⟨w.heap.size,3,none⟩ = some v1 ∧ ((w.alloc (.cells o1 t)).alloc (.cells o2 t)).cell? ⟨w.heap.size + 1,3,none⟩ = some v2:= by
 constructor
 ·simp [h1]
 ·simp [h2]
theorem reforder_at (x y: Fv) (w: World) (hx: Fv.At w x) (hy: Fv.At w y): Calls Tryz.prog 32 #[x.val,y.val] w fun e w' => e = .returned (.int .i64 (cF x.f y.f)) ∧ Grew w w':= by
 have hS:= fun (l m: List UInt8) (W: World) => texts_at l m W
 have hC:= fun (p q: K) (W: World) => refcompare_at p q W
 have mixed: Tryz.prog.follows .mixedOrders = true:= by kernel_rfl
 have eg: ∀ args w,(callFunc 58 args).run Tryz.prog w = .ok (.enter 58 args) w:= enters_of Tryz.func58 (by kernel_rfl) rfl
 have hg2: ∀ o o': Obj,Grew w ((w.alloc o).alloc o'):= fun o o' => ((Grew.refl w).allocs o).allocs o'
 have e1:= @cF_at x.f y.f;have e2:= @cF_by x.f y.f;have e3:= @cF_pred x.f y.f;have e4:= @cF_args x.f y.f
 generalize cF x.f y.f = r at *
 simp only [Fv.f] at e1 e2 e3 e4
 obtain ⟨x1,x2,x3,xa,xc,xk⟩:= x;obtain ⟨y1,y2,y3,ya,yc,yk⟩:= y
 have hx: ArgsAt w xa xc xk:= hx
 have hy: ArgsAt w ya yc yk:= hy
 simp only at e1 e2 e3 e4
 have E1:= hideP e1;have E2:= hideP e2;have E3:= hideP e3;have E4:= hideP e4;clear e1 e2 e3 e4
 by_cases h1: x1 = y1
 rotate_left
 ·have k1: (x1 == y1) = false:= by simp [h1]
  have z1:= E1.out (by rw [ne_eq,cT_zero];exact h1)
  have Z1:= hideP z1;clear z1
  go_enter Tryz.func32,Tryz.ntmps32
  go_wp2_with (go_at_call 57;refine (hS x1 y1 _).mono ?_;rintro e w' ⟨rfl,rfl⟩)
  go_ret
  exact ⟨ret_int Z1.out.symm,hg2 _ _⟩
 have z0: cT x1 y1 = 0:= (cT_zero _ _).2 h1
 subst h1
 by_cases h2: x2 = y2
 rotate_left
 ·have k1: (x2 == y2) = false:= by simp [h2]
  have z1:= E2.out z0 (by rw [ne_eq,cT_zero];exact h2)
  have Z1:= hideP z1;clear z1
  go_enter Tryz.func32,Tryz.ntmps32
  go_wp2_with (go_at_call 57;refine (hS x2 y2 _).mono ?_;rintro e w' ⟨rfl,rfl⟩)
  go_ret
  exact ⟨ret_int Z1.out.symm,hg2 _ _⟩
 have z2: cT x2 y2 = 0:= (cT_zero _ _).2 h2
 subst h2
 by_cases h3: x3 = y3
 rotate_left
 ·have k1: (x3 == y3) = false:= by simp [h3]
  have z1:= E3.out z0 z2 (by rw [ne_eq,cT_zero];exact h3)
  have Z1:= hideP z1;clear z1
  go_enter Tryz.func32,Tryz.ntmps32
  go_wp2_with (go_at_call 57;refine (hS x3 y3 _).mono ?_;rintro e w' ⟨rfl,rfl⟩)
  go_ret
  exact ⟨ret_int Z1.out.symm,hg2 _ _⟩
 have z3: cT x3 y3 = 0:= (cT_zero _ _).2 h3
 subst h3
 have Z:= hideP (E4.out z0 z2 z3)
 clear E1 E2 E3 E4 z0 z2 z3 hS
 have b1:= hx.few;have b2:= hy.few
 go_enter Tryz.func32,Tryz.ntmps32
 go_wp2_with fail
 obtain ⟨w2,hw2⟩: ∃ w2,w2 = (w.alloc (.cells #[str x1,str x2,str x3,.slice xa xk.length xc] 37)).alloc (.cells #[str x1,str x2,str x3,.slice ya yk.length yc] 37):= ⟨_,rfl⟩
 have G2: Grew w w2:= by rw [hw2];exact hg2 _ _
 obtain ⟨B1,B2⟩:= boxes_args w #[str x1,str x2,str x3,.slice xa xk.length xc] #[str x1,str x2,str x3,.slice ya yk.length yc] 37 _ _ rfl rfl
 rw [← hw2] at B1 B2 ⊢
 have hx2:= ArgsAt.below hx G2.below (Nat.le_refl _)
 have hy2:= ArgsAt.below hy G2.below (Nat.le_refl _)
 have hB1:= cell_block B1;have hB2:= cell_block B2
 clear hw2 hx hy hg2
 go_loopw [5,6] (fun v _ wr => ∃ k: Nat,v = .int .i64 (k: Int) ∧ k ≤ xk.length ∧ k ≤ yk.length ∧ Hid (Even xk yk k) ∧ Grew w2 wr) (fun v _ _ => xk.length - (RowKit.intOf v).toNat)
 case atStart => exact ⟨0,rfl,by omega,by omega,fun j _ _ h => absurd h (by omega),Grew.refl _⟩
 case round =>
  obtain ⟨k,rfl,hk,hk',hev,hg⟩:= hrel
  have c1:= (hg.below.cell (p:= ⟨w.heap.size,3,none⟩) hB1).trans B1
  have c2:= (hg.below.cell (p:= ⟨w.heap.size + 1,3,none⟩) hB2).trans B2
  have n1:= cell_block c1;have n2:= cell_block c2
  by_cases hlt: k < xk.length
  ·have q2: (k: Int) < (xk.length: Int):= by omega
   by_cases hlt': k < yk.length
   ·have q4: (k: Int) < (yk.length: Int):= by omega
    obtain ⟨P1,O1,rfl⟩:= hx2.addr (Nat.lt_of_le_of_lt (Nat.zero_le _) hlt)
    obtain ⟨P2,O2,rfl⟩:= hy2.addr (Nat.lt_of_le_of_lt (Nat.zero_le _) hlt')
    obtain ⟨a1,a2,a3⟩:= (hx2.below hg.below (Nat.le_refl _)).get k hlt
    obtain ⟨d1,d2,d3⟩:= (hy2.below hg.below (Nat.le_refl _)).get k hlt'
    have n3:= cell_block a1;have n4:= cell_block d1
    have hn:= hC xk[k] yk[k]
    have hev': Hid (cK xk[k] yk[k] = 0 → Even xk yk (k + 1)):= fun h j hjx hjy hj => by
     by_cases e: j = k
     ·subst e;exact h
     ·exact hev.out j hjx hjy (by omega)
    have hhit: Hid (cK xk[k] yk[k] ≠ 0 → cL cK xk yk = cK xk[k] yk[k]):= fun h => cL_hit cK xk yk k hlt hlt' (fun j hjx hjy hj => hev.out j hjx hjy hj) h
    generalize xk[k] = p at *
    generalize yk[k] = q at *
    have C1:= fun n os => cell_grown (cell_block c1) c1 n os
    have C2:= fun n os => cell_grown (cell_block c2) c2 n os
    have A1:= fun n os => cell_grown (cell_block a1) a1 n os
    have A2:= fun n os => cell_grown (cell_block a2) a2 n os
    have A3:= fun n os => cell_grown (cell_block a3) a3 n os
    have D1:= fun n os => cell_grown (cell_block d1) d1 n os
    have D2:= fun n os => cell_grown (cell_block d2) d2 n os
    have D3:= fun n os => cell_grown (cell_block d3) d3 n os
    clear hC
    by_cases hr: cK p q = 0
    ·have hev'':= hideP (hev'.out hr)
     simp only [hr] at hn
     go_wp2_with fail
     go_quiet_grown (first | (go_at_fn 58;refine Calls.grown_of (hn _)))
     go_wp2_with fail
     exact ⟨⟨k + 1,by simp,by omega,by omega,hev'',hg.trans (Grew.grow _ _ _)⟩,by simp [RowKit.intOf];omega⟩
    ·have hhit':= hideP (hhit.out hr)
     generalize cK p q = r at hn hr hhit'
     go_wp2_with fail
     go_quiet_grown (first | (go_at_fn 58;refine Calls.grown_of (hn _)))
     go_wp2_with fail
     go_ret
     exact ⟨ret_int (by rw [Z.out,hhit'.out]),G2.trans (hg.trans (Grew.grow _ _ _))⟩
   ·have q4: ¬ (k: Int) < (yk.length: Int):= by omega
    have q5: ¬ (xk.length: Int) < (yk.length: Int):= by omega
    have q6: (yk.length: Int) < (xk.length: Int):= by omega
    go_wp2_with fail
    go_ret
    refine ⟨ret_int ?_,G2.trans hg⟩
    rw [Z.out,cL_long cK xk yk (by omega) fun j hjx hjy => hev.out j hjx hjy (by omega)]
  ·have q2: ¬ (k: Int) < (xk.length: Int):= by omega
   by_cases hlt': xk.length < yk.length
   ·have q3: (xk.length: Int) < (yk.length: Int):= by omega
    go_wp2_with fail
    go_ret
    refine ⟨ret_int ?_,G2.trans hg⟩
    rw [Z.out,cL_short cK xk yk (by omega) fun j hjx hjy => hev.out j hjx hjy (by omega)]
   ·have q3: ¬ (xk.length: Int) < (yk.length: Int):= by omega
    have q4: ¬ (yk.length: Int) < (xk.length: Int):= by omega
    go_wp2_with fail
    go_ret
    refine ⟨ret_int ?_,G2.trans hg⟩
    rw [Z.out,cL_even cK xk yk (by omega) fun j hjx hjy => hev.out j hjx hjy (by omega)]
end Go.Proofs.YtpdmmmdkpipmkaaGreatDoor
namespace Go.Proofs.YtpdmmmdkpipmkaaGreatDoor
open Go.RowKit Go.Sort
def likeB (l m: List F): Bool:= decide (cL cF l m = 0)
theorem likeB_iff (l m: List F): likeB l m = true ↔ l = m:= by
 unfold likeB;rw [decide_eq_true_eq,cL_zero cF_zero]
theorem likeB_no {l m: List F} (h: l ≠ m): likeB l m = false:= by
 rw [Bool.eq_false_iff];exact fun h' => h ((likeB_iff l m).1 h')
theorem like_at (a a': Option Addr) (c c': Nat) (xs ys: List Fv) (w: World) (hx: Lies w a c xs) (hy: Lies w a' c' ys) (ax: ∀ x ∈ xs,Fv.At w x) (ay: ∀ y ∈ ys,Fv.At w y):
 Calls Tryz.prog 18 #[.slice a xs.length c,.slice a' ys.length c'] w fun e w' => e = .returned (.bool (likeB (xs.map Fv.f) (ys.map Fv.f))) ∧ Grew w w':= by
 have mixed: Tryz.prog.follows .mixedOrders = true:= by kernel_rfl
 have hC:= fun (p q: Fv) (W: World) (hp: Fv.At W p) (hq: Fv.At W q) => reforder_at p q W hp hq
 have b1:= hx.few;have b2:= hy.few
 by_cases hl: xs.length = ys.length
 rotate_left
 ·have q0: ((xs.length: Int) != (ys.length: Int)) = true:= by simp;omega
  have hno: likeB (xs.map Fv.f) (ys.map Fv.f) = false:= likeB_no fun h => hl (by have:= congrArg List.length h;simpa using this)
  rw [hno]
  go_enter Tryz.func18,Tryz.ntmps18
  go_wp2_with fail
  go_ret
  exact ⟨rfl,Grew.refl _⟩
 ·have q0: ((xs.length: Int) != (ys.length: Int)) = false:= by simp;omega
  have Hl:= hideP hl;clear hl
  go_enter Tryz.func18,Tryz.ntmps18
  go_wp2_with fail
  go_loopw [5] (fun v wr => ∃ k: Nat,v = .int .i64 (k: Int) ∧ k ≤ xs.length ∧ Hid (∀ j (h1: j < xs.length) (h2: j < ys.length),j < k → xs[j].f = ys[j].f) ∧ Grew w wr) (fun v _ => xs.length - (RowKit.intOf v).toNat)
  case atStart => exact ⟨0,rfl,by omega,fun j _ _ h => absurd h (by omega),Grew.refl _⟩
  case round =>
   obtain ⟨k,rfl,hk,hev,hg⟩:= hrel
   by_cases hlt: k < xs.length
   ·have q2: (k: Int) < (xs.length: Int):= by omega
    have hlt': k < ys.length:= by have:= Hl.out;omega
    have q3: (k: Int) < (ys.length: Int):= by omega
    obtain ⟨P1,O1,rfl⟩:= hx.addr (Nat.lt_of_le_of_lt (Nat.zero_le _) hlt)
    obtain ⟨P2,O2,rfl⟩:= hy.addr (Nat.lt_of_le_of_lt (Nat.zero_le _) hlt')
    obtain ⟨a1,a2,a3,a4⟩:= (hx.below hg.below (Nat.le_refl _)).get k hlt
    obtain ⟨d1,d2,d3,d4⟩:= (hy.below hg.below (Nat.le_refl _)).get k hlt'
    have hn:= fun n os => hC (xs[k]'hlt) (ys[k]'hlt') (grow (wr.drewN n) os) ((ax _ (List.getElem_mem hlt)).grew (hg.trans (Grew.grow _ _ _))) ((ay _ (List.getElem_mem hlt')).grew (hg.trans (Grew.grow _ _ _)))
    have hev': Hid (cF (xs[k]'hlt).f (ys[k]'hlt').f = 0 → ∀ j (h1: j < xs.length) (h2: j < ys.length),j < k + 1 → xs[j].f = ys[j].f):= fun h j h1 h2 hj => by
     by_cases e: j = k
     ·subst e;exact (cF_zero _ _).1 h
     ·exact hev.out j h1 h2 (by omega)
    have hno: Hid (cF (xs[k]'hlt).f (ys[k]'hlt').f ≠ 0 → likeB (xs.map Fv.f) (ys.map Fv.f) = false):= fun h => likeB_no fun he => h (by
     rw [cF_zero]
     have h1: (xs.map Fv.f)[k]'(by simpa using hlt) = (ys.map Fv.f)[k]'(by simpa using hlt'):= by simp only [he]
     simpa using h1)
    generalize (xs[k]'hlt) = p at *
    generalize (ys[k]'hlt') = q at *
    have A1:= fun n os => cell_grown (cell_block a1) a1 n os
    have A2:= fun n os => cell_grown (cell_block a2) a2 n os
    have A3:= fun n os => cell_grown (cell_block a3) a3 n os
    have A4:= fun n os => cell_grown (cell_block a4) a4 n os
    have D1:= fun n os => cell_grown (cell_block d1) d1 n os
    have D2:= fun n os => cell_grown (cell_block d2) d2 n os
    have D3:= fun n os => cell_grown (cell_block d3) d3 n os
    have D4:= fun n os => cell_grown (cell_block d4) d4 n os
    clear hC a1 a2 a3 a4 d1 d2 d3 d4 ax ay
    by_cases hr: cF p.f q.f = 0
    ·have hev'':= hideP (hev'.out hr)
     simp only [hr] at hn
     go_wp2_with fail
     go_quiet_grown (first | (go_at_call 32;refine Calls.grown_of (hn _ _)))
     go_wp2_with fail
     exact ⟨⟨k + 1,by simp,by omega,hev'',hg.trans (Grew.grow _ _ _)⟩,by simp [RowKit.intOf];omega⟩
    ·have hno':= hideP (hno.out hr)
     generalize cF p.f q.f = r at hn hr
     go_wp2_with fail
     go_quiet_grown (first | (go_at_call 32;refine Calls.grown_of (hn _ _)))
     go_wp2_with fail
     go_ret
     exact ⟨ret_bool hno'.out.symm,hg.trans (Grew.grow _ _ _)⟩
   ·have q2: ¬ (k: Int) < (xs.length: Int):= by omega
    have hyes: Hid (likeB (xs.map Fv.f) (ys.map Fv.f) = true):= (likeB_iff _ _).2 (List.ext_getElem (by simpa using Hl.out) fun j h1 h2 => by
     simp only [List.getElem_map]
     exact hev.out j (by simpa using h1) (by simpa using h2) (by simp at h1;omega))
    go_wp2_with fail
    go_ret
    exact ⟨ret_bool hyes.out.symm,hg⟩
end Go.Proofs.YtpdmmmdkpipmkaaGreatDoor
namespace Go.Proofs.YtpdmmmdkpipmkaaGreatDoor
open Go.RowKit Go.Lib Go.Shelf
theorem rin_at (w: World) (a: Option Addr) (c: Nat) (N: List (List UInt8)) (s: List UInt8) (h: Row sK w a c N):
 Calls Tryz.prog 91 #[.slice a N.length c,str s] w fun e w' => e = .returned (.bool (decide (s ∈ N))) ∧ w = w':= by
 have few:= h.few
 go_enter Tryz.func91,Tryz.ntmps91
 go_wp2_with fail
 go_loopw [5] (fun v wr => ∃ k: Nat,v = .int .i64 (k: Int) ∧ k ≤ N.length ∧ Hid (s ∉ N.take k) ∧ w = wr) (fun v _ => N.length - (RowKit.intOf v).toNat)
 case atStart => exact ⟨0,rfl,by omega,hideP (by simp),rfl⟩
 case round =>
  obtain ⟨k,rfl,hk,hno,rfl⟩:= hrel
  by_cases hlt: k < N.length
  ·have q0: (k: Int) < (N.length: Int):= by omega
   obtain ⟨b,o,rfl⟩:= h.addr (by omega)
   have c1:= h.text k hlt
   by_cases hq: N[k] = s
   ·have q1: (N[k] == s) = true:= by simpa using hq
    have hm:= hideP (show s ∈ N from hq ▸ List.getElem_mem hlt)
    clear hq
    go_wp2_with fail
    go_ret
    exact ⟨ret_bool (decide_eq_true hm.out).symm,rfl⟩
   ·have q1: (N[k] == s) = false:= by simpa using hq
    have HN: Hid (s ∉ N.take (k + 1)):= hideP (by
     rw [← List.take_append_getElem hlt]
     simp only [List.mem_append,List.mem_singleton,not_or]
     exact ⟨hno.out,fun h => hq h.symm⟩)
    clear hq
    go_wp2_with fail
    exact ⟨⟨k + 1,rfl,hlt,HN,by first | rfl | trivial⟩,by simp [RowKit.intOf];omega⟩
  ·have q0: ¬ (k: Int) < (N.length: Int):= by omega
   obtain rfl: k = N.length:= by omega
   have hno':= hno.out
   rw [List.take_length] at hno'
   have HN:= hideP hno'
   clear hno'
   go_wp2_with fail
   go_ret
   exact ⟨ret_bool (decide_eq_false HN.out).symm,rfl⟩
end Go.Proofs.YtpdmmmdkpipmkaaGreatDoor
namespace Go.Proofs.YtpdmmmdkpipmkaaGreatDoor
open Go.RowKit Go.Sort
structure TxF (x: Fv): Prop where
 a: x.at_.length ≤ 140737488351232
 b: x.by_.length ≤ 140737488351232
 c: x.pred.length ≤ 140737488351232
 d: ∀ k ∈ x.ks,k.s.length ≤ 140737488351232
end Go.Proofs.YtpdmmmdkpipmkaaGreatDoor
namespace Go.Proofs.YtpdmmmdkpipmkaaGreatDoor
open Go.RowKit Go.Lib Go.Shelf Go.Sort
structure LtF (m: Int) (x: Fv): Prop where
 ks: (x.ks.length: Int) ≤ m
 txt: (x.at_.length: Int) + x.by_.length + x.pred.length < 16 * (m + 1)
 each: ∀ q ∈ x.ks,(q.s.length: Int) < 16 * (m + 1)
theorem weightF_at (m: Int) (hm0: 0 ≤ m) (hm1: m ≤ 1000) (a: Option Addr) (c: Nat) (xs: List Fv) (w: World) (hx: Lies w a c xs) (ax: ∀ x ∈ xs,Fv.At w x) (tx: ∀ x ∈ xs,TxF x):
 Calls Tryz.prog 15 #[.slice a xs.length c,.int .i64 m] w fun e w' => (∃ r: Int,e = .returned (.int .i64 r) ∧ (r ≤ m → (xs.length: Int) ≤ m ∧ ∀ x ∈ xs,LtF m x)) ∧ Grew w w':= by
 have mixed: Tryz.prog.follows .mixedOrders = true:= by kernel_rfl
 have b1:= hx.few
 go_enter Tryz.func15,Tryz.ntmps15
 go_wp2_with fail
 go_loopw [5,6,7] (fun v5 v6 _ wr => ∃ (k: Nat) (n: Int),v5 = .int .i64 n ∧ v6 = .int .i64 (k: Int) ∧ k ≤ xs.length ∧ (k: Int) ≤ n ∧ n ≤ 4611686018427387904 ∧ Hid (n ≤ m → ∀ x ∈ xs.take k,LtF m x) ∧ Grew w wr) (fun _ v6 _ _ => xs.length - (RowKit.intOf v6).toNat)
 case atStart => exact ⟨0,0,rfl,rfl,by omega,by omega,by omega,hideP (fun _ x h => by simp at h),Grew.refl _⟩
 case round =>
  obtain ⟨k,n,rfl,rfl,hk,hkn,hnt,hP,hg⟩:= hrel
  by_cases hlt: k < xs.length
  ·have q2: (k: Int) < (xs.length: Int):= by omega
   by_cases hn: n ≤ m
   ·obtain ⟨P1,O1,rfl⟩:= hx.addr (Nat.lt_of_le_of_lt (Nat.zero_le _) hlt)
    have hx':= hx.below hg.below (Nat.le_refl _)
    obtain ⟨a1,a2,a3,a4⟩:= hx'.get k hlt
    have hA:= (ax _ (List.getElem_mem hlt)).grew hg
    have hT:= tx _ (List.getElem_mem hlt)
    have hfew:= ArgsAt.few hA
    have hst: Hid (∀ x,x ∈ xs.take (k + 1) → x ∈ xs.take k ∨ x = xs[k]'hlt):= hideP (fun x h => by
     rw [← List.take_append_getElem hlt,List.mem_append,List.mem_singleton] at h;exact h)
    generalize (xs[k]'hlt) = p at *
    obtain ⟨t1,t2,t3,t4⟩:= hT
    go_wp2_with fail
    go_quiet (fail)
    go_wp2_with fail
    have hg2:= hg.trans (Grew.drewN wr nq)
    have b2:= (Grew.drewN wr nq).below
    have e4:= (b2.cell (p:= ⟨P1,O1 + k * 4 + 3,none⟩) (cell_block a4)).trans a4
    have hA2:= hA.grew (Grew.drewN wr nq)
    generalize wr.drewN nq = w2 at *
    clear a1 a2 a3 a4 b2 hA hx' hg
    go_loopw [5,7] (fun v5 v7 wi => ∃ (j: Nat) (n': Int),v5 = .int .i64 n' ∧ v7 = .int .i64 (j: Int) ∧ j ≤ p.ks.length ∧ (k: Int) + 1 ≤ n' ∧ n' ≤ 4611686018427387904 ∧ n ≤ n' ∧ (p.ks.length: Int) ≤ n' ∧ (p.at_.length: Int) + p.by_.length + p.pred.length < 16 * (n' + 1) ∧ Hid (n' ≤ m → ∀ q ∈ p.ks.take j,(q.s.length: Int) < 16 * (m + 1)) ∧ Grew w2 wi) (fun _ v7 _ => p.ks.length - (RowKit.intOf v7).toNat)
    case atStart => exact ⟨0,_,rfl,rfl,by omega,by omega,by omega,by omega,by omega,by omega,hideP (fun _ x h => by simp at h),Grew.refl _⟩
    case round =>
     obtain ⟨j,n',rfl,rfl,hj,hn1,hn2,hn3,hn4,hn5,hQ,hgi⟩:= hrel
     have c4:= (hgi.below.cell (p:= ⟨P1,O1 + k * 4 + 3,none⟩) (cell_block e4)).trans e4
     by_cases hjl: j < p.ks.length
     ·have q3: (j: Int) < (p.ks.length: Int):= by omega
      by_cases hn': n' ≤ m
      ·obtain ⟨P2,O2,hP2⟩:= ArgsAt.addr hA2 (Nat.lt_of_le_of_lt (Nat.zero_le _) hjl)
       have hA3:= hA2.grew hgi
       rw [Fv.At,hP2] at hA3
       rw [hP2] at c4
       obtain ⟨m1,m2,m3⟩:= hA3.get j hjl
       have t5:= t4 _ (List.getElem_mem hjl)
       have hsj: Hid (∀ q,q ∈ p.ks.take (j + 1) → q ∈ p.ks.take j ∨ q = p.ks[j]'hjl):= hideP (fun x h => by
        rw [← List.take_append_getElem hjl,List.mem_append,List.mem_singleton] at h;exact h)
       generalize (p.ks[j]'hjl) = qq at *
       go_wp2_with fail
       refine ⟨⟨j + 1,_,rfl,by simp,by omega,by omega,by omega,by omega,by omega,by omega,hideP (fun hle q hq => ?_),hgi⟩,by simp [RowKit.intOf];omega⟩
       rcases hsj.out q hq with h | rfl
       ·exact hQ.out hn' q h
       ·omega
      ·have HN: Hid (n' ≤ m → ∀ x ∈ xs.take (k + 1),LtF m x):= hideP (fun h => absurd h hn')
       go_wp2_with fail
       exact ⟨⟨k + 1,n',rfl,by simp,by omega,by omega,by omega,HN,hg2.trans hgi⟩,by simp [RowKit.intOf];omega⟩
     ·have q3: ¬ (j: Int) < (p.ks.length: Int):= by omega
      have HN: Hid (n' ≤ m → ∀ x ∈ xs.take (k + 1),LtF m x):= hideP (fun h x hx => by
       rcases hst.out x hx with h' | rfl
       ·exact hP.out (by omega) x h'
       ·have hq:= hQ.out h
        rw [List.take_of_length_le (by omega)] at hq
        exact ⟨by omega,by omega,hq⟩)
      go_wp2_with fail
      exact ⟨⟨k + 1,n',rfl,by simp,by omega,by omega,by omega,HN,hg2.trans hgi⟩,by simp [RowKit.intOf];omega⟩
   ·go_wp2_with fail
    go_ret
    exact ⟨⟨n,rfl,fun h => by omega⟩,hg⟩
  ·have q2: ¬ (k: Int) < (xs.length: Int):= by omega
   have HN: Hid (n ≤ m → ∀ x ∈ xs,LtF m x):= hideP (fun h x hx => hP.out h x (by rw [List.take_of_length_le (by omega)];exact hx))
   go_wp2_with fail
   go_ret
   exact ⟨⟨n,rfl,fun h => ⟨by omega,HN.out h⟩⟩,hg⟩
end Go.Proofs.YtpdmmmdkpipmkaaGreatDoor
namespace Go.Proofs.YtpdmmmdkpipmkaaGreatDoor
open Go.RowKit
theorem bulk_one {H: Type} (d: DataW H): 1 ≤ Rows.uptoBulk d:= by
 cases d with
 | lit l => cases l <;> simp [Rows.uptoBulk]
 | _ => simp [Rows.uptoBulk]
theorem bulk_count {H: Type} (l: List (DataW H)): l.length ≤ Rows.uptoBulkAll l:= by
 induction l with
 | nil => simp [Rows.uptoBulkAll]
 | cons d r ih => have:= bulk_one d;simp only [Rows.uptoBulkAll,List.length_cons];omega
theorem bulk_get {H: Type} (l: List (DataW H)) (j: Nat) (d: DataW H) (h: l[j]? = some d): Rows.uptoBulk d ≤ Rows.uptoBulkAll l:= by
 induction l generalizing j with
 | nil => simp at h
 | cons x r ih =>
  simp only [Rows.uptoBulkAll]
  cases j with
  | zero => simp at h;subst h;omega
  | succ j => have:= ih j (by simpa using h);omega
end Go.Proofs.YtpdmmmdkpipmkaaGreatDoor
