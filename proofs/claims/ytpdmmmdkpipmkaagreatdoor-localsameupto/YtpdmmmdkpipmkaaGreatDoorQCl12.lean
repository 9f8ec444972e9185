/-
  The reference's weight of rules: some number, and nothing is turned; where it is within 300 there are at most 300 of anything.
-/
import Derived.Deep.AppendLies
import Derived.Lib.SliceRun
import Derived.Test.YtpdmmmdkpipmkaaGreatDoorQE3
import Derived.Test.YtpdmmmdkpipmkaaGreatDoorQBn
import Derived.Test.YtpdmmmdkpipmkaaGreatDoorQWf12
set_option maxRecDepth 100000
set_option maxHeartbeats 4000000
namespace Go.Proofs.YtpdmmmdkpipmkaaGreatDoor
open Go.RowKit Go.Lib Go.Shelf
structure TxR (x: Rv): Prop where
 a: x.pred.length ≤ 140737488351232
 b: ∀ l ∈ x.body,l.pred.length ≤ 140737488351232
end Go.Proofs.YtpdmmmdkpipmkaaGreatDoor
namespace Go.Proofs.YtpdmmmdkpipmkaaGreatDoor
open Go.RowKit Go.Sort
def Fv.Apart (g: Nat) (x: Fv): Prop:= ∀ ad,x.a = some ad → ad.block ≠ g
theorem Fv.At.but {w w': World} {x: Fv} {g: Nat} (h: Fv.At w x) (ho: Fv.Apart g x) (hb: But g w w'): Fv.At w' x:=
 ⟨h.room,h.few,h.void,fun ad ha j u hu => by
  have hc:= h.cells ad ha j u hu
  rw [hb.cell (by rw [addr_add_block];exact ho ad ha) (cell_block hc)]
  exact hc⟩
def Fv.New (base: Nat) (x: Fv): Prop:= ∀ ad,x.a = some ad → base ≤ ad.block
theorem TagK.but {w w': World} {a: Option Addr} {g: Nat} (h: TagK w a) (ho: ∀ ad,a = some ad → ad.block ≠ g) (hb: But g w w'): TagK w' a:= fun ad ha => by
 obtain ⟨cur,hc⟩:= h ad ha
 exact ⟨cur,(hb.block _ (heap_lt hc) (ho ad ha)).trans hc⟩
theorem sorted_at (a: Option Addr) (cap: Nat) (xs: List Fv) (w: World) (hl: Lies w a cap xs) (hx: ∀ x ∈ xs,Fv.At w x): Calls Tryz.prog 37 #[.slice a xs.length cap] w
 fun e w' => ∃ a' c' zs,e = .returned (.slice a' zs.length c') ∧ OwF w' w.heap.size a' c' zs ∧ (∀ z ∈ zs,Fv.At w' z ∧ Fv.New w.heap.size z ∧ (∀ ad,a' = some ad → Fv.Apart ad.block z) ∧ TagK w' z.a) ∧ zs.map Fv.f = sortF (xs.map Fv.f) ∧ Below w.heap.size w w':= by
 have hO:= ordered_at a cap xs w hl hx
 have hC:= fun (x: Fv) (W: World) (h: Fv.At W x) => clone_at x W h
 go_enter Tryz.func37,Tryz.ntmps37
 go_wp2_with fail
 refine hO.mono ?_;rintro e w1 ⟨a1,c1,ys,rfl,hO1,hin,hsort,hb1⟩
 have Hsort:= hideP hsort;clear hsort
 have few:= hO1.few
 by_cases h0: ys.length = 0
 ·obtain rfl: ys = []:= List.eq_nil_of_length_eq_zero h0
  go_wp2_with fail
  go_loopw [4,9] (fun _ v wr => v = .int .i64 0 ∧ w1 = wr) (fun _ _ _ => 0)
  case atStart => exact ⟨rfl,rfl⟩
  case round =>
   obtain ⟨rfl,rfl⟩:= hrel
   go_wp2_with fail
   go_ret
   exact ⟨a1,c1,[],rfl,hO1,fun _ h => by simp at h,Hsort.out,hb1⟩
 ·cases a1 with
  | none => exfalso;have:= (hO1.void rfl).1;subst this;simp at h0
  | some ad =>
   obtain ⟨g,rfl,hg0,hg1,hrow⟩:= hO1.row ad rfl
   go_wp2_with fail
   go_loopw [4,9] (fun _ v wr => ∃ (i: Nat) (Z: List Fv),v = .int .i64 (i: Int) ∧ i ≤ ys.length ∧ Hid (Z.length = i) ∧ Hid (Z.map Fv.f = (ys.take i).map Fv.f) ∧ RowF wr g (Z ++ ys.drop i) ∧ (∀ z ∈ Z,Fv.At wr z ∧ Fv.New w.heap.size z ∧ Fv.Apart g z ∧ TagK wr z.a) ∧ But g w1 wr) (fun _ v _ => ys.length - (RowKit.intOf v).toNat)
   case atStart => exact ⟨0,[],rfl,by omega,rfl,rfl,by simpa using hrow,fun _ h => by simp at h,But.refl _ _⟩
   case round =>
    obtain ⟨i,Z,rfl,hi,hZ,hZf,hR,hat,hbut⟩:= hrel
    by_cases hlt: i < ys.length
    ·have q1: (i: Int) < (ys.length: Int):= by omega
     have hz:= hZ.out
     have hRl: (Z ++ ys.drop i).length = ys.length:= by simp;omega
     have hil: i < (Z ++ ys.drop i).length:= by omega
     have gi: (Z ++ ys.drop i)[i]'hil = ys[i]'hlt:= by
      rw [List.getElem_append_right (by omega),List.getElem_drop];congr 1;omega
     obtain ⟨a1,a2,a3,a4⟩:= hR.get i hil
     rw [gi] at a1 a2 a3 a4
     have hBw: Below w.heap.size w wr:= hb1.trans (hbut.lower hg0 hb1.size)
     have hcl:= hC (ys[i]'hlt) wr ((hx _ (hin _ (List.getElem_mem hlt))).below hBw (Nat.le_refl _))
     have hset: ∀ x: Fv,(Z ++ ys.drop i).set i x = (Z ++ [x]) ++ ys.drop (i + 1):= fun x => by
      rw [List.set_append_right _ _ (by omega),List.drop_eq_getElem_cons hlt,show i - Z.length = 0 by omega,List.set_cons_zero,List.append_assoc]
      rfl
     have hyf: Hid ((ys.take (i + 1)).map Fv.f = (ys.take i).map Fv.f ++ [(ys[i]'hlt).f]):= by
      show _ = _
      rw [List.take_succ_eq_append_getElem hlt,List.map_append];rfl
     generalize (ys[i]'hlt) = p at *
     have Hz:= hideP hz;have HRl:= hideP hRl;have Hset:= hideP hset;clear hz hRl hset gi
     go_wp2_with fail
     refine hcl.mono ?_
     rintro e w2 ⟨a',c',rfl,hA,hF,hB2,hT2⟩
     have hgr: g < wr.heap.size:= Nat.lt_of_lt_of_le hg1 hbut.size
     have hR2:= hR.below hB2 hgr
     obtain ⟨c1',c2',c3',c4'⟩:= hR2.get i hil
     obtain ⟨f1,f2,f3,f4⟩:= hR2.thaw i hil
     have hst:= hR2.store i hil { p with a:= a',cap:= c' }
     rw [Hset.out] at hst
     generalize (Z ++ ys.drop i)[i]'hil = old at *
     clear a1 a2 a3 a4 hcl hil
     go_wp2_with fail
     have hbut2: But g w2 ((((w2.setCell ⟨g,i * 4,none⟩ (str p.at_)).setCell ⟨g,i * 4 + 1,none⟩ (str p.by_)).setCell ⟨g,i * 4 + 2,none⟩ (str p.pred)).setCell ⟨g,i * 4 + 3,none⟩ (.slice a' p.ks.length c')):= ((((But.refl g w2).set _ _).set _ _).set _ _).set _ _
     have hw2: w1.heap.size ≤ wr.heap.size:= hbut.size
     refine ⟨⟨i + 1,Z ++ [{ p with a:= a',cap:= c' }],by simp,by omega, ?_, ?_,hst, ?_,(hbut.below hB2).trans hbut2⟩,by simp [RowKit.intOf];omega⟩
     ·show _ = _;rw [List.length_append,Hz.out];rfl
     ·show _ = _
      rw [hyf.out,List.map_append,hZf.out];rfl
     ·intro z hz'
      rcases List.mem_append.1 hz' with hz' | hz'
      ·obtain ⟨h1,h2,h3,h4⟩:= hat z hz'
       exact ⟨(h1.below hB2 (Nat.le_refl _)).but h3 hbut2,h2,h3,(h4.below hB2).but h3 hbut2⟩
      ·rw [List.mem_singleton] at hz'
       subst hz'
       have hap: Fv.Apart g { p with a:= a',cap:= c' }:= fun ad ha => by have:= hF ad ha;omega
       refine ⟨Fv.At.but (x:= { p with a:= a',cap:= c' }) hA hap hbut2,fun ad ha => ?_,hap,TagK.but hT2 hap hbut2⟩
       have:= hF ad ha
       have:= hb1.size
       omega
    ·have q1: ¬ (i: Int) < (ys.length: Int):= by omega
     have e1: i = ys.length:= by omega
     subst e1
     have hz:= hZ.out
     have hR': RowF wr g Z:= hR.take
     have Hf: Hid (Z.map Fv.f = sortF (xs.map Fv.f)):= by show _ = _;rw [hZf.out,List.take_length,Hsort.out]
     have Hz:= hideP hz;clear hz
     rw [show ys.length = Z.length from Hz.out.symm]
     go_wp2_with fail
     go_ret
     have hroom:= hO1.room
     refine ⟨some ⟨g,0,none⟩,c1,Z,rfl,⟨by rw [Hz.out];exact hroom,hO1.most,by rw [Hz.out];exact few,(fun h => by cases h),fun ad ha => ?_⟩,fun z hz' => ?_,Hf.out,hb1.trans (hbut.lower hg0 hb1.size)⟩
     ·cases ha
      exact ⟨g,rfl,hg0,Nat.lt_of_lt_of_le hg1 hbut.size,hR'⟩
     ·obtain ⟨h1,h2,h3,h4⟩:= hat z hz'
      exact ⟨h1,h2,(fun ad ha => by cases ha;exact h3),h4⟩
end Go.Proofs.YtpdmmmdkpipmkaaGreatDoor
namespace Go.Proofs.YtpdmmmdkpipmkaaGreatDoor
open Go.RowKit Go.Sort
theorem ownsRow_below {w w': World} {base: Nat} {e: TypeId} {size: Nat} {v: Value} {n: Nat} {xs: List Value} (h: w.ownsRow base e size v n xs) (hb: Below w.heap.size w w'): w'.ownsRow base e size v n xs:= by
 obtain ⟨h1,h2⟩:= h
 refine ⟨h1, ?_⟩
 rcases h2 with h2 | ⟨g,cap,cur,hv,hg,hh,r⟩
 ·exact .inl h2
 ·have hgs: g < w.heap.size:= by
   rcases Nat.lt_or_ge g w.heap.size with h' | h'
   ·exact h'
   ·simp [h'] at hh
  exact .inr ⟨g,cap,cur,hv,hg,(hb.block g hgs).trans hh,r⟩
theorem ownsRow_empty (w: World): (w.alloc (.cells #[] 37)).ownsRow w.heap.size 37 4 (.slice (some ⟨w.heap.size,0,none⟩) 0 0) ([]: List Fv).length (fcells []):=
 ⟨rfl,.inr ⟨w.heap.size,0,#[],rfl,Nat.le_refl _,heap_alloc_new w _,Nat.le_refl _,Nat.zero_le _,rfl,rfl⟩⟩
theorem Lies.take {w: World} {a: Option Addr} {cap: Nat} {xs: List Fv} (h: Lies w a cap xs) (k: Nat): Lies w a cap (xs.take k):=
 ⟨Nat.le_trans (by rw [List.length_take];omega) h.room,h.most,Nat.le_trans (by rw [List.length_take];omega) h.few,fun ha => by obtain ⟨rfl,hc⟩:= h.void ha;exact ⟨by simp,hc⟩,fun ad ha j u hu => h.cells ad ha j u (by
  obtain ⟨i,c,hi,hc,rfl,hv⟩:= flat_spot fv 4 fv_len _ j u hu
  rw [List.length_take] at hi
  rw [fcells,flat_get fv 4 fv_len xs i c (by omega) hc,← hv,List.getElem_take])⟩
theorem Lies.drop {w: World} {b o cap: Nat} {xs: List Fv} (h: Lies w (some ⟨b,o,none⟩) cap xs) (k: Nat) (hk: k ≤ xs.length): Lies w (some ⟨b,o + k * 4,none⟩) (cap - k) (xs.drop k):= by
 have hr:= h.room;have hm:= h.most;have hf:= h.few
 refine ⟨by rw [List.length_drop];omega,by omega,by rw [List.length_drop];omega,(fun ha => by cases ha),fun ad ha j u hu => ?_⟩
 cases ha
 obtain ⟨i,c,hi,hc,rfl,hv⟩:= flat_spot fv 4 fv_len _ j u hu
 rw [List.length_drop] at hi
 have:= h.cells _ rfl ((k + i) * 4 + c) u (by rw [fcells,flat_get fv 4 fv_len xs (k + i) c (by omega) hc,← hv,List.getElem_drop])
 rw [Addr.add_lit] at this ⊢
 rw [← this]
 congr 2;omega
theorem Lies.none_of (w: World) (a: Option Addr) (cap: Nat) (hm: cap ≤ maxLen) (h: a = none → cap = 0): Lies w a cap []:=
 ⟨Nat.zero_le _,hm,by simp,fun ha => ⟨rfl,h ha⟩,fun ad _ j u hu => by simp [fcells] at hu⟩
theorem with_at (a: Option Addr) (cap: Nat) (ys: List Fv) (x: Fv) (w: World) (base: Nat) (hO: OwF w base a cap ys) (ay: ∀ y ∈ ys,Fv.At w y) (hx: Fv.At w x) (hf: ys.length + 1 ≤ 1954687338211) (hbase: base ≤ w.heap.size):
 Calls Tryz.prog 36 #[.slice a ys.length cap,x.val] w fun e w' => ∃ a' c' zs,e = .returned (.slice a' zs.length c') ∧ OwF w' base a' c' zs ∧ (∀ z ∈ zs,z ∈ ys ∨ z = x) ∧ zs.map Fv.f = ins (ys.map Fv.f) x.f ∧ zs.length ≤ ys.length + 1 ∧ Below w.heap.size w w':= by
 have mixed: Tryz.prog.follows .mixedOrders = true:= by kernel_rfl
 have hC:= fun (p: Fv) (W: World) (hp: Fv.At W p) (hq: Fv.At W x) => reforder_at p x W hp hq
 obtain ⟨x1,x2,x3,xa,xc,xk⟩:= x
 go_enter Tryz.func36,Tryz.ntmps36
 go_wp2_with fail
 obtain ⟨w2,hw2⟩: ∃ w2,w2 = w.alloc (.cells #[str x1,str x2,str x3,.slice xa xk.length xc] 37):= ⟨_,rfl⟩
 have G2: Grew w w2:= by rw [hw2];exact (Grew.refl w).allocs _
 have H2: w2.heap[w.heap.size]? = some (.cells #[str x1,str x2,str x3,.slice xa xk.length xc] 37):= by rw [hw2];exact heap_alloc_new w _
 have S2: w2.heap.size = w.heap.size + 1:= by rw [hw2];simp
 rw [← hw2]
 clear hw2
 have b0:= heap_cell H2 0;have b1:= heap_cell H2 1;have b2:= heap_cell H2 2;have b3:= heap_cell H2 3
 simp at b0 b1 b2 b3
 go_loopw [5] (fun v wr => ∃ k: Nat,v = .int .i64 (k: Int) ∧ k ≤ ys.length ∧ Hid (∀ j (h1: j < ys.length),j < k → cF ys[j].f (Fv.f ⟨x1,x2,x3,xa,xc,xk⟩) < 0) ∧ Grew w2 wr) (fun v _ => ys.length - (RowKit.intOf v).toNat)
 case atStart => exact ⟨0,rfl,by omega,fun j _ h => absurd h (by omega),Grew.refl _⟩
 case round =>
  obtain ⟨k,rfl,hk,hev,hg⟩:= hrel
  have p0:= (hg.below.cell (p:= ⟨w.heap.size,0,none⟩) (cell_block b0)).trans b0
  have p1:= (hg.below.cell (p:= ⟨w.heap.size,1,none⟩) (cell_block b1)).trans b1
  have p2:= (hg.below.cell (p:= ⟨w.heap.size,2,none⟩) (cell_block b2)).trans b2
  have p3:= (hg.below.cell (p:= ⟨w.heap.size,3,none⟩) (cell_block b3)).trans b3
  have C0:= fun n os => cell_grown (cell_block p0) p0 n os
  have C1:= fun n os => cell_grown (cell_block p1) p1 n os
  have C2:= fun n os => cell_grown (cell_block p2) p2 n os
  have C3:= fun n os => cell_grown (cell_block p3) p3 n os
  clear b0 b1 b2 b3
  by_cases hlt: k < ys.length
  ·have q2: (k: Int) < (ys.length: Int):= by omega
   cases a with
   | none => exfalso;have:= (hO.void rfl).1;subst this;simp at hlt
   | some ad =>
    obtain ⟨g,rfl,hg0,hg1,hrow⟩:= hO.row ad rfl
    have hGw:= G2.trans hg
    have hrow':= hrow.below hGw.below hg1
    obtain ⟨a1,a2,a3,a4⟩:= hrow'.get k hlt
    have A1:= fun n os => cell_grown (cell_block a1) a1 n os
    have A2:= fun n os => cell_grown (cell_block a2) a2 n os
    have A3:= fun n os => cell_grown (cell_block a3) a3 n os
    have A4:= fun n os => cell_grown (cell_block a4) a4 n os
    have hn:= fun n os => hC (ys[k]'hlt) (grow (wr.drewN n) os) ((ay _ (List.getElem_mem hlt)).grew (hGw.trans (Grew.grow _ _ _))) (hx.grew (hGw.trans (Grew.grow _ _ _)))
    have hev': Hid (cF (ys[k]'hlt).f (Fv.f ⟨x1,x2,x3,xa,xc,xk⟩) < 0 → ∀ j (h1: j < ys.length),j < k + 1 → cF ys[j].f (Fv.f ⟨x1,x2,x3,xa,xc,xk⟩) < 0):= fun h j h1 hj => by
     by_cases e: j = k
     ·subst e;exact h
     ·exact hev.out j h1 (by omega)
    have hins: Hid (¬ cF (ys[k]'hlt).f (Fv.f ⟨x1,x2,x3,xa,xc,xk⟩) < 0 → ins (ys.map Fv.f) (Fv.f ⟨x1,x2,x3,xa,xc,xk⟩) = if cF (ys[k]'hlt).f (Fv.f ⟨x1,x2,x3,xa,xc,xk⟩) = 0 then ys.map Fv.f else (ys.map Fv.f).take k ++ Fv.f ⟨x1,x2,x3,xa,xc,xk⟩:: (ys.map Fv.f).drop k):= fun h => by
     have:= ins_at (Fv.f ⟨x1,x2,x3,xa,xc,xk⟩) (ys.map Fv.f) k (by simp;omega) (fun j hj hjk => by rw [List.getElem_map];exact hev.out j (by simpa using hj) hjk) (fun hk' => by rw [List.getElem_map];exact h)
     rw [this,dif_pos (by simpa using hlt),List.getElem_map]
    have hAp:= ay _ (List.getElem_mem hlt)
    have HC:= hideP hC
    generalize (ys[k]'hlt) = p at *
    clear a1 a2 a3 a4 hC
    by_cases hr: cF p.f (Fv.f ⟨x1,x2,x3,xa,xc,xk⟩) < 0
    ·have hev'':= hideP (hev'.out hr)
     generalize cF p.f (Fv.f ⟨x1,x2,x3,xa,xc,xk⟩) = r at hn hr
     go_wp2_with fail
     go_quiet_grown (first | (go_at_call 32;refine Calls.grown_of (hn _ _)))
     go_wp2_with fail
     exact ⟨⟨k + 1,by simp,by omega,hev'',hg.trans (Grew.grow _ _ _)⟩,by simp [RowKit.intOf];omega⟩
    ·by_cases hr0: cF p.f (Fv.f ⟨x1,x2,x3,xa,xc,xk⟩) = 0
     ·have hi:= hideP ((hins.out hr).trans (if_pos hr0))
      have Hr0:= hideP hr0
      simp only [hr0] at hn
      clear hr hr0 hins hev'
      go_wp2_with fail
      go_quiet_grown (first | (go_at_call 32;refine Calls.grown_of (hn _ _)))
      go_wp2_with fail
      have a1:= A1 nq osq;have a2:= A2 nq osq;have a3:= A3 nq osq;have a4:= A4 nq osq
      have c0:= C0 nq osq;have c1:= C1 nq osq;have c2:= C2 nq osq;have c3:= C3 nq osq
      have hG3:= hGw.trans (Grew.grow wr nq osq)
      clear hn A1 A2 A3 A4 C0 C1 C2 C3 hrow' p0 p1 p2 p3 hg hGw
      generalize grow (wr.drewN nq) osq = w3 at *
      have A1:= fun n os => cell_grown (cell_block a1) a1 n os
      have A2:= fun n os => cell_grown (cell_block a2) a2 n os
      have A3:= fun n os => cell_grown (cell_block a3) a3 n os
      have A4:= fun n os => cell_grown (cell_block a4) a4 n os
      have C0:= fun n os => cell_grown (cell_block c0) c0 n os
      have C1:= fun n os => cell_grown (cell_block c1) c1 n os
      have C2:= fun n os => cell_grown (cell_block c2) c2 n os
      have C3:= fun n os => cell_grown (cell_block c3) c3 n os
      have hn:= fun n os => HC.out p (grow (w3.drewN n) os) (hAp.grew (hG3.trans (Grew.grow _ _ _))) (hx.grew (hG3.trans (Grew.grow _ _ _)))
      simp only [Hr0.out] at hn
      clear a1 a2 a3 a4 c0 c1 c2 c3
      go_quiet_grown (first | (go_at_call 32;refine Calls.grown_of (hn _ _)))
      go_wp2_with fail
      go_ret
      exact ⟨some ⟨g,0,none⟩,cap,ys,rfl,hO.below (hG3.trans (Grew.grow _ _ _)).below,fun z hz => .inl hz,hi.out.symm,by omega,(hG3.trans (Grew.grow _ _ _)).below⟩
     ·have hi:= hideP ((hins.out hr).trans (if_neg hr0))
      have hr': 0 < cF p.f (Fv.f ⟨x1,x2,x3,xa,xc,xk⟩):= by omega
      have Hrr:= hideP (rfl: cF p.f (Fv.f ⟨x1,x2,x3,xa,xc,xk⟩) = cF p.f (Fv.f ⟨x1,x2,x3,xa,xc,xk⟩))
      generalize hrr: cF p.f (Fv.f ⟨x1,x2,x3,xa,xc,xk⟩) = r at hn hr hr0 hr'
      have Hr:= hideP hrr
      clear hrr hins hev'
      go_wp2_with fail
      go_quiet_grown (first | (go_at_call 32;refine Calls.grown_of (hn _ _)))
      go_wp2_with fail
      have a1:= A1 nq osq;have a2:= A2 nq osq;have a3:= A3 nq osq;have a4:= A4 nq osq
      have c0:= C0 nq osq;have c1:= C1 nq osq;have c2:= C2 nq osq;have c3:= C3 nq osq
      have hG3:= hGw.trans (Grew.grow wr nq osq)
      clear hn A1 A2 A3 A4 C0 C1 C2 C3 hrow' p0 p1 p2 p3 hg hGw
      generalize grow (wr.drewN nq) osq = w3 at *
      have A1:= fun n os => cell_grown (cell_block a1) a1 n os
      have A2:= fun n os => cell_grown (cell_block a2) a2 n os
      have A3:= fun n os => cell_grown (cell_block a3) a3 n os
      have A4:= fun n os => cell_grown (cell_block a4) a4 n os
      have C0:= fun n os => cell_grown (cell_block c0) c0 n os
      have C1:= fun n os => cell_grown (cell_block c1) c1 n os
      have C2:= fun n os => cell_grown (cell_block c2) c2 n os
      have C3:= fun n os => cell_grown (cell_block c3) c3 n os
      have hn:= fun n os => HC.out p (grow (w3.drewN n) os) (hAp.grew (hG3.trans (Grew.grow _ _ _))) (hx.grew (hG3.trans (Grew.grow _ _ _)))
      simp only [Hr.out] at hn
      clear a1 a2 a3 a4
      go_quiet_grown (first | (go_at_call 32;refine Calls.grown_of (hn _ _)))
      have e0:= C0 nq osq;have e1:= C1 nq osq;have e2:= C2 nq osq;have e3:= C3 nq osq
      have hG4:= hG3.trans (Grew.grow w3 nq osq)
      clear hn A1 A2 A3 A4 C0 C1 C2 C3 hG3 c0 c1 c2 c3
      generalize grow (w3.drewN nq) osq = w4 at *
      have hL4: Lies w4 (some ⟨g,0,none⟩) cap ys:= hO.lies.below hG4.below (Nat.le_refl _)
      have hroom:= hO.room
      have q5: ¬ cap = k:= by omega
      have q6: (k: Int) ≤ (cap: Int):= by omega
      have q7: (k: Int) ≤ (ys.length: Int):= by omega
      have hl1: (ys.take k).length = k:= by rw [List.length_take];omega
      have hl2: (ys.drop k).length = ys.length - k:= by rw [List.length_drop]
      have hL5: Lies (w4.alloc (.cells #[] 37)) (some ⟨g,0,none⟩) cap (ys.take k):= (hL4.below (below_alloc _ _) (Nat.le_refl _)).take k
      have hown5:= ownsRow_empty w4
      have hb5: w4.heap.size ≤ (w4.alloc (.cells #[] 37)).heap.size:= (below_alloc _ _).size
      have hf5: ([]: List Fv).length + (ys.take k).length ≤ 1954687338211:= by rw [hl1];simp;omega
      go_wp2_with (at_builtin;refine wpList_append_fs _ rfl _ _ rfl w4.heap.size (.slice (some ⟨w4.heap.size,0,none⟩) 0 0) [] (ys.take k) (some ⟨g,0,none⟩) cap rfl hown5 (by rw [hl1];rfl) hL5 hb5 hf5 ?ap)
      case ap =>
       intro v6 w6 ho6 hg6
       have B6: Below w4.heap.size w4 w6:= (below_alloc w4 _).trans ((Below.refl _ _).grown hg6 hb5 (fun j hj => by cases hj;exact Nat.le_refl _))
       have r0:= (B6.cell (p:= ⟨w.heap.size,0,none⟩) (cell_block e0)).trans e0
       have r1:= (B6.cell (p:= ⟨w.heap.size,1,none⟩) (cell_block e1)).trans e1
       have r2:= (B6.cell (p:= ⟨w.heap.size,2,none⟩) (cell_block e2)).trans e2
       have r3:= (B6.cell (p:= ⟨w.heap.size,3,none⟩) (cell_block e3)).trans e3
       have ho7: (w6.alloc (.cells #[str x1,str x2,str x3,.slice xa xk.length xc] 37)).ownsRow w4.heap.size 37 4 v6 (ys.take k).length (fcells (ys.take k)):= ownsRow_below (by rw [hl1];exact ho6) (below_alloc _ _)
       have hL7:= lies_new w6 #[str x1,str x2,str x3,.slice xa xk.length xc] 37 [(⟨x1,x2,x3,xa,xc,xk⟩: Fv)] rfl (by simp)
       have hb7: w4.heap.size ≤ (w6.alloc (.cells #[str x1,str x2,str x3,.slice xa xk.length xc] 37)).heap.size:= Nat.le_trans B6.size (below_alloc _ _).size
       have hf7: (ys.take k).length + [(⟨x1,x2,x3,xa,xc,xk⟩: Fv)].length ≤ 1954687338211:= by rw [hl1];simp;omega
       clear e0 e1 e2 e3 hown5 hg6
       go_wp2_with (at_builtin;refine wpList_append_fs _ rfl _ _ rfl w4.heap.size v6 (ys.take k) [(⟨x1,x2,x3,xa,xc,xk⟩: Fv)] (some ⟨w6.heap.size,0,none⟩) 1 rfl ho7 rfl hL7 hb7 hf7 ?ap2)
       case ap2 =>
        intro v8 w8 ho8 hg8
        have B8: Below w4.heap.size w4 w8:= (B6.trans ((below_alloc w6 _).mono B6.size)).trans ((Below.refl _ _).grown hg8 hb7 (fun j hj => by
         rcases ho6.2 with ⟨h0,_⟩ | ⟨g',c',cur,hv,hgg,_⟩
         ·rw [h0] at hj;cases hj
         ·rw [hv] at hj;cases hj;exact hgg))
        have ho8': w8.ownsRow w4.heap.size 37 4 v8 (ys.take k ++ [(⟨x1,x2,x3,xa,xc,xk⟩: Fv)]).length (fcells (ys.take k ++ [(⟨x1,x2,x3,xa,xc,xk⟩: Fv)])):= by simpa [hl1] using ho8
        have hl3: (ys.take k ++ [(⟨x1,x2,x3,xa,xc,xk⟩: Fv)]).length = k + 1:= by rw [List.length_append,hl1];rfl
        have hf9: (ys.take k ++ [(⟨x1,x2,x3,xa,xc,xk⟩: Fv)]).length + (ys.drop k).length ≤ 1954687338211:= by rw [hl3,hl2];omega
        have hL9: Lies w8 (some ⟨g,k * 4,none⟩) (cap - k) (ys.drop k):= by
         have:= (hL4.below B8 (Nat.le_refl _)).drop k hk
         rwa [Nat.zero_add] at this
        go_wp2_with (at_builtin;refine wpList_append_fs _ rfl _ _ rfl w4.heap.size v8 (ys.take k ++ [(⟨x1,x2,x3,xa,xc,xk⟩: Fv)]) (ys.drop k) (some ⟨g,k * 4,none⟩) (cap - k) rfl ho8' (by rw [hl2];rfl) hL9 B8.size hf9 ?ap3)
        case ap3 =>
         intro v9 w9 ho9 hg9
         have B9: Below w4.heap.size w4 w9:= B8.trans ((Below.refl _ _).grown hg9 B8.size (fun j hj => by
          rcases ho8'.2 with ⟨h0,_⟩ | ⟨g',c',cur,hv,hgg,_⟩
          ·rw [h0] at hj;cases hj
          ·rw [hv] at hj;cases hj;exact hgg))
         have ho9': w9.ownsRow w4.heap.size 37 4 v9 ((ys.take k ++ [(⟨x1,x2,x3,xa,xc,xk⟩: Fv)]) ++ ys.drop k).length (fcells ((ys.take k ++ [(⟨x1,x2,x3,xa,xc,xk⟩: Fv)]) ++ ys.drop k)):= by simpa [hl1,hl2] using ho9
         have hl4: ((ys.take k ++ [(⟨x1,x2,x3,xa,xc,xk⟩: Fv)]) ++ ys.drop k).length = ys.length + 1:= by rw [List.length_append,hl3,hl2];omega
         obtain ⟨a9,c9,hv9,hO9⟩:= own_facts ho9' (by rw [hl4];omega)
         subst hv9
         have e9: ((ys.take k ++ [(⟨x1,x2,x3,xa,xc,xk⟩: Fv)]) ++ ys.drop k).map Fv.f = ins (ys.map Fv.f) (Fv.f ⟨x1,x2,x3,xa,xc,xk⟩):= by
          rw [hi.out,List.map_append,List.map_append,List.map_take,List.map_drop,List.append_assoc];rfl
         have m9: ∀ z ∈ ((ys.take k ++ [(⟨x1,x2,x3,xa,xc,xk⟩: Fv)]) ++ ys.drop k),z ∈ ys ∨ z = ⟨x1,x2,x3,xa,xc,xk⟩:= fun z hz => by
          rcases List.mem_append.1 hz with hz | hz
          ·rcases List.mem_append.1 hz with hz | hz
           ·exact .inl (List.mem_of_mem_take hz)
           ·exact .inr (List.mem_singleton.1 hz)
          ·exact .inl (List.mem_of_mem_drop hz)
         generalize ((ys.take k ++ [(⟨x1,x2,x3,xa,xc,xk⟩: Fv)]) ++ ys.drop k) = zs at *
         have E9:= hideP e9;have M9:= hideP m9;have L4:= hideP hl4
         clear e9 m9 hl4 ho9 ho9' ho8 ho8' hg9 hg8
         go_wp2_with fail
         go_ret
         exact ⟨a9,c9,zs,rfl,hO9.lower (Nat.le_trans hbase hG4.below.size),M9.out,E9.out,by rw [L4.out];exact Nat.le_refl _,hG4.below.trans (B9.mono hG4.below.size)⟩
  ·have q2: ¬ (k: Int) < (ys.length: Int):= by omega
   have hi:= hideP (ins_at (Fv.f ⟨x1,x2,x3,xa,xc,xk⟩) (ys.map Fv.f) k (by simp;omega) (fun j hj hjk => by rw [List.getElem_map];exact hev.out j (by simpa using hj) hjk) (fun hk' => by simp at hk';omega))
   rw [dif_neg (by simp;omega)] at hi
   clear hC hev
   go_wp2_with fail
   go_quiet_grown (fail)
   go_wp2_with fail
   have c0:= C0 nq osq;have c1:= C1 nq osq;have c2:= C2 nq osq;have c3:= C3 nq osq
   have hG3:= G2.trans (hg.trans (Grew.grow wr nq osq))
   clear C0 C1 C2 C3 p0 p1 p2 p3 hg
   generalize grow (wr.drewN nq) osq = w3 at *
   go_quiet_grown (fail)
   have e0:= cell_grown (cell_block c0) c0 nq osq;have e1:= cell_grown (cell_block c1) c1 nq osq;have e2:= cell_grown (cell_block c2) c2 nq osq;have e3:= cell_grown (cell_block c3) c3 nq osq
   have hG4:= hG3.trans (Grew.grow w3 nq osq)
   clear hG3 c0 c1 c2 c3
   generalize grow (w3.drewN nq) osq = w4 at *
   have hroom:= hO.room
   have hL4: Lies w4 a cap ys:= hO.lies.below hG4.below (Nat.le_refl _)
   have hl1: (ys.take k).length = k:= by rw [List.length_take];omega
   have hl2: (ys.drop k).length = ys.length - k:= by rw [List.length_drop]
   have hown5:= ownsRow_empty w4
   have hb5: w4.heap.size ≤ (w4.alloc (.cells #[] 37)).heap.size:= (below_alloc _ _).size
   have hf5: ([]: List Fv).length + (ys.take k).length ≤ 1954687338211:= by rw [hl1];simp;omega
   have hL5: Lies (w4.alloc (.cells #[] 37)) a cap (ys.take k):= (hL4.below (below_alloc _ _) (Nat.le_refl _)).take k
   cases a with
   | none =>
    obtain ⟨rfl,rfl⟩:= hO.void rfl
    obtain rfl: k = 0:= by simpa using hk
    go_wp2_with (at_builtin;refine wpList_append_fs _ rfl _ _ rfl w4.heap.size (.slice (some ⟨w4.heap.size,0,none⟩) 0 0) [] [] none 0 rfl hown5 rfl (Lies.nil _) hb5 (by simp) ?ap)
    case ap =>
     intro v6 w6 ho6 hg6
     have B6: Below w4.heap.size w4 w6:= (below_alloc w4 _).trans ((Below.refl _ _).grown hg6 hb5 (fun j hj => by cases hj;exact Nat.le_refl _))
     have r0:= (B6.cell (p:= ⟨w.heap.size,0,none⟩) (cell_block e0)).trans e0
     have r1:= (B6.cell (p:= ⟨w.heap.size,1,none⟩) (cell_block e1)).trans e1
     have r2:= (B6.cell (p:= ⟨w.heap.size,2,none⟩) (cell_block e2)).trans e2
     have r3:= (B6.cell (p:= ⟨w.heap.size,3,none⟩) (cell_block e3)).trans e3
     have ho7: (w6.alloc (.cells #[str x1,str x2,str x3,.slice xa xk.length xc] 37)).ownsRow w4.heap.size 37 4 v6 ([]: List Fv).length (fcells []):= ownsRow_below ho6 (below_alloc _ _)
     have hL7:= lies_new w6 #[str x1,str x2,str x3,.slice xa xk.length xc] 37 [(⟨x1,x2,x3,xa,xc,xk⟩: Fv)] rfl (by simp)
     have hb7: w4.heap.size ≤ (w6.alloc (.cells #[str x1,str x2,str x3,.slice xa xk.length xc] 37)).heap.size:= Nat.le_trans B6.size (below_alloc _ _).size
     clear e0 e1 e2 e3 hown5 hg6
     go_wp2_with (at_builtin;refine wpList_append_fs _ rfl _ _ rfl w4.heap.size v6 [] [(⟨x1,x2,x3,xa,xc,xk⟩: Fv)] (some ⟨w6.heap.size,0,none⟩) 1 rfl ho7 rfl hL7 hb7 (by simp) ?ap2)
     case ap2 =>
      intro v8 w8 ho8 hg8
      have B8: Below w4.heap.size w4 w8:= (B6.trans ((below_alloc w6 _).mono B6.size)).trans ((Below.refl _ _).grown hg8 hb7 (fun j hj => by
       rcases ho6.2 with ⟨h0,_⟩ | ⟨g',c',cur,hv,hgg,_⟩
       ·rw [h0] at hj;cases hj
       ·rw [hv] at hj;cases hj;exact hgg))
      have ho8': w8.ownsRow w4.heap.size 37 4 v8 [(⟨x1,x2,x3,xa,xc,xk⟩: Fv)].length (fcells [(⟨x1,x2,x3,xa,xc,xk⟩: Fv)]):= ho8
      go_wp2_with (at_builtin;refine wpList_append_fs _ rfl _ _ rfl w4.heap.size v8 [(⟨x1,x2,x3,xa,xc,xk⟩: Fv)] [] none 0 rfl ho8' rfl (Lies.nil _) B8.size (by simp) ?ap3)
      case ap3 =>
       intro v9 w9 ho9 hg9
       have B9: Below w4.heap.size w4 w9:= B8.trans ((Below.refl _ _).grown hg9 B8.size (fun j hj => by
        rcases ho8'.2 with ⟨h0,_⟩ | ⟨g',c',cur,hv,hgg,_⟩
        ·rw [h0] at hj;cases hj
        ·rw [hv] at hj;cases hj;exact hgg))
       obtain ⟨a9,c9,hv9,hO9⟩:= own_facts (xs:= [(⟨x1,x2,x3,xa,xc,xk⟩: Fv)]) ho9 (by simp)
       subst hv9
       go_wp2_with fail
       go_ret
       exact ⟨a9,c9,[(⟨x1,x2,x3,xa,xc,xk⟩: Fv)],rfl,hO9.lower (Nat.le_trans hbase hG4.below.size),fun z hz => .inr (List.mem_singleton.1 hz),hi.out.symm,by simp,hG4.below.trans (B9.mono hG4.below.size)⟩
   | some ad =>
    obtain ⟨g,rfl,hg0,hg1,hrow⟩:= hO.row ad rfl
    have q6: (k: Int) ≤ (cap: Int):= by omega
    have q7: (k: Int) ≤ (ys.length: Int):= by omega
    by_cases q5: cap = k
    ·have q5':= q5.symm
     clear q5
     subst q5'
     go_wp2_with (at_builtin;refine wpList_append_fs _ rfl _ _ rfl w4.heap.size (.slice (some ⟨w4.heap.size,0,none⟩) 0 0) [] (ys.take k) (some ⟨g,0,none⟩) k rfl hown5 (by rw [hl1];rfl) hL5 hb5 hf5 ?ap)
     case ap =>
      intro v6 w6 ho6 hg6
      have B6: Below w4.heap.size w4 w6:= (below_alloc w4 _).trans ((Below.refl _ _).grown hg6 hb5 (fun j hj => by cases hj;exact Nat.le_refl _))
      have r0:= (B6.cell (p:= ⟨w.heap.size,0,none⟩) (cell_block e0)).trans e0
      have r1:= (B6.cell (p:= ⟨w.heap.size,1,none⟩) (cell_block e1)).trans e1
      have r2:= (B6.cell (p:= ⟨w.heap.size,2,none⟩) (cell_block e2)).trans e2
      have r3:= (B6.cell (p:= ⟨w.heap.size,3,none⟩) (cell_block e3)).trans e3
      have ho7: (w6.alloc (.cells #[str x1,str x2,str x3,.slice xa xk.length xc] 37)).ownsRow w4.heap.size 37 4 v6 (ys.take k).length (fcells (ys.take k)):= ownsRow_below (by rw [hl1];exact ho6) (below_alloc _ _)
      have hL7:= lies_new w6 #[str x1,str x2,str x3,.slice xa xk.length xc] 37 [(⟨x1,x2,x3,xa,xc,xk⟩: Fv)] rfl (by simp)
      have hb7: w4.heap.size ≤ (w6.alloc (.cells #[str x1,str x2,str x3,.slice xa xk.length xc] 37)).heap.size:= Nat.le_trans B6.size (below_alloc _ _).size
      have hf7: (ys.take k).length + [(⟨x1,x2,x3,xa,xc,xk⟩: Fv)].length ≤ 1954687338211:= by rw [hl1];simp;omega
      clear e0 e1 e2 e3 hown5 hg6
      go_wp2_with (at_builtin;refine wpList_append_fs _ rfl _ _ rfl w4.heap.size v6 (ys.take k) [(⟨x1,x2,x3,xa,xc,xk⟩: Fv)] (some ⟨w6.heap.size,0,none⟩) 1 rfl ho7 rfl hL7 hb7 hf7 ?ap2)
      case ap2 =>
       intro v8 w8 ho8 hg8
       have B8: Below w4.heap.size w4 w8:= (B6.trans ((below_alloc w6 _).mono B6.size)).trans ((Below.refl _ _).grown hg8 hb7 (fun j hj => by
        rcases ho6.2 with ⟨h0,_⟩ | ⟨g',c',cur,hv,hgg,_⟩
        ·rw [h0] at hj;cases hj
        ·rw [hv] at hj;cases hj;exact hgg))
       have ho8': w8.ownsRow w4.heap.size 37 4 v8 (ys.take k ++ [(⟨x1,x2,x3,xa,xc,xk⟩: Fv)]).length (fcells (ys.take k ++ [(⟨x1,x2,x3,xa,xc,xk⟩: Fv)])):= by simpa [hl1] using ho8
       have hl3: (ys.take k ++ [(⟨x1,x2,x3,xa,xc,xk⟩: Fv)]).length = k + 1:= by rw [List.length_append,hl1];rfl
       have hf9: (ys.take k ++ [(⟨x1,x2,x3,xa,xc,xk⟩: Fv)]).length + (ys.drop k).length ≤ 1954687338211:= by rw [hl3,hl2];omega
       have hd: ys.drop k = []:= List.drop_eq_nil_of_le (by omega)
       have hL9: Lies w8 (some ⟨g,0,none⟩) 0 []:= Lies.none_of w8 _ 0 (Nat.zero_le _) (fun h => by cases h)
       have hf9': (ys.take k ++ [(⟨x1,x2,x3,xa,xc,xk⟩: Fv)]).length + ([]: List Fv).length ≤ 1954687338211:= by rw [hd] at hf9;exact hf9
       go_wp2_with (at_builtin;refine wpList_append_fs _ rfl _ _ rfl w4.heap.size v8 (ys.take k ++ [(⟨x1,x2,x3,xa,xc,xk⟩: Fv)]) [] (some ⟨g,0,none⟩) 0 rfl ho8' rfl hL9 B8.size hf9' ?ap3)
       case ap3 =>
        intro v9 w9 ho9 hg9
        have B9: Below w4.heap.size w4 w9:= B8.trans ((Below.refl _ _).grown hg9 B8.size (fun j hj => by
         rcases ho8'.2 with ⟨h0,_⟩ | ⟨g',c',cur,hv,hgg,_⟩
         ·rw [h0] at hj;cases hj
         ·rw [hv] at hj;cases hj;exact hgg))
        have ho9': w9.ownsRow w4.heap.size 37 4 v9 ((ys.take k ++ [(⟨x1,x2,x3,xa,xc,xk⟩: Fv)]) ++ ys.drop k).length (fcells ((ys.take k ++ [(⟨x1,x2,x3,xa,xc,xk⟩: Fv)]) ++ ys.drop k)):= by rw [hd];simpa [hl1] using ho9
        have hl4: ((ys.take k ++ [(⟨x1,x2,x3,xa,xc,xk⟩: Fv)]) ++ ys.drop k).length = ys.length + 1:= by rw [List.length_append,hl3,hl2];omega
        obtain ⟨a9,c9,hv9,hO9⟩:= own_facts ho9' (by rw [hl4];omega)
        subst hv9
        have e9: ((ys.take k ++ [(⟨x1,x2,x3,xa,xc,xk⟩: Fv)]) ++ ys.drop k).map Fv.f = ins (ys.map Fv.f) (Fv.f ⟨x1,x2,x3,xa,xc,xk⟩):= by
         rw [hi.out,List.map_append,List.map_append,List.map_take,List.map_drop,List.append_assoc];rfl
        have m9: ∀ z ∈ ((ys.take k ++ [(⟨x1,x2,x3,xa,xc,xk⟩: Fv)]) ++ ys.drop k),z ∈ ys ∨ z = ⟨x1,x2,x3,xa,xc,xk⟩:= fun z hz => by
         rcases List.mem_append.1 hz with hz | hz
         ·rcases List.mem_append.1 hz with hz | hz
          ·exact .inl (List.mem_of_mem_take hz)
          ·exact .inr (List.mem_singleton.1 hz)
         ·exact .inl (List.mem_of_mem_drop hz)
        generalize ((ys.take k ++ [(⟨x1,x2,x3,xa,xc,xk⟩: Fv)]) ++ ys.drop k) = zs at *
        have E9:= hideP e9;have M9:= hideP m9;have L4:= hideP hl4
        clear e9 m9 hl4 ho9 ho9' ho8 ho8' hg9 hg8
        go_wp2_with fail
        go_ret
        exact ⟨a9,c9,zs,rfl,hO9.lower (Nat.le_trans hbase hG4.below.size),M9.out,E9.out,by rw [L4.out];exact Nat.le_refl _,hG4.below.trans (B9.mono hG4.below.size)⟩
    ·go_wp2_with (at_builtin;refine wpList_append_fs _ rfl _ _ rfl w4.heap.size (.slice (some ⟨w4.heap.size,0,none⟩) 0 0) [] (ys.take k) (some ⟨g,0,none⟩) cap rfl hown5 (by rw [hl1];rfl) hL5 hb5 hf5 ?ap)
     case ap =>
      intro v6 w6 ho6 hg6
      have B6: Below w4.heap.size w4 w6:= (below_alloc w4 _).trans ((Below.refl _ _).grown hg6 hb5 (fun j hj => by cases hj;exact Nat.le_refl _))
      have r0:= (B6.cell (p:= ⟨w.heap.size,0,none⟩) (cell_block e0)).trans e0
      have r1:= (B6.cell (p:= ⟨w.heap.size,1,none⟩) (cell_block e1)).trans e1
      have r2:= (B6.cell (p:= ⟨w.heap.size,2,none⟩) (cell_block e2)).trans e2
      have r3:= (B6.cell (p:= ⟨w.heap.size,3,none⟩) (cell_block e3)).trans e3
      have ho7: (w6.alloc (.cells #[str x1,str x2,str x3,.slice xa xk.length xc] 37)).ownsRow w4.heap.size 37 4 v6 (ys.take k).length (fcells (ys.take k)):= ownsRow_below (by rw [hl1];exact ho6) (below_alloc _ _)
      have hL7:= lies_new w6 #[str x1,str x2,str x3,.slice xa xk.length xc] 37 [(⟨x1,x2,x3,xa,xc,xk⟩: Fv)] rfl (by simp)
      have hb7: w4.heap.size ≤ (w6.alloc (.cells #[str x1,str x2,str x3,.slice xa xk.length xc] 37)).heap.size:= Nat.le_trans B6.size (below_alloc _ _).size
      have hf7: (ys.take k).length + [(⟨x1,x2,x3,xa,xc,xk⟩: Fv)].length ≤ 1954687338211:= by rw [hl1];simp;omega
      clear e0 e1 e2 e3 hown5 hg6
      go_wp2_with (at_builtin;refine wpList_append_fs _ rfl _ _ rfl w4.heap.size v6 (ys.take k) [(⟨x1,x2,x3,xa,xc,xk⟩: Fv)] (some ⟨w6.heap.size,0,none⟩) 1 rfl ho7 rfl hL7 hb7 hf7 ?ap2)
      case ap2 =>
       intro v8 w8 ho8 hg8
       have B8: Below w4.heap.size w4 w8:= (B6.trans ((below_alloc w6 _).mono B6.size)).trans ((Below.refl _ _).grown hg8 hb7 (fun j hj => by
        rcases ho6.2 with ⟨h0,_⟩ | ⟨g',c',cur,hv,hgg,_⟩
        ·rw [h0] at hj;cases hj
        ·rw [hv] at hj;cases hj;exact hgg))
       have ho8': w8.ownsRow w4.heap.size 37 4 v8 (ys.take k ++ [(⟨x1,x2,x3,xa,xc,xk⟩: Fv)]).length (fcells (ys.take k ++ [(⟨x1,x2,x3,xa,xc,xk⟩: Fv)])):= by simpa [hl1] using ho8
       have hl3: (ys.take k ++ [(⟨x1,x2,x3,xa,xc,xk⟩: Fv)]).length = k + 1:= by rw [List.length_append,hl1];rfl
       have hf9: (ys.take k ++ [(⟨x1,x2,x3,xa,xc,xk⟩: Fv)]).length + (ys.drop k).length ≤ 1954687338211:= by rw [hl3,hl2];omega
       have hL9: Lies w8 (some ⟨g,k * 4,none⟩) (cap - k) (ys.drop k):= by
        have:= (hL4.below B8 (Nat.le_refl _)).drop k hk
        rwa [Nat.zero_add] at this
       go_wp2_with (at_builtin;refine wpList_append_fs _ rfl _ _ rfl w4.heap.size v8 (ys.take k ++ [(⟨x1,x2,x3,xa,xc,xk⟩: Fv)]) (ys.drop k) (some ⟨g,k * 4,none⟩) (cap - k) rfl ho8' (by rw [hl2];rfl) hL9 B8.size hf9 ?ap3)
       case ap3 =>
        intro v9 w9 ho9 hg9
        have B9: Below w4.heap.size w4 w9:= B8.trans ((Below.refl _ _).grown hg9 B8.size (fun j hj => by
         rcases ho8'.2 with ⟨h0,_⟩ | ⟨g',c',cur,hv,hgg,_⟩
         ·rw [h0] at hj;cases hj
         ·rw [hv] at hj;cases hj;exact hgg))
        have ho9': w9.ownsRow w4.heap.size 37 4 v9 ((ys.take k ++ [(⟨x1,x2,x3,xa,xc,xk⟩: Fv)]) ++ ys.drop k).length (fcells ((ys.take k ++ [(⟨x1,x2,x3,xa,xc,xk⟩: Fv)]) ++ ys.drop k)):= by simpa [hl1,hl2] using ho9
        have hl4: ((ys.take k ++ [(⟨x1,x2,x3,xa,xc,xk⟩: Fv)]) ++ ys.drop k).length = ys.length + 1:= by rw [List.length_append,hl3,hl2];omega
        obtain ⟨a9,c9,hv9,hO9⟩:= own_facts ho9' (by rw [hl4];omega)
        subst hv9
        have e9: ((ys.take k ++ [(⟨x1,x2,x3,xa,xc,xk⟩: Fv)]) ++ ys.drop k).map Fv.f = ins (ys.map Fv.f) (Fv.f ⟨x1,x2,x3,xa,xc,xk⟩):= by
         rw [hi.out,List.map_append,List.map_append,List.map_take,List.map_drop,List.append_assoc];rfl
        have m9: ∀ z ∈ ((ys.take k ++ [(⟨x1,x2,x3,xa,xc,xk⟩: Fv)]) ++ ys.drop k),z ∈ ys ∨ z = ⟨x1,x2,x3,xa,xc,xk⟩:= fun z hz => by
         rcases List.mem_append.1 hz with hz | hz
         ·rcases List.mem_append.1 hz with hz | hz
          ·exact .inl (List.mem_of_mem_take hz)
          ·exact .inr (List.mem_singleton.1 hz)
         ·exact .inl (List.mem_of_mem_drop hz)
        generalize ((ys.take k ++ [(⟨x1,x2,x3,xa,xc,xk⟩: Fv)]) ++ ys.drop k) = zs at *
        have E9:= hideP e9;have M9:= hideP m9;have L4:= hideP hl4
        clear e9 m9 hl4 ho9 ho9' ho8 ho8' hg9 hg8
        go_wp2_with fail
        go_ret
        exact ⟨a9,c9,zs,rfl,hO9.lower (Nat.le_trans hbase hG4.below.size),M9.out,E9.out,by rw [L4.out];exact Nat.le_refl _,hG4.below.trans (B9.mono hG4.below.size)⟩
end Go.Proofs.YtpdmmmdkpipmkaaGreatDoor
namespace Go.Proofs.YtpdmmmdkpipmkaaGreatDoor
open Go.RowKit Go.Lib Go.Shelf
structure LtL (m: Int) (l: Lv): Prop where
 args: (l.args.length: Int) ≤ m
 pred: (l.pred.length: Int) < 16 * (m + 1)
structure LtR (m: Int) (x: Rv): Prop where
 args: (x.args.length: Int) ≤ m
 pred: (x.pred.length: Int) < 16 * (m + 1)
 body: (x.body.length: Int) ≤ m
 each: ∀ l ∈ x.body,LtL m l
theorem rweightM_at (m: Int) (hm0: 0 ≤ m) (hm1: m ≤ 1000) (a: Option Addr) (c: Nat) (xs: List Rv) (w: World) (hx: Row rK w a c xs) (ax: ∀ x ∈ xs,Rv.Aw w x) (tx: ∀ x ∈ xs,TxR x):
 Calls Tryz.prog 9 #[.slice a xs.length c,.int .i64 m] w fun e w' => (∃ r: Int,e = .returned (.int .i64 r) ∧ (r ≤ m → (xs.length: Int) ≤ m ∧ ∀ x ∈ xs,LtR m x)) ∧ Grew w w':= by
 have mixed: Tryz.prog.follows .mixedOrders = true:= by kernel_rfl
 have b1:= hx.few
 go_enter Tryz.func9,Tryz.ntmps9
 go_wp2_with fail
 go_loopw [5,6,7] (fun v5 v6 _ wr => ∃ (k: Nat) (n: Int),v5 = .int .i64 n ∧ v6 = .int .i64 (k: Int) ∧ k ≤ xs.length ∧ (k: Int) ≤ n ∧ n ≤ 4611686018427387904 ∧ Hid (n ≤ m → ∀ j (h: j < xs.length),j < k → LtR m xs[j]) ∧ Grew w wr) (fun _ v6 _ _ => xs.length - (RowKit.intOf v6).toNat)
 case atStart => exact ⟨0,0,rfl,rfl,by omega,by omega,by omega,fun _ j _ h => absurd h (by omega),Grew.refl _⟩
 case round =>
  obtain ⟨k,n,rfl,rfl,hk,hkn,hnt,hfw,hg⟩:= hrel
  by_cases hlt: k < xs.length
  ·have q2: (k: Int) < (xs.length: Int):= by omega
   by_cases hn: n ≤ m
   ·obtain ⟨P1,O1,rfl⟩:= hx.addr (Nat.lt_of_le_of_lt (Nat.zero_le _) hlt)
    have hx':= hx.below hg.below (Nat.le_refl _)
    have hA:= (ax _ (List.getElem_mem hlt)).below hg.below (Nat.le_refl _)
    have a1: wr.cell? ⟨P1,O1 + k * 11 + 4,none⟩ = _:= hx'.range k hlt 4 _ rfl
    have a2: wr.cell? ⟨P1,O1 + k * 11 + 5,none⟩ = _:= hx'.range k hlt 5 _ rfl
    have a4: wr.cell? ⟨P1,O1 + k * 11 + 10,none⟩ = _:= hx'.range k hlt 10 _ rfl
    have hT:= tx _ (List.getElem_mem hlt)
    have hnext: Hid (LtR m (xs[k]'hlt) → ∀ j (h: j < xs.length),j < k + 1 → LtR m xs[j]):= fun h j h1 hj => by
     by_cases e: j = k
     ·subst e;exact h
     ·exact hfw.out hn j h1 (by omega)
    generalize (xs[k]'hlt) = p at *
    obtain ⟨t1,t2⟩:= hT
    clear hfw
    have hfew:= hA.args.few
    have hfew2:= hA.body.few
    go_wp2_with fail
    go_quiet (fail)
    go_wp2_with fail
    have hg2:= hg.trans (Grew.drewN wr nq)
    have b2:= (Grew.drewN wr nq).below
    have e4:= (b2.cell (p:= ⟨P1,O1 + k * 11 + 10,none⟩) (cell_block a4)).trans a4
    have hA2:= hA.body.below b2 (Nat.le_refl _)
    have hE2:= fun l hl => (hA.each l hl).below b2 (Nat.le_refl _)
    generalize wr.drewN nq = w2 at *
    clear a1 a2 a4 b2 hA hx' hg
    go_loopw [5,7] (fun v5 v7 wi => ∃ (j: Nat) (n: Int),v5 = .int .i64 n ∧ v7 = .int .i64 (j: Int) ∧ j ≤ p.body.length ∧ (k: Int) + 1 + (p.args.length: Int) + (j: Int) ≤ n ∧ (p.pred.length: Int) < 16 * (n + 1) ∧ n ≤ 4611686018427387904 ∧ Hid (n ≤ m → ∀ i (h: i < p.body.length),i < j → LtL m p.body[i]) ∧ Grew w2 wi) (fun _ v7 _ => p.body.length - (RowKit.intOf v7).toNat)
    case atStart => exact ⟨0,_,rfl,rfl,by omega,by omega,by omega,by omega,fun _ j _ h => absurd h (by omega),Grew.refl _⟩
    case round =>
     obtain ⟨j,n',rfl,rfl,hj,hn1,hn3,hn2,hfi,hgi⟩:= hrel
     have c4:= (hgi.below.cell (p:= ⟨P1,O1 + k * 11 + 10,none⟩) (cell_block e4)).trans e4
     by_cases hjl: j < p.body.length
     ·have q3: (j: Int) < (p.body.length: Int):= by omega
      by_cases hn': n' ≤ m
      ·have hA3:= hA2.below hgi.below (Nat.le_refl _)
       obtain ⟨P2,O2,hP2⟩:= hA3.addr (Nat.lt_of_le_of_lt (Nat.zero_le _) hjl)
       rw [hP2] at hA3 c4
       have hE3:= hE2 _ (List.getElem_mem hjl)
       have m1: wr.cell? ⟨P2,O2 + j * 10 + 4,none⟩ = _:= hA3.range j hjl 4 _ rfl
       have m2: wr.cell? ⟨P2,O2 + j * 10 + 5,none⟩ = _:= hA3.range j hjl 5 _ rfl
       have t5:= t2 _ (List.getElem_mem hjl)
       have hin: Hid (LtL m (p.body[j]'hjl) → ∀ i (h: i < p.body.length),i < j + 1 → LtL m p.body[i]):= fun h i h1 hi => by
        by_cases e: i = j
        ·subst e;exact h
        ·exact hfi.out hn' i h1 (by omega)
       generalize (p.body[j]'hjl) = q at *
       have hfew3:= Row.few hE3
       go_wp2_with fail
       go_quiet (fail)
       go_wp2_with fail
       exact ⟨⟨j + 1,_,rfl,by simp,by omega,by omega,by omega,by omega,fun h => hin.out ⟨by omega,by omega⟩,hgi.trans (Grew.drewN wr nq)⟩,by simp [RowKit.intOf];omega⟩
      ·go_wp2_with fail
       exact ⟨⟨k + 1,n',rfl,by simp,by omega,by omega,by omega,fun h => by omega,hg2.trans hgi⟩,by simp [RowKit.intOf];omega⟩
     ·have q3: ¬ (j: Int) < (p.body.length: Int):= by omega
      go_wp2_with fail
      exact ⟨⟨k + 1,n',rfl,by simp,by omega,by omega,by omega,fun h => hnext.out ⟨by omega,by omega,by omega,fun l hl => by
       obtain ⟨i,hi,rfl⟩:= List.getElem_of_mem hl
       exact hfi.out h i hi (by omega)⟩,hg2.trans hgi⟩,by simp [RowKit.intOf];omega⟩
   ·go_wp2_with fail
    go_ret
    exact ⟨⟨n,rfl,fun h => by omega⟩,hg⟩
  ·have q2: ¬ (k: Int) < (xs.length: Int):= by omega
   go_wp2_with fail
   go_ret
   exact ⟨⟨n,rfl,fun h => ⟨by omega,fun x hx => by
    obtain ⟨j,hj,rfl⟩:= List.getElem_of_mem hx
    exact hfw.out (by omega) j hj (by omega)⟩⟩,hg⟩
end Go.Proofs.YtpdmmmdkpipmkaaGreatDoor
namespace Go.Proofs.YtpdmmmdkpipmkaaGreatDoor
open Go.RowKit Go.Lib Go.Shelf
structure Light (hs ns: List (List UInt8)) (rs: List Rv) (zs: List Fv): Prop where
 homes: hs.length ≤ 8
 names: ns.length ≤ 8
 rules: rs.length ≤ 120
 rule: ∀ r ∈ rs,LtR 120 r
 facts: zs.length ≤ 120
 fact: ∀ z ∈ zs,LtF 120 z
end Go.Proofs.YtpdmmmdkpipmkaaGreatDoor
namespace Go.Proofs.YtpdmmmdkpipmkaaGreatDoor
open Go.RowKit Go.Lib Go.Shelf
theorem ownsF_empty (w: World): (w.alloc (.cells #[] 37)).ownsRow w.heap.size 37 4 (.slice (some ⟨w.heap.size,0,none⟩) 0 0) ([]: List Fv).length (fcells []):=
 ⟨rfl,.inr ⟨w.heap.size,0,#[],rfl,Nat.le_refl _,heap_alloc_new w _,Nat.le_refl _,Nat.zero_le _,rfl,rfl⟩⟩
theorem cloneF_at (a: Option Addr) (c: Nat) (xs: List Fv) (w: World) (hl: Lies w a c xs):
 Calls Tryz.prog 64 #[.slice a xs.length c] w fun e w' => ∃ v,e = .returned v ∧ w'.ownsRow w.heap.size 37 4 v xs.length (fcells xs) ∧ Below w.heap.size w w':= by
 have few:= hl.few
 have hnil: ∀ (w: World) (a: Option Addr) (n c: Nat),(binOp .eql 32 (.slice a n c) (.slice none 0 0)).run Tryz.prog w = .ok (.bool a.isNone) w:= fun w a n c => Lib.run_eql_slice_nil w 32 _ a n c 0 0 Tryz.underlying32
 cases a with
 | none =>
  obtain ⟨rfl,rfl⟩:= hl.void rfl
  go_enter Tryz.func64,Tryz.ntmps64
  go_wp2_with fail
  go_ret
  exact ⟨_,rfl,⟨rfl,.inl ⟨rfl,rfl⟩⟩,Below.refl _ _⟩
 | some ad =>
  have O1:= ownsF_empty w
  have A1:= below_alloc w (.cells #[] 37)
  have L1:= hl.below A1 (Nat.le_refl _)
  have S1: w.heap.size ≤ (w.alloc (.cells #[] 37)).heap.size:= A1.size
  go_enter Tryz.func64,Tryz.ntmps64
  go_wp2_with (at_builtin;refine wpList_append_fs _ rfl _ _ rfl w.heap.size (.slice (some ⟨w.heap.size,0,none⟩) 0 0) [] xs (some ad) c rfl O1 rfl L1 S1 (by simpa using few) ?ap)
  case ap =>
   intro v w2 ho hg
   have B2: Below w.heap.size w w2:= A1.trans ((Below.refl _ _).grown hg S1 (fun k hk => by cases hk;exact Nat.le_refl _))
   go_wp2_with fail
   go_ret
   exact ⟨v,rfl,by simpa using ho,B2⟩
end Go.Proofs.YtpdmmmdkpipmkaaGreatDoor
