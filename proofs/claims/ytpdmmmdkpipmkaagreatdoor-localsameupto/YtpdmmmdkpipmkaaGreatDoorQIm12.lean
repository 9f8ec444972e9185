/-
  The reference's Copy of facts.
-/
import Derived.Deep.Cut
import Derived.Shelf.Spec.SlicesInsert
import Derived.Test.YtpdmmmdkpipmkaaGreatDoorQAp2
import Derived.Test.YtpdmmmdkpipmkaaGreatDoorQBt
import Derived.Test.YtpdmmmdkpipmkaaGreatDoorQLo
import Derived.Test.YtpdmmmdkpipmkaaGreatDoorQWf12
import Derived.Test.YtpdmmmdkpipmkaaGreatDoorQCl12
import Derived.Test.YtpdmmmdkpipmkaaGreatDoorQD4
import Derived.Test.YtpdmmmdkpipmkaaGreatDoorQNj
set_option maxRecDepth 100000
set_option maxHeartbeats 4000000
namespace Go.Proofs.YtpdmmmdkpipmkaaGreatDoor
open Go.RowKit Go.Lib Go.Shelf
end Go.Proofs.YtpdmmmdkpipmkaaGreatDoor
namespace Go.Proofs.YtpdmmmdkpipmkaaGreatDoor
open Go.RowKit Go.Lib Go.Shelf
def dv (n: Int) (x: Fv) (a: Option Addr) (c: Nat) (xs: List Fv): List Value:= [.int .i64 n,str x.at_,str x.by_,str x.pred,.slice x.a x.ks.length x.cap,.slice a xs.length c]
theorem rv_home5 {w: World} {b: Nat} {x: Rv} (H: w.heap[b]? = some (.cells (rv x).toArray 48)):
 w.cell? ⟨b,0,none⟩ = some (str x.home.v) ∧ w.cell? ⟨b,1,none⟩ = some (.bool x.home.k.num) ∧ w.cell? ⟨b,2,none⟩ = some (.int .i64 x.home.k.n) ∧ w.cell? ⟨b,3,none⟩ = some (str x.home.k.s) ∧ w.cell? ⟨b,10,none⟩ = some (.slice x.ba x.body.length x.bcap):= by
 refine ⟨?_, ?_, ?_, ?_, ?_⟩ <;> (rw [heap_cell H];rfl)
theorem lv_in5 {w: World} {b o: Nat} {y: Lv} (h: w.rangeAt b o (lv y)):
 w.cell? ⟨b,o,none⟩ = some (str y.by_.v) ∧ w.cell? ⟨b,o + 1,none⟩ = some (.bool y.by_.k.num) ∧ w.cell? ⟨b,o + 2,none⟩ = some (.int .i64 y.by_.k.n) ∧ w.cell? ⟨b,o + 3,none⟩ = some (str y.by_.k.s) ∧ w.cell? ⟨b,o + 4,none⟩ = some (str y.pred) ∧ w.cell? ⟨b,o + 5,none⟩ = some (.slice y.a y.args.length y.cap) ∧
 w.cell? ⟨b,o + 6,none⟩ = some (str y.at_.v) ∧ w.cell? ⟨b,o + 7,none⟩ = some (.bool y.at_.k.num) ∧ w.cell? ⟨b,o + 8,none⟩ = some (.int .i64 y.at_.k.n) ∧ w.cell? ⟨b,o + 9,none⟩ = some (str y.at_.k.s):=
 ⟨h 0 _ rfl,h 1 _ rfl,h 2 _ rfl,h 3 _ rfl,h 4 _ rfl,h 5 _ rfl,h 6 _ rfl,h 7 _ rfl,h 8 _ rfl,h 9 _ rfl⟩
theorem lit_two (home: Tm) (l: Lt) (f: F) (L: Mt.Env): (Mt.lit home l f L = none ∧ litE home l f L = [] ∧ litB home l f L = false) ∨ (∃ e,Mt.lit home l f L = some e ∧ litE home l f L = e ∧ litB home l f L = true ∧ e.length ≤ L.length + (l.args.length + 2)):= by
 unfold litE litB
 cases h: Mt.lit home l f L with
 | none => exact .inl ⟨rfl,rfl,rfl⟩
 | some e => exact .inr ⟨e,rfl,rfl,rfl,Mt.lit_len h⟩
end Go.Proofs.YtpdmmmdkpipmkaaGreatDoor
namespace Go.Proofs.YtpdmmmdkpipmkaaGreatDoor
open Go.RowKit Go.Lib Go.Shelf
def Wq (w: World) (q: Nat) (ha: Option Addr) (hc: Nat) (hs: List (List UInt8)) (na: Option Addr) (nc: Nat) (ns: List (List UInt8)) (c: Ml.Cn): Prop:= w.heap[q]? = some (.cells #[.slice ha hs.length hc,.slice na ns.length nc,.int .i64 (c.done: Int),.bool c.heavy] 56)
theorem Wq.next {w w': World} {q: Nat} {ha: Option Addr} {hc: Nat} {hs: List (List UInt8)} {na: Option Addr} {nc: Nat} {ns: List (List UInt8)} {c: Ml.Cn} (h: Wq w q ha hc hs na nc ns c) (b: Below w.heap.size w w'): Wq w' q ha hc hs na nc ns c:= below_heap b h
theorem Row.butQ {w w': World} {q: Nat} {ha: Option Addr} {hc: Nat} {hs: List (List UInt8)} {na: Option Addr} {nc: Nat} {ns: List (List UInt8)} {c: Ml.Cn} {a: Option Addr} {m: Nat} {L: List Bd} (h: Row bK w a m L) (hq: Wq w q ha hc hs na nc ns c) (b: But q w w'): Row bK w' a m L:= by
 cases L with
 | nil => exact ⟨h.room,h.few,h.void,fun ad _ j u hu => by simp at hu⟩
 | cons y L =>
  obtain ⟨P,O,rfl⟩:= h.addr (by simp)
  have h0: w.cell? ⟨P,O + 0,none⟩ = some (str y.1):= h.cells _ rfl 0 (str y.1) rfl
  have hne: P ≠ q:= fun e => by
   subst e
   rw [heap_cell hq] at h0
   rcases O with _ | _ | _ | _ | O <;> simp at h0
  have hlt: P < w.heap.size:= block_lt_of_cell h0
  exact ⟨h.room,h.few,h.void,fun ad ha j u hu => by
   cases ha
   rw [← h.cells _ rfl j u hu]
   exact b.cell (by rw [addr_add_block];exact hne) (by rw [addr_add_block];exact hlt)⟩
theorem OwF.butQ {w w': World} {q base: Nat} {a: Option Addr} {m: Nat} {ys: List Fv} (h: OwF w base a m ys) (b: But q w w') (hq: q < base): OwF w' base a m ys:=
 ⟨h.room,h.most,h.few,h.void,fun ad ha => by
  obtain ⟨g,rfl,h1,h2,hr⟩:= h.row ad ha
  refine ⟨g,rfl,h1,Nat.lt_of_lt_of_le h2 b.size,fun i hi c hc => ?_⟩
  have e:= hr i hi c hc
  have hb:= b.block g h2 (by omega)
  exact ⟨by rw [← e.1];exact World.cell?_of_block (w:= w) hb,by rw [← e.2];exact World.frozen?_of_block (w:= w) hb⟩⟩
theorem But.safe {q: Nat} {w w': World} {C: Array Value} {T ty: TypeId} (b: But q w w') (hq: w.heap[q]? = some (.cells C T)) (hn: ty ≠ T): Safe ty w w':= fun k cur hk => b.heap (fun e => by subst e;rw [hq] at hk;cases hk;exact hn rfl) hk
theorem fold_take {home: Tm} {l: Lt} {e: Mt.Env} {g: Mt.Env → Ml.Cn × List F → Ml.Cn × List F} {zs: List Fv} {i: Nat} (hi: i < zs.length) (st: Ml.Cn × List F): ((zs.map Fv.f).take (i + 1)).foldl (Ml.one home l e g) st = Ml.one home l e g (((zs.map Fv.f).take i).foldl (Ml.one home l e g) st) zs[i].f:= by
 rw [List.take_succ_eq_append_getElem (by simpa using hi),List.foldl_append];simp
theorem one_no {home: Tm} {l: Lt} {e: Mt.Env} {g: Mt.Env → Ml.Cn × List F → Ml.Cn × List F} {c: Ml.Cn} {ys: List F} {f: F} (hv: c.heavy = false) (h: Mt.lit home l f e = none): Ml.one home l e g (c,ys) f = (Ml.bump c,ys):= by
 unfold Ml.one;rw [if_neg (by rw [hv];decide),h]
theorem one_yes {home: Tm} {l: Lt} {e e1: Mt.Env} {g: Mt.Env → Ml.Cn × List F → Ml.Cn × List F} {c: Ml.Cn} {ys: List F} {f: F} (hv: c.heavy = false) (h: Mt.lit home l f e = some e1): Ml.one home l e g (c,ys) f = g e1 (Ml.bump c,ys):= by
 unfold Ml.one;rw [if_neg (by rw [hv];decide),h]
theorem fold_all {home: Tm} {l: Lt} {e: Mt.Env} {g: Mt.Env → Ml.Cn × List F → Ml.Cn × List F} {m: List F} {i: Nat} {st st2: Ml.Cn × List F} (h: (m.take i).foldl (Ml.one home l e g) st = st2) (hv: i = m.length ∨ st2.1.heavy = true): m.foldl (Ml.one home l e g) st = st2:= by
 rcases hv with rfl | hv
 ·rw [List.take_length] at h;exact h
 ·rw [← List.take_append_drop i m,List.foldl_append,h];exact Ml.fold_stop _ hv
structure FrAns (w: World) (q base M: Nat) (ha: Option Addr) (hc: Nat) (hs: List (List UInt8)) (na: Option Addr) (nc: Nat) (ns: List (List UInt8)) (r: Ru) (m: List F) (ls: List Lt) (e: Mt.Env) (c: Ml.Cn) (ys: List Fv) (en: Ending) (w': World): Prop where
 ans: ∃ oa oc zs c',en = .returned (.slice oa (List.length zs) oc) ∧ OwF w' base oa oc zs ∧ EachK w' zs ∧ Wq w' q ha hc hs na nc ns c' ∧ Ml.frm ⟨hs,ns⟩ r m ls e (c,ys.map Fv.f) = (c',zs.map Fv.f)
 but: But q w w'
structure FrIn (w0 wf: World) (x: Rv) (q base M: Nat) (ha: Option Addr) (hc: Nat) (hs: List (List UInt8)) (na: Option Addr) (nc: Nat) (ns: List (List UInt8)) (fa: Option Addr) (fc: Nat) (zs: List Fv): Prop where
 rule: Rv.Aw w0 x
 sm: SmR x
 facts: ∀ W,But q wf W → Fts W fa fc zs
 zl: zs.length ≤ 1000000
 names: Row sK w0 na nc ns
 q0: w0.heap.size ≤ q
 qb: q < base
 most: M ≤ 1000000000
theorem from_nil (w0 wf: World) (x: Rv) (q base M: Nat) (ha: Option Addr) (hc: Nat) (hs: List (List UInt8)) (na: Option Addr) (nc: Nat) (ns: List (List UInt8)) (fa: Option Addr) (fc: Nat) (zs: List Fv) (hi: FrIn w0 wf x q base M ha hc hs na nc ns fa fc zs) (w: World) (ea: Option Addr) (ec: Nat) (e: List Bd) (oa: Option Addr) (oc: Nat) (ys: List Fv) (c: Ml.Cn)
 (hb: Below w0.heap.size w0 w) (hbase: base ≤ w.heap.size) (hq: Wq w q ha hc hs na nc ns c) (hc0: c.Ok) (he: Row bK w ea ec e) (ho: OwF w base oa oc ys) (hk: EachK w ys) (hM: ys.length + 1 ≤ M + c.done):
 Calls Tryz.prog 61 #[ptr q,rval x,.int .i64 (x.body.length: Int),.slice fa zs.length fc,.slice ea e.length ec,.slice oa ys.length oc] w (FrAns w q base M ha hc hs na nc ns x.r (zs.map Fv.f) [] e c ys):= by
 have mixed: Tryz.prog.follows .mixedOrders = true:= by kernel_rfl
 have iR: (Tryz.prog.info? 48).map (·.size) = some 11:= by kernel_rfl
 have iF: (Tryz.prog.info? 37).map (·.size) = some 4:= by kernel_rfl
 have A0:= below_alloc w (.cells #[str x.home.v,.bool x.home.k.num,.int .i64 x.home.k.n,str x.home.k.s,str x.pred,.slice x.a x.args.length x.cap,str x.to_.v,.bool x.to_.k.num,.int .i64 x.to_.k.n,str x.to_.k.s,.slice x.ba x.body.length x.bcap] 48)
 have h0:= heap_alloc_new w (.cells #[str x.home.v,.bool x.home.k.num,.int .i64 x.home.k.n,str x.home.k.s,str x.pred,.slice x.a x.args.length x.cap,str x.to_.v,.bool x.to_.k.num,.int .i64 x.to_.k.n,str x.to_.k.s,.slice x.ba x.body.length x.bcap] 48)
 have c10:= (rv_home5 (x:= x) h0).2.2.2.2
 have hcd:= hc0.most
 have hMM:= hi.most
 have q1: ((x.body.length: Int) == (x.body.length: Int)) = true:= by simp
 have HI:= hideP hi
 have HA:= hideP (Below.then (Below.refl _ w) A0)
 have FR: Hid (∀ L,Ml.frm ⟨hs,ns⟩ x.r (zs.map Fv.f) [] e (c,L) = (c,(Ml.hd ⟨hs,ns⟩ x.r e).foldl ins L)):= fun _ => rfl
 go_enter Tryz.func61,Tryz.ntmps61
 go_wp2_with (refine wpList_load_all rfl 48 _ rfl w.heap.size 11 48 (rv x) _ rfl (by with_reducible exact h0) rfl Tryz.underlying48 rfl iR ?_)
 have b1:= hb.trans (A0.mono hb.size)
 refine (rHead_at x ea ec e _ (hi.rule.below b1 (Nat.le_refl _)) (he.below A0 (Nat.le_refl _)) (by have:= hi.sm.args;omega)).mono ?_
 rintro en w1 ⟨⟨z,rfl,RZ,hz⟩,B1⟩
 have T1:= Below.then A0 B1
 have N1:= heap_alloc_new w1 (.cells #[.string { data:= #[] },.string { data:= #[] },.string { data:= #[] },.slice none 0 0] 37)
 clear h0 c10 A0 B1 b1
 rcases fact_two hz with ⟨u1,u2⟩ | ⟨u1,u2⟩
 ·rw [u2]
  have FSo:= hideP (hd_none (w:= ⟨hs,ns⟩) u1)
  clear u1 u2 hz
  go_wp2_with (refine wpList_store_all rfl 37 _ _ rfl w1.heap.size 4 _ 37 (fv z) rfl rfl N1 rfl rfl iF rfl ?_;intro w2 N2 d2;have B2:= below_tok d2)
  have T2:= Below.then T1 B2
  go_quiet (fail)
  go_wp2_with fail
  go_ret
  have T3: Below w.heap.size w (w2.drewN nq):= Below.then T2 (Grew.drewN w2 nq).below
  exact ⟨⟨oa,oc,ys,c,rfl,ho.below T3,hk.safe (Safe.below T3),hq.next T3,by rw [FR.out,FSo.out];rfl⟩,But.of_below T3⟩
 ·rw [u2]
  go_wp2_with (refine wpList_store_all rfl 37 _ _ rfl w1.heap.size 4 _ 37 (fv z) rfl rfl N1 rfl rfl iF rfl ?_;intro w2 N2 d2;have B2:= below_tok d2)
  have T2:= Below.then T1 B2
  have RZ2:= RZ.safe (Safe.below B2: Safe 42 _ _)
  have Q2:= hq.next T2
  have W2: Below w0.heap.size w0 w2:= hb.trans (T2.mono hb.size)
  have GD:= (Below.refl w2.heap.size w2).drew
  have K1: ∀ W,Below w2.heap.size w2 W → (W.cell? ⟨q,1,none⟩ = some (.slice na ns.length nc) ∧ W.cell? ⟨w1.heap.size,0,none⟩ = some (str z.at_)):= fun W h => ⟨by rw [heap_cell (below_heap h Q2)];rfl,by rw [heap_cell (below_heap h N2)];rfl⟩
  have HK:= hideP K1
  have TI:= hideP (fun W (h: Below w2.heap.size w2 W) => rin_at W na nc ns z.at_ (HI.out.names.below (W2.trans (h.mono W2.size)) (Nat.le_refl _)))
  clear K1 RZ d2 T1
  go_region_held3 (fun W => W.cell? ⟨q,1,none⟩ = some (.slice na ns.length nc) ∧ W.cell? ⟨w1.heap.size,0,none⟩ = some (str z.at_)) (first | with_reducible exact HK.out _ GD | with_reducible exact HK.out _ G3) (first
   | (go_at_call 91;refine (TI.out _ GD).mono ?_;rintro e3 w3 ⟨rfl,e3⟩;have G3: Below w2.heap.size w2 w3:= (by rw [← e3];exact GD)))
  have B3:= G3
  have T3:= Below.then T2 B3
  have N3:= below_heap B3 N2
  have RZ3:= RZ2.safe (Safe.below B3: Safe 42 _ _)
  clear e3 TI HK GD
  by_cases hin: z.at_ ∈ ns
  ·have FSo:= hideP (hd_in (w:= ⟨hs,ns⟩) u1 hin)
   rw [decide_eq_true hin]
   have TW:= hideP (with_at oa oc ys z w3 base (ho.below T3) (fun y hy => row_args ((hk.safe (Safe.below T3: Safe 42 _ _)) y hy).row) (row_args RZ3.row) (by omega) (Nat.le_trans hbase T3.size))
   clear u1 u2 hz hin
   go_wp2_with (refine wpList_load_all rfl 37 _ rfl w1.heap.size 4 37 (fv z) _ rfl N3 rfl Tryz.underlying37 rfl iF ?_)
   refine TW.out.mono ?_
   rintro e w4 ⟨a4,c4,us,rfl,OF4,hin4,hf4,hl4,B4⟩
   have T4:= Below.then T3 B4
   have HF:= hideP hf4
   have HIN:= hideP hin4
   clear hf4 hin4 TW
   go_wp2_with fail
   go_ret
   have K4:= hk.safe (Safe.below T4: Safe 42 _ _)
   refine ⟨⟨a4,c4,us,c,rfl,OF4,fun y hy => ?_,hq.next T4,by rw [FR.out,FSo.out,HF.out];rfl⟩,But.of_below T4⟩
   rcases HIN.out y hy with h | rfl
   ·exact K4 y h
   ·exact RZ3.safe (Safe.below B4)
  ·have FSo:= hideP (hd_out (w:= ⟨hs,ns⟩) u1 hin)
   rw [decide_eq_false hin]
   clear u1 u2 hz hin
   go_wp2_with fail
   go_ret
   exact ⟨⟨oa,oc,ys,c,rfl,ho.below T3,hk.safe (Safe.below T3),hq.next T3,by rw [FR.out,FSo.out];rfl⟩,But.of_below T3⟩
end Go.Proofs.YtpdmmmdkpipmkaaGreatDoor
namespace Go.Proofs.YtpdmmmdkpipmkaaGreatDoor
open Go.RowKit Go.Lib Go.Shelf
def FrAt (w0 wf: World) (x: Rv) (q base M: Nat) (ha: Option Addr) (hc: Nat) (hs: List (List UInt8)) (na: Option Addr) (nc: Nat) (ns: List (List UInt8)) (fa: Option Addr) (fc: Nat) (zs: List Fv) (k: Nat): Prop:=
 ∀ (w: World) (ea: Option Addr) (ec: Nat) (e: List Bd) (oa: Option Addr) (oc: Nat) (ys: List Fv) (c: Ml.Cn),Below w0.heap.size w0 w → But q wf w → base ≤ w.heap.size → Wq w q ha hc hs na nc ns c → c.Ok → Row bK w ea ec e → e.length ≤ 1 + k * 302 → OwF w base oa oc ys → EachK w ys → ys.length + Ml.cr ((x.body.drop k).map Lv.l) ≤ M + c.done →
  Calls Tryz.prog 61 #[ptr q,rval x,.int .i64 (k: Int),.slice fa zs.length fc,.slice ea e.length ec,.slice oa ys.length oc] w (FrAns w q base M ha hc hs na nc ns x.r (zs.map Fv.f) ((x.body.drop k).map Lv.l) e c ys)
theorem from_cons (w0 wf: World) (x: Rv) (q base M: Nat) (ha: Option Addr) (hc: Nat) (hs: List (List UInt8)) (na: Option Addr) (nc: Nat) (ns: List (List UInt8)) (fa: Option Addr) (fc: Nat) (zs: List Fv) (hi: FrIn w0 wf x q base M ha hc hs na nc ns fa fc zs) (k: Nat) (hkl: k < x.body.length) (IH: FrAt w0 wf x q base M ha hc hs na nc ns fa fc zs (k + 1)): FrAt w0 wf x q base M ha hc hs na nc ns fa fc zs k:= by
 intro w ea ec e oa oc ys c hb hbf hbase hq hc0 he hel ho hk hM
 have mixed: Tryz.prog.follows .mixedOrders = true:= by kernel_rfl
 have iR: (Tryz.prog.info? 48).map (·.size) = some 11:= by kernel_rfl
 have A0:= below_alloc w (.cells #[str x.home.v,.bool x.home.k.num,.int .i64 x.home.k.n,str x.home.k.s,str x.pred,.slice x.a x.args.length x.cap,str x.to_.v,.bool x.to_.k.num,.int .i64 x.to_.k.n,str x.to_.k.s,.slice x.ba x.body.length x.bcap] 48)
 have h0:= heap_alloc_new w (.cells #[str x.home.v,.bool x.home.k.num,.int .i64 x.home.k.n,str x.home.k.s,str x.pred,.slice x.a x.args.length x.cap,str x.to_.v,.bool x.to_.k.num,.int .i64 x.to_.k.n,str x.to_.k.s,.slice x.ba x.body.length x.bcap] 48)
 have c10:= (rv_home5 (x:= x) h0).2.2.2.2
 have hMM:= hi.most
 have b300:= hi.sm.body
 have zl:= hi.zl
 have q1: ((k: Int) == (x.body.length: Int)) = false:= by rw [beq_eq_false_iff_ne];omega
 have hdr: (x.body.drop k).map Lv.l = (x.body[k]'hkl).l:: (x.body.drop (k + 1)).map Lv.l:= by rw [List.drop_eq_getElem_cons hkl,List.map_cons]
 rw [hdr] at hM ⊢
 have hM0: ys.length ≤ M + c.done:= by simp only [Ml.cr] at hM;omega
 have HIH:= hideP IH
 have HI:= hideP hi
 have aY:= hi.rule.each _ (List.getElem_mem hkl)
 have lY:= hi.sm.each _ (List.getElem_mem hkl)
 have qw0:= hi.q0
 have qb:= hi.qb
 have LR: Hid (∃ P1 O1,x.ba = some ⟨P1,O1,none⟩ ∧ ∀ W,Below w0.heap.size w0 W → W.rangeAt P1 (O1 + k * 10) (lv (x.body[k]'hkl))):= by
  obtain ⟨P1,O1,hP⟩:= hi.rule.body.addr (Nat.lt_of_le_of_lt (Nat.zero_le _) hkl)
  refine ⟨P1,O1,hP,fun W h => ?_⟩
  have h1:= hi.rule.body.below h (Nat.le_refl _)
  rw [hP] at h1
  exact h1.range k hkl
 clear hdr hM IH hi
 generalize (x.body[k]'hkl) = y at *
 generalize hls: (x.body.drop (k + 1)).map Lv.l = ls at *
 have HLS:= hideP hls
 clear hls
 go_enter Tryz.func61,Tryz.ntmps61
 go_wp2_with fail
 have I0: But q w (w.alloc (.cells #[str x.home.v,.bool x.home.k.num,.int .i64 x.home.k.n,str x.home.k.s,str x.pred,.slice x.a x.args.length x.cap,str x.to_.v,.bool x.to_.k.num,.int .i64 x.to_.k.n,str x.to_.k.s,.slice x.ba x.body.length x.bcap] 48)):= But.of_below A0
 have E0:= he.below A0 (Nat.le_refl _)
 generalize hW1: w.alloc (.cells #[str x.home.v,.bool x.home.k.num,.int .i64 x.home.k.n,str x.home.k.s,str x.pred,.slice x.a x.args.length x.cap,str x.to_.v,.bool x.to_.k.num,.int .i64 x.to_.k.n,str x.to_.k.s,.slice x.ba x.body.length x.bcap] 48) = W1 at *
 go_loopw [5,15] (fun v5 v15 wr => ∃ (i: Nat) (us: List Fv) (a2: Option Addr) (m2: Nat) (c2: Ml.Cn),v5 = .slice a2 (List.length us) m2 ∧ v15 = .int .i64 (i: Int) ∧ i ≤ zs.length ∧ OwF wr base a2 m2 us ∧ EachK wr us ∧ Wq wr q ha hc hs na nc ns c2 ∧ c2.Ok ∧ us.length ≤ M + c2.done ∧ Hid (((zs.map Fv.f).take i).foldl (Ml.one x.r.home y.l e (Ml.frm ⟨hs,ns⟩ x.r (zs.map Fv.f) ls)) (c,ys.map Fv.f) = (c2,us.map Fv.f)) ∧ wr.heap[w.heap.size]? = some (.cells #[str x.home.v,.bool x.home.k.num,.int .i64 x.home.k.n,str x.home.k.s,str x.pred,.slice x.a x.args.length x.cap,str x.to_.v,.bool x.to_.k.num,.int .i64 x.to_.k.n,str x.to_.k.s,.slice x.ba x.body.length x.bcap] 48) ∧ Row bK wr ea ec e ∧ But q w wr) (fun _ v15 _ => zs.length - (RowKit.intOf v15).toNat)
 case atStart =>
  exact ⟨0,ys,oa,oc,c,rfl,rfl,Nat.zero_le _,ho.below A0,hk.safe (Safe.below A0),hq.next A0,hc0,hM0,rfl,h0,E0,I0⟩
 case round =>
  obtain ⟨i,us,a2,m2,c2,rfl,rfl,hil,OF,EK,WQ,CO,LM,FO,HR,EV,BT⟩:= hrel
  clear h0 c10 A0 I0 E0 hq hc0 he ho hk hM0
  have BW0: Below w0.heap.size w0 wr:= hb.trans (BT.lower qw0 hb.size)
  have d2: wr.cell? ⟨q,2,none⟩ = some (.int .i64 (c2.done: Int)):= by rw [heap_cell WQ];rfl
  have d3: wr.cell? ⟨q,3,none⟩ = some (.bool c2.heavy):= by rw [heap_cell WQ];rfl
  have cm:= CO.most
  by_cases hlt: i < zs.length
  ·have q2: (i: Int) < (zs.length: Int):= by omega
   cases hv: c2.heavy with
   | true =>
    rw [hv] at d3
    have FIN:= hideP (fold_all FO.out (.inr hv))
    clear FO hv
    go_wp2_with fail
    go_ret
    exact ⟨⟨a2,m2,us,c2,rfl,OF,EK,WQ,FIN.out⟩,BT⟩
   | false =>
    rw [hv] at d3
    have cl:= CO.light hv
    have FT:= fold_take (home:= x.r.home) (l:= y.l) (e:= e) (g:= Ml.frm ⟨hs,ns⟩ x.r (zs.map Fv.f) ls) hlt (c,ys.map Fv.f)
    rw [FO.out] at FT
    have CB:= CO.bump hv
    obtain ⟨P2,O2,rfl⟩:= (HI.out.facts w hbf).row.addr (Nat.lt_of_le_of_lt (Nat.zero_le _) hlt)
    have AZ: Hid (∀ W,But q wf W → Fv.At W (zs[i]'hlt)):= fun W h => (HI.out.facts W h).each _ (List.getElem_mem hlt)
    have FR: Hid (∀ W,But q wf W → W.rangeAt P2 (O2 + i * 4) (fv (zs[i]'hlt))):= fun W h => by
     have h1:= (HI.out.facts W h).row
     exact h1.range i hlt
    generalize (zs[i]'hlt) = z at *
    have HFT:= hideP FT
    have HV:= hideP hv
    have HCB:= hideP CB
    have WQ1: wr.heap[q]? = some (.cells #[.slice ha hs.length hc,.slice na ns.length nc,.int .i64 (c2.done: Int),.bool false] 56):= by rw [← hv];exact WQ
    have HLM:= hideP LM
    have HCO:= hideP CO
    have HCL:= hideP cl
    have HCM:= hideP cm
    have HBB:= hideP (And.intro hbase (And.intro hMM (And.intro b300 (And.intro lY (And.intro hel zl)))))
    clear FT FO hv CB LM CO cm hMM lY hel zl
    obtain ⟨dn,hdn⟩: ∃ dn: Nat,dn = c2.done:= ⟨_,rfl⟩
    rw [← hdn] at d2 WQ1 cl
    have HDN:= hideP hdn
    have QN: Hid (w.heap.size ≠ q):= by show _ ≠ _;omega
    have cq: (dn: Int) ≤ 100000:= by omega
    clear hdn cl hbase b300
    go_upto_region 10 with (refine wpList_store_cel rfl 3 _ _ rfl q 2 4 56 (.int .i64 ((dn: Int) + 1)) #[.slice ha hs.length hc,.slice na ns.length nc,.int .i64 ((dn: Int) + 1),.bool false] rfl rfl WQ1 rfl (by decide) (by kernel_rfl) rfl rfl ?_;intro w1 N1 t1;have d4: w1.cell? ⟨q,2,none⟩ = some (.int .i64 ((dn: Int) + 1)):= (by rw [heap_cell N1];rfl))
    generalize hg: (dn: Int) + 1 = v1 at *
    have HG:= hideP hg
    clear hg cq
    by_cases hw: 60000 < dn + 1
    ·have q5: (60000: Int) < v1:= by have:= HG.out;omega
     have BUMP: Hid (Ml.bump c2 = ⟨dn + 1,true⟩):= by show _ = _;unfold Ml.bump;rw [← HDN.out,decide_eq_true hw,Bool.or_true]
     clear hw
     go_upto_region 12 with (refine wpList_store_cel rfl 4 _ _ rfl q 3 4 56 (.bool true) #[.slice ha hs.length hc,.slice na ns.length nc,.int .i64 v1,.bool true] rfl rfl N1 rfl (by decide) (by kernel_rfl) rfl rfl ?_;intro w3 N3 t3')
     have t3:= t1.trans t3'
     have WQ3: Wq w3 q ha hc hs na nc ns (Ml.bump c2):= by rw [BUMP.out];have h:= N3;rw [← HG.out] at h;exact h
     clear N3 t3' N1 BUMP q5 t1 d4 d2 d3 WQ1
     have BT3: But q w w3:= BT.trans t3
     have BW3: Below w0.heap.size w0 w3:= hb.trans (BT3.lower qw0 hb.size)
     have HR3:= t3.heap QN.out HR
     have EV3:= EV.butQ WQ t3
     have OF3:= OF.butQ t3 qb
     have EK3:= EK.safe (t3.safe WQ (by decide))
     obtain ⟨P1,O1,hP,LR1⟩:= LR.out
     have K2: ∀ W,Below w3.heap.size w3 W → (W.cell? ⟨w.heap.size,0,none⟩ = some (str x.home.v) ∧ W.cell? ⟨w.heap.size,1,none⟩ = some (.bool x.home.k.num) ∧ W.cell? ⟨w.heap.size,2,none⟩ = some (.int .i64 x.home.k.n) ∧ W.cell? ⟨w.heap.size,3,none⟩ = some (str x.home.k.s) ∧ W.cell? ⟨w.heap.size,10,none⟩ = some (.slice (some ⟨P1,O1,none⟩) x.body.length x.bcap) ∧ W.cell? ⟨P1,O1 + k * 10,none⟩ = some (str y.by_.v) ∧ W.cell? ⟨P1,O1 + k * 10 + 1,none⟩ = some (.bool y.by_.k.num) ∧ W.cell? ⟨P1,O1 + k * 10 + 2,none⟩ = some (.int .i64 y.by_.k.n) ∧ W.cell? ⟨P1,O1 + k * 10 + 3,none⟩ = some (str y.by_.k.s) ∧ W.cell? ⟨P1,O1 + k * 10 + 4,none⟩ = some (str y.pred) ∧ W.cell? ⟨P1,O1 + k * 10 + 5,none⟩ = some (.slice y.a y.args.length y.cap) ∧ W.cell? ⟨P1,O1 + k * 10 + 6,none⟩ = some (str y.at_.v) ∧ W.cell? ⟨P1,O1 + k * 10 + 7,none⟩ = some (.bool y.at_.k.num) ∧ W.cell? ⟨P1,O1 + k * 10 + 8,none⟩ = some (.int .i64 y.at_.k.n) ∧ W.cell? ⟨P1,O1 + k * 10 + 9,none⟩ = some (str y.at_.k.s) ∧ W.cell? ⟨P2,O2 + i * 4,none⟩ = some (str z.at_) ∧ W.cell? ⟨P2,O2 + i * 4 + 1,none⟩ = some (str z.by_) ∧ W.cell? ⟨P2,O2 + i * 4 + 2,none⟩ = some (str z.pred) ∧ W.cell? ⟨P2,O2 + i * 4 + 3,none⟩ = some (.slice z.a z.ks.length z.cap)):= fun W h => by
      have hw0:= BW3.trans (h.mono BW3.size)
      obtain ⟨e0,e1,e2,e3,e10⟩:= rv_home5 (x:= x) (below_heap h HR3)
      rw [hP] at e10
      obtain ⟨f0,f1,f2,f3,f4,f5,f6,f7,f8,f9⟩:= lv_in5 (LR1 W hw0)
      have rf:= FR.out W ((hbf.trans BT3).below h)
      exact ⟨e0,e1,e2,e3,e10,f0,f1,f2,f3,f4,f5,f6,f7,f8,f9,rf 0 _ rfl,rf 1 _ rfl,rf 2 _ rfl,rf 3 _ rfl⟩
     have HK2:= hideP K2
     have GD:= (Below.refl w3.heap.size w3).drew
     have TL:= hideP (fun W (h: Below w3.heap.size w3 W) => rLiteral_at x.home y z ea ec e W (EV3.below h (Nat.le_refl _)) (by have:= HBB.out;omega) (aY.below (B:= w0.heap.size) (BW3.trans (h.mono BW3.size)) (Nat.le_refl _)) (AZ.out W ((hbf.trans BT3).below h)))
     have q6: (k: Int) < (x.body.length: Int):= by omega
     have HP:= hideP hP
     clear K2 LR1 t3 hP
     go_region_held3 (fun W => W.cell? ⟨w.heap.size,0,none⟩ = some (str x.home.v) ∧ W.cell? ⟨w.heap.size,1,none⟩ = some (.bool x.home.k.num) ∧ W.cell? ⟨w.heap.size,2,none⟩ = some (.int .i64 x.home.k.n) ∧ W.cell? ⟨w.heap.size,3,none⟩ = some (str x.home.k.s) ∧ W.cell? ⟨w.heap.size,10,none⟩ = some (.slice (some ⟨P1,O1,none⟩) x.body.length x.bcap) ∧ W.cell? ⟨P1,O1 + k * 10,none⟩ = some (str y.by_.v) ∧ W.cell? ⟨P1,O1 + k * 10 + 1,none⟩ = some (.bool y.by_.k.num) ∧ W.cell? ⟨P1,O1 + k * 10 + 2,none⟩ = some (.int .i64 y.by_.k.n) ∧ W.cell? ⟨P1,O1 + k * 10 + 3,none⟩ = some (str y.by_.k.s) ∧ W.cell? ⟨P1,O1 + k * 10 + 4,none⟩ = some (str y.pred) ∧ W.cell? ⟨P1,O1 + k * 10 + 5,none⟩ = some (.slice y.a y.args.length y.cap) ∧ W.cell? ⟨P1,O1 + k * 10 + 6,none⟩ = some (str y.at_.v) ∧ W.cell? ⟨P1,O1 + k * 10 + 7,none⟩ = some (.bool y.at_.k.num) ∧ W.cell? ⟨P1,O1 + k * 10 + 8,none⟩ = some (.int .i64 y.at_.k.n) ∧ W.cell? ⟨P1,O1 + k * 10 + 9,none⟩ = some (str y.at_.k.s) ∧ W.cell? ⟨P2,O2 + i * 4,none⟩ = some (str z.at_) ∧ W.cell? ⟨P2,O2 + i * 4 + 1,none⟩ = some (str z.by_) ∧ W.cell? ⟨P2,O2 + i * 4 + 2,none⟩ = some (str z.pred) ∧ W.cell? ⟨P2,O2 + i * 4 + 3,none⟩ = some (.slice z.a z.ks.length z.cap)) (first | with_reducible exact HK2.out _ GD | with_reducible exact HK2.out _ G9) (first
      | (go_at_call 92;refine (TL.out _ GD).mono ?_;rintro e8 w9 ⟨⟨a9,c9,rfl,E9⟩,b9⟩;have G9:= Below.then GD b9))
     have T9: But q w w9:= BT3.trans (But.of_below G9)
     have WQ9:= WQ3.next G9
     have HR9:= below_heap G9 HR3
     have EV9:= EV3.below G9 (Nat.le_refl _)
     have OF9:= OF3.below G9
     have EK9:= EK3.safe (Safe.below G9: Safe 42 _ _)
     have zl2: (zs.length: Int) ≤ 1000000:= by have:= HBB.out;omega
     have kl2: (x.body.length: Int) ≤ 300:= by have:= HBB.out;omega
     have HR9': w9.heap[w.heap.size]? = some (.cells (rv x).toArray 48):= HR9
     clear TL HK2 GD b9
     rcases lit_two x.home y.l z.f e with ⟨u1,u2,u3⟩ | ⟨e9,u1,u2,u3,u9⟩
     ·rw [u3]
      have FO:= hideP (HFT.out.trans (one_no HV.out u1))
      clear u1 u2 u3
      go_wp2_with fail
      exact ⟨⟨i + 1,us,a2,m2,Ml.bump c2,rfl,by go_num,by omega,OF9,EK9,WQ9,HCB.out,by have:= HLM.out;show us.length ≤ M + (c2.done + 1);omega,FO,HR9,EV9,T9⟩,by simp [RowKit.intOf];omega⟩
     ·rw [u3]
      rw [u2] at E9 ⊢
      have FO:= HFT.out.trans (one_yes HV.out u1)
      have BW9: Below w0.heap.size w0 w9:= hb.trans (T9.lower qw0 hb.size)
      have TIH:= hideP (HIH.out w9 a9 c9 e9 a2 m2 us (Ml.bump c2) BW9 (hbf.trans T9) (by have:= HBB.out.1;have:= T9.size;omega) WQ9 HCB.out E9 (by have:= HBB.out;have h9: e9.length ≤ e.length + (y.args.length + 2):= u9;rw [Nat.succ_mul];omega) OF9 EK9 (by have h1:= HLM.out;have h2:= Ml.cr_le ((x.body.drop (k + 1)).map Lv.l);show us.length + _ ≤ M + (c2.done + 1);omega))
      rw [HLS.out,show ((k + 1: Nat): Int) = (k: Int) + 1 from rfl] at TIH
      have HFO:= hideP FO
      clear u1 u2 u3 u9 FO
      go_wp2_with (refine wpList_load_all rfl 48 _ rfl w.heap.size 11 48 (rv x) _ rfl (by with_reducible exact HR9') rfl Tryz.underlying48 rfl iR ?_)
      refine TIH.out.mono ?_
      rintro e10 w10 ⟨⟨a10,m10,us10,c10,rfl,OF10,EK10,WQ10,F10⟩,BT10⟩
      have HR10:= BT10.heap QN.out HR9
      have EV10:= EV9.butQ WQ9 BT10
      have T10:= T9.trans BT10
      have CO10: c10.Ok:= by
       have h:= Ml.frm_ok (w:= ⟨hs,ns⟩) (r:= x.r) (m:= zs.map Fv.f) ls e9 (st:= (Ml.bump c2,us.map Fv.f)) HCB.out
       rw [F10] at h;exact h
      have LM10: us10.length ≤ M + c10.done:= by
       have h:= Ml.frm_len (w:= ⟨hs,ns⟩) (r:= x.r) (m:= zs.map Fv.f) ls e9 (Ml.bump c2,us.map Fv.f)
       rw [F10] at h
       have h1:= HLM.out
       have h2:= Ml.cr_le ls
       simp only [List.length_map,Ml.bump] at h
       omega
      have FO10:= hideP (HFO.out.trans F10)
      have H10:= hideP (And.intro CO10 LM10)
      clear CO10 LM10 F10 TIH
      go_wp2_with fail
      exact ⟨⟨i + 1,us10,a10,m10,c10,rfl,by go_num,by omega,OF10,EK10,WQ10,H10.out.1,H10.out.2,FO10,HR10,EV10,T10⟩,by simp [RowKit.intOf];omega⟩
    ·have q5: ¬ (60000: Int) < v1:= by have:= HG.out;omega
     have BUMP: Hid (Ml.bump c2 = ⟨dn + 1,false⟩):= by show _ = _;unfold Ml.bump;rw [← HDN.out,decide_eq_false hw,Bool.or_false,HV.out]
     clear hw
     go_upto_region 12 with fail
     have t3:= t1
     have WQ3: Wq w1 q ha hc hs na nc ns (Ml.bump c2):= by rw [BUMP.out];have h:= N1;rw [← HG.out] at h;exact h
     clear N1 BUMP q5 t1 d4 d2 d3 WQ1
     have BT3: But q w w1:= BT.trans t3
     have BW3: Below w0.heap.size w0 w1:= hb.trans (BT3.lower qw0 hb.size)
     have HR3:= t3.heap QN.out HR
     have EV3:= EV.butQ WQ t3
     have OF3:= OF.butQ t3 qb
     have EK3:= EK.safe (t3.safe WQ (by decide))
     obtain ⟨P1,O1,hP,LR1⟩:= LR.out
     have K2: ∀ W,Below w1.heap.size w1 W → (W.cell? ⟨w.heap.size,0,none⟩ = some (str x.home.v) ∧ W.cell? ⟨w.heap.size,1,none⟩ = some (.bool x.home.k.num) ∧ W.cell? ⟨w.heap.size,2,none⟩ = some (.int .i64 x.home.k.n) ∧ W.cell? ⟨w.heap.size,3,none⟩ = some (str x.home.k.s) ∧ W.cell? ⟨w.heap.size,10,none⟩ = some (.slice (some ⟨P1,O1,none⟩) x.body.length x.bcap) ∧ W.cell? ⟨P1,O1 + k * 10,none⟩ = some (str y.by_.v) ∧ W.cell? ⟨P1,O1 + k * 10 + 1,none⟩ = some (.bool y.by_.k.num) ∧ W.cell? ⟨P1,O1 + k * 10 + 2,none⟩ = some (.int .i64 y.by_.k.n) ∧ W.cell? ⟨P1,O1 + k * 10 + 3,none⟩ = some (str y.by_.k.s) ∧ W.cell? ⟨P1,O1 + k * 10 + 4,none⟩ = some (str y.pred) ∧ W.cell? ⟨P1,O1 + k * 10 + 5,none⟩ = some (.slice y.a y.args.length y.cap) ∧ W.cell? ⟨P1,O1 + k * 10 + 6,none⟩ = some (str y.at_.v) ∧ W.cell? ⟨P1,O1 + k * 10 + 7,none⟩ = some (.bool y.at_.k.num) ∧ W.cell? ⟨P1,O1 + k * 10 + 8,none⟩ = some (.int .i64 y.at_.k.n) ∧ W.cell? ⟨P1,O1 + k * 10 + 9,none⟩ = some (str y.at_.k.s) ∧ W.cell? ⟨P2,O2 + i * 4,none⟩ = some (str z.at_) ∧ W.cell? ⟨P2,O2 + i * 4 + 1,none⟩ = some (str z.by_) ∧ W.cell? ⟨P2,O2 + i * 4 + 2,none⟩ = some (str z.pred) ∧ W.cell? ⟨P2,O2 + i * 4 + 3,none⟩ = some (.slice z.a z.ks.length z.cap)):= fun W h => by
      have hw0:= BW3.trans (h.mono BW3.size)
      obtain ⟨e0,e1,e2,e3,e10⟩:= rv_home5 (x:= x) (below_heap h HR3)
      rw [hP] at e10
      obtain ⟨f0,f1,f2,f3,f4,f5,f6,f7,f8,f9⟩:= lv_in5 (LR1 W hw0)
      have rf:= FR.out W ((hbf.trans BT3).below h)
      exact ⟨e0,e1,e2,e3,e10,f0,f1,f2,f3,f4,f5,f6,f7,f8,f9,rf 0 _ rfl,rf 1 _ rfl,rf 2 _ rfl,rf 3 _ rfl⟩
     have HK2:= hideP K2
     have GD:= (Below.refl w1.heap.size w1).drew
     have TL:= hideP (fun W (h: Below w1.heap.size w1 W) => rLiteral_at x.home y z ea ec e W (EV3.below h (Nat.le_refl _)) (by have:= HBB.out;omega) (aY.below (B:= w0.heap.size) (BW3.trans (h.mono BW3.size)) (Nat.le_refl _)) (AZ.out W ((hbf.trans BT3).below h)))
     have q6: (k: Int) < (x.body.length: Int):= by omega
     have HP:= hideP hP
     clear K2 LR1 t3 hP
     go_region_held3 (fun W => W.cell? ⟨w.heap.size,0,none⟩ = some (str x.home.v) ∧ W.cell? ⟨w.heap.size,1,none⟩ = some (.bool x.home.k.num) ∧ W.cell? ⟨w.heap.size,2,none⟩ = some (.int .i64 x.home.k.n) ∧ W.cell? ⟨w.heap.size,3,none⟩ = some (str x.home.k.s) ∧ W.cell? ⟨w.heap.size,10,none⟩ = some (.slice (some ⟨P1,O1,none⟩) x.body.length x.bcap) ∧ W.cell? ⟨P1,O1 + k * 10,none⟩ = some (str y.by_.v) ∧ W.cell? ⟨P1,O1 + k * 10 + 1,none⟩ = some (.bool y.by_.k.num) ∧ W.cell? ⟨P1,O1 + k * 10 + 2,none⟩ = some (.int .i64 y.by_.k.n) ∧ W.cell? ⟨P1,O1 + k * 10 + 3,none⟩ = some (str y.by_.k.s) ∧ W.cell? ⟨P1,O1 + k * 10 + 4,none⟩ = some (str y.pred) ∧ W.cell? ⟨P1,O1 + k * 10 + 5,none⟩ = some (.slice y.a y.args.length y.cap) ∧ W.cell? ⟨P1,O1 + k * 10 + 6,none⟩ = some (str y.at_.v) ∧ W.cell? ⟨P1,O1 + k * 10 + 7,none⟩ = some (.bool y.at_.k.num) ∧ W.cell? ⟨P1,O1 + k * 10 + 8,none⟩ = some (.int .i64 y.at_.k.n) ∧ W.cell? ⟨P1,O1 + k * 10 + 9,none⟩ = some (str y.at_.k.s) ∧ W.cell? ⟨P2,O2 + i * 4,none⟩ = some (str z.at_) ∧ W.cell? ⟨P2,O2 + i * 4 + 1,none⟩ = some (str z.by_) ∧ W.cell? ⟨P2,O2 + i * 4 + 2,none⟩ = some (str z.pred) ∧ W.cell? ⟨P2,O2 + i * 4 + 3,none⟩ = some (.slice z.a z.ks.length z.cap)) (first | with_reducible exact HK2.out _ GD | with_reducible exact HK2.out _ G9) (first
      | (go_at_call 92;refine (TL.out _ GD).mono ?_;rintro e8 w9 ⟨⟨a9,c9,rfl,E9⟩,b9⟩;have G9:= Below.then GD b9))
     have T9: But q w w9:= BT3.trans (But.of_below G9)
     have WQ9:= WQ3.next G9
     have HR9:= below_heap G9 HR3
     have EV9:= EV3.below G9 (Nat.le_refl _)
     have OF9:= OF3.below G9
     have EK9:= EK3.safe (Safe.below G9: Safe 42 _ _)
     have zl2: (zs.length: Int) ≤ 1000000:= by have:= HBB.out;omega
     have kl2: (x.body.length: Int) ≤ 300:= by have:= HBB.out;omega
     have HR9': w9.heap[w.heap.size]? = some (.cells (rv x).toArray 48):= HR9
     clear TL HK2 GD b9
     rcases lit_two x.home y.l z.f e with ⟨u1,u2,u3⟩ | ⟨e9,u1,u2,u3,u9⟩
     ·rw [u3]
      have FO:= hideP (HFT.out.trans (one_no HV.out u1))
      clear u1 u2 u3
      go_wp2_with fail
      exact ⟨⟨i + 1,us,a2,m2,Ml.bump c2,rfl,by go_num,by omega,OF9,EK9,WQ9,HCB.out,by have:= HLM.out;show us.length ≤ M + (c2.done + 1);omega,FO,HR9,EV9,T9⟩,by simp [RowKit.intOf];omega⟩
     ·rw [u3]
      rw [u2] at E9 ⊢
      have FO:= HFT.out.trans (one_yes HV.out u1)
      have BW9: Below w0.heap.size w0 w9:= hb.trans (T9.lower qw0 hb.size)
      have TIH:= hideP (HIH.out w9 a9 c9 e9 a2 m2 us (Ml.bump c2) BW9 (hbf.trans T9) (by have:= HBB.out.1;have:= T9.size;omega) WQ9 HCB.out E9 (by have:= HBB.out;have h9: e9.length ≤ e.length + (y.args.length + 2):= u9;rw [Nat.succ_mul];omega) OF9 EK9 (by have h1:= HLM.out;have h2:= Ml.cr_le ((x.body.drop (k + 1)).map Lv.l);show us.length + _ ≤ M + (c2.done + 1);omega))
      rw [HLS.out,show ((k + 1: Nat): Int) = (k: Int) + 1 from rfl] at TIH
      have HFO:= hideP FO
      clear u1 u2 u3 u9 FO
      go_wp2_with (refine wpList_load_all rfl 48 _ rfl w.heap.size 11 48 (rv x) _ rfl (by with_reducible exact HR9') rfl Tryz.underlying48 rfl iR ?_)
      refine TIH.out.mono ?_
      rintro e10 w10 ⟨⟨a10,m10,us10,c10,rfl,OF10,EK10,WQ10,F10⟩,BT10⟩
      have HR10:= BT10.heap QN.out HR9
      have EV10:= EV9.butQ WQ9 BT10
      have T10:= T9.trans BT10
      have CO10: c10.Ok:= by
       have h:= Ml.frm_ok (w:= ⟨hs,ns⟩) (r:= x.r) (m:= zs.map Fv.f) ls e9 (st:= (Ml.bump c2,us.map Fv.f)) HCB.out
       rw [F10] at h;exact h
      have LM10: us10.length ≤ M + c10.done:= by
       have h:= Ml.frm_len (w:= ⟨hs,ns⟩) (r:= x.r) (m:= zs.map Fv.f) ls e9 (Ml.bump c2,us.map Fv.f)
       rw [F10] at h
       have h1:= HLM.out
       have h2:= Ml.cr_le ls
       simp only [List.length_map,Ml.bump] at h
       omega
      have FO10:= hideP (HFO.out.trans F10)
      have H10:= hideP (And.intro CO10 LM10)
      clear CO10 LM10 F10 TIH
      go_wp2_with fail
      exact ⟨⟨i + 1,us10,a10,m10,c10,rfl,by go_num,by omega,OF10,EK10,WQ10,H10.out.1,H10.out.2,FO10,HR10,EV10,T10⟩,by simp [RowKit.intOf];omega⟩
  ·have q2: ¬ (i: Int) < (zs.length: Int):= by omega
   have FIN:= hideP (fold_all FO.out (.inl (by rw [List.length_map];omega)))
   clear FO
   go_wp2_with fail
   go_ret
   exact ⟨⟨a2,m2,us,c2,rfl,OF,EK,WQ,FIN.out⟩,BT⟩
end Go.Proofs.YtpdmmmdkpipmkaaGreatDoor
namespace Go.Proofs.YtpdmmmdkpipmkaaGreatDoor
open Go.RowKit Go.Lib Go.Shelf
theorem grown_cap {w w': World} {a: Option Addr} {n c c': Nat} (h: w.grownBy w' (Value.slice a n c).ownBlock): w.grownBy w' (Value.slice a n c').ownBlock:= by
 cases a with
 | none => exact h
 | some _ => exact h
theorem insertEnd_at (B: Nat) (a: Option Addr) (c: Nat) (ys: List Fv) (xa: Option Addr) (xc: Nat) (x: Fv) (w: World) (ho: w.ownsRow B 37 4 (.slice a ys.length c) ys.length (fcells ys)) (hB: B ≤ w.heap.size) (hf: ys.length ≤ 1000000) (hx: Lies w xa xc [x]):
 Calls Tryz.prog 67 #[.slice a ys.length c,.int .i64 (ys.length: Int),.slice xa 1 xc] w fun e w' => ∃ v,e = .returned v ∧ w'.ownsRow B 37 4 v (ys ++ [x]).length (fcells (ys ++ [x])) ∧ w.grownBy w' (Value.slice a ys.length c).ownBlock:= by
 obtain ⟨a',c',he,hO⟩:= own_facts ho (by omega)
 cases he
 have room:= hO.room
 have most:= hO.most
 have fits: ys.length + [x].length ≤ 1954687338211:= by simp;omega
 go_enter Tryz.func67,Tryz.ntmps67
 go_wp2_with (at_builtin;refine wpList_append_fs _ rfl _ _ rfl B (.slice a ys.length c) ys [x] xa xc rfl ho rfl hx hB fits ?ap)
 all_goals
  intro v w2 ho2 hg
  have ho3: w2.ownsRow B 37 4 v (ys ++ [x]).length (fcells (ys ++ [x])):= by simpa using ho2
  have HG:= hideP ho3
  have HH:= hideP hg
  clear ho2 ho3 hg
  go_wp2_with fail
  go_ret
  exact ⟨v,rfl,HG.out,grown_cap HH.out⟩
end Go.Proofs.YtpdmmmdkpipmkaaGreatDoor
namespace Go.Proofs.YtpdmmmdkpipmkaaGreatDoor
open Go.RowKit Go.Lib Go.Shelf
def midA (cur: Array Value) (i: Nat) (ys: List Fv): Array Value:= (cur.toList.take ((i + 1) * 4) ++ fcells (ys.drop i) ++ cur.toList.drop ((i + 1) * 4 + (fcells (ys.drop i)).length)).toArray
def midB (cur: Array Value) (i: Nat) (ys: List Fv) (x: Fv): Array Value:= ((midA cur i ys).toList.take (i * 4) ++ fv x ++ (midA cur i ys).toList.drop (i * 4 + (fv x).length)).toArray
theorem fcells_drop (xs: List Fv) (i: Nat) (h: i ≤ xs.length): fcells (xs.drop i) = (fcells xs).drop (i * 4):= by
 have e:= congrArg fcells (List.take_append_drop i xs)
 rw [fcells_append] at e
 have l: (fcells (xs.take i)).length = i * 4:= by rw [fcells_len,List.length_take,Nat.min_eq_left h]
 rw [← e,← l,List.drop_left]
theorem insertMid_at (b c i vb: Nat) (cur: Array Value) (x: Fv) (ys: List Fv) (w: World) (hi: i < ys.length) (hroom: ys.length + 1 ≤ c) (hn: ys.length ≤ 1000000) (hvb: vb ≠ b)
 (hg: w.heap[b]? = some (.cells cur 37)) (hsz: cur.size = c * 4) (hcur: cur.toList.take (ys.length * 4) = fcells ys) (hv: w.heap[vb]? = some (.cells (fv x).toArray 37)):
 Calls Tryz.prog 67 #[.slice (some ⟨b,0,none⟩) ys.length c,.int .i64 (i: Int),.slice (some ⟨vb,0,none⟩) 1 1] w fun e w' => e = .returned (.slice (some ⟨b,0,none⟩) (ys.length + 1) c) ∧ w' = (w.drew.setRow b (midA cur i ys)).setRow b (midB cur i ys x):= by
 have hz2: ¬ ((i: Int) = (ys.length: Int)):= by omega
 have hov: ∀ o lb cb,(callFunc 102 #[.slice (some ⟨vb,0,none⟩) 1 1,.slice (some ⟨b,o,none⟩) lb cb]).run Tryz.prog w = .ok (.value (.bool false)) w:= fun o lb cb => by
  rw [run_callFunc_extern Tryz.func102 (by kernel_rfl) (by kernel_rfl) (by kernel_rfl) (e:= Extern.SlicesOverlaps.overlaps #[32,32] #[4]) (by kernel_rfl),
   Lib.run_overlaps_apart w 32 4 37 Tryz.underlying32 4 (fun _ => by kernel_rfl) ⟨vb,0,none⟩ ⟨b,o,none⟩ 1 1 lb cb hvb 37 37 4 (c * 4) (by simp [World.shape?,hv,fv]) (by simp [World.shape?,hg,hsz]) (by omega) (heap_frozen hv _) (heap_frozen hv _)]
  rfl
 have mixed: Tryz.prog.follows .mixedOrders = true:= by kernel_rfl
 have iF: (Tryz.prog.info? 37).map (·.size) = some 4:= by kernel_rfl
 have hD:= fcells_drop ys i (by omega)
 have hDl: (fcells (ys.drop i)).length = (ys.length - i) * 4:= by rw [fcells_len,List.length_drop]
 have hcp1: ∀ ty dc sc,(Builtin.copy_ #[32,32] ty #[.slice (some ⟨b,(i + 1) * 4,none⟩) (ys.length - i) dc,.slice (some ⟨b,i * 4,none⟩) (ys.length + 1 - i) sc]).run Tryz.prog w.drew = .ok (goInt ((ys.length - i: Nat): Int)) (w.drew.setRow b (midA cur i ys)):= fun ty dc sc =>
  run_copy_k w.drew _ _ ty 37 4 b ((i + 1) * 4) (ys.length - i) dc (ys.length - i) ⟨b,i * 4,none⟩ (ys.length + 1 - i) sc cur 37 (fcells (ys.drop i)) Tryz.underlying32 iF hg (by simp only [Nat.min_def];split <;> omega) hDl
   (fun j v hj => by
     rw [hD,← hcur,List.getElem?_drop] at hj
     have hlt: i * 4 + j < ys.length * 4:= by
      have:= (List.getElem?_eq_some_iff.1 hj).1
      rw [List.length_take] at this;omega
     rw [List.getElem?_take_of_lt hlt] at hj
     rw [Addr.add_lit,show w.drew.cell? ⟨b,i * 4 + j,none⟩ = cur[i * 4 + j]? from heap_cell (w:= w.drew) hg _]
     simpa using hj)
   (by rw [hDl,hsz];omega) (fcells_one _)
 have hA: ((w.drew.setRow b (midA cur i ys))).heap[b]? = some (.cells (midA cur i ys) 37):= setRow_heap w.drew b cur _ _ _ hg
 have hAv: ((w.drew.setRow b (midA cur i ys))).heap[vb]? = some (.cells (fv x).toArray 37):= by
  rw [setRow_other _ _ _ _ hvb];exact hv
 have hAs: (midA cur i ys).size = c * 4:= by
  have:= hDl
  simp [midA,hsz,hDl];omega
 have hcp2: ∀ ty dc,(Builtin.copy_ #[32,32] ty #[.slice (some ⟨b,i * 4,none⟩) (ys.length + 1 - i) dc,.slice (some ⟨vb,0,none⟩) 1 1]).run Tryz.prog (w.drew.setRow b (midA cur i ys)) = .ok (goInt 1) ((w.drew.setRow b (midA cur i ys)).setRow b (midB cur i ys x)):= fun ty dc =>
  run_copy_k _ _ _ ty 37 4 b (i * 4) (ys.length + 1 - i) dc 1 ⟨vb,0,none⟩ 1 1 (midA cur i ys) 37 (fv x) Tryz.underlying32 iF hA (by simp only [Nat.min_def];split <;> omega) rfl
   (fun j v hj => by
     rw [Addr.add_lit,heap_cell hAv]
     simpa using hj)
   (by rw [hAs];simp [fv];omega) (fun u hu => fcells_one [x] u (by simpa [fcells] using hu))
 have hw1: IntKind.i64.wrap ((i: Int) + 1) = (i: Int) + 1:= by rw [IntKind.wrap_i64];omega
 have hb1: (0: Int) ≤ (i: Int) + 1:= by omega
 have hb5: (i: Int) + 1 ≤ (ys.length: Int) + 1:= by omega
 have hin: i ≤ ys.length:= by omega
 have hlt: (i: Int) ≤ (ys.length: Int):= by omega
 have htn: ((i: Int) + 1).toNat = i + 1:= by omega
 have hb2: ¬ (c = i + 1):= by omega
 have hb3: (i: Int) ≤ (ys.length: Int) + 1:= by omega
 have hb4: ¬ (c = i):= by omega
 generalize hW1: w.drew.setRow b (midA cur i ys) = W1 at *
 go_enter Tryz.func67,Tryz.ntmps67
 go_wp2_with (simp only [hov])
 go_region_law_o (refine step_copy_runI rfl _ _ 32 32 rfl _ _ (by simp [Act.eval,Act.put]) (by simp [Act.eval,Act.put]) (hcp1 _ _ _) ?_)
 go_wp2_with (at_builtin;refine wpList_copy_runI _ rfl _ _ 32 32 rfl _ _ rfl rfl (hcp2 _ _) ?_)
 go_ret
 exact ⟨rfl,rfl⟩
end Go.Proofs.YtpdmmmdkpipmkaaGreatDoor
