/-
  The reference's Sorted.
-/
import Derived.SizedLaws
import Derived.Deep.Slices
import Derived.Lib.SmallJoins
import Derived.Test.YtpdmmmdkpipmkaaGreatDoorQCl12
import Derived.Test.YtpdmmmdkpipmkaaGreatDoorQRn12
import Derived.Test.YtpdmmmdkpipmkaaGreatDoorQLe12
import Derived.Test.YtpdmmmdkpipmkaaGreatDoorQSk
import Derived.Test.YtpdmmmdkpipmkaaGreatDoorQCd
import Derived.Test.YtpdmmmdkpipmkaaGreatDoorQWf12
import Derived.Test.YtpdmmmdkpipmkaaGreatDoorQBn
set_option maxRecDepth 100000
set_option maxHeartbeats 4000000
namespace Go.Proofs.YtpdmmmdkpipmkaaGreatDoor
open Go.RowKit Go.Sort
theorem sortF_take (l: List F) (k: Nat) (h: k < l.length): (l.take (k + 1)).foldl ins [] = ins ((l.take k).foldl ins []) l[k]:= by
 rw [List.take_succ_eq_append_getElem h,List.foldl_append];rfl
theorem sortF_all (l: List F): (l.take l.length).foldl ins [] = sortF l:= by rw [List.take_length];unfold sortF;rfl
theorem refsorted_at (a: Option Addr) (cap: Nat) (xs: List Fv) (w: World) (hl: Lies w a cap xs) (hx: ∀ x ∈ xs,Fv.At w x): Calls Tryz.prog 34 #[.slice a xs.length cap] w
 fun e w' => ∃ a' c' zs,e = .returned (.slice a' zs.length c') ∧ OwF w' w.heap.size a' c' zs ∧ (∀ z ∈ zs,z ∈ xs) ∧ zs.map Fv.f = sortF (xs.map Fv.f) ∧ Below w.heap.size w w':= by
 have few:= hl.few
 have hW:= fun (a: Option Addr) (c: Nat) (ys: List Fv) (x: Fv) (W: World) => with_at a c ys x W w.heap.size
 go_enter Tryz.func34,Tryz.ntmps34
 go_wp2_with fail
 go_loopw [3,4] (fun v3 v4 wr => ∃ (k: Nat) (a': Option Addr) (c': Nat) (ys: List Fv),v3 = .slice a' ys.length c' ∧ v4 = .int .i64 (k: Int) ∧ k ≤ xs.length ∧ ys.length ≤ k ∧ OwF wr w.heap.size a' c' ys ∧ (∀ y ∈ ys,y ∈ xs) ∧ Hid (ys.map Fv.f = ((xs.map Fv.f).take k).foldl ins []) ∧ Below w.heap.size w wr) (fun _ v4 _ => xs.length - (RowKit.intOf v4).toNat)
 case atStart => exact ⟨0,none,0,[],rfl,rfl,by omega,Nat.le_refl _,OwF.nil _ _,fun _ h => by simp at h,rfl,Below.refl _ _⟩
 case round =>
  obtain ⟨k,a',c',ys,rfl,rfl,hk,hyl,hO,hin,hf,hb⟩:= hrel
  by_cases hlt: k < xs.length
  ·have q2: (k: Int) < (xs.length: Int):= by omega
   obtain ⟨P1,O1,rfl⟩:= hl.addr (Nat.lt_of_le_of_lt (Nat.zero_le _) hlt)
   obtain ⟨a1,a2,a3,a4⟩:= (hl.below hb (Nat.le_refl _)).get k hlt
   have hcall:= hW a' c' ys (xs[k]'hlt) wr hO (fun y hy => (hx y (hin y hy)).below hb (Nat.le_refl _)) ((hx _ (List.getElem_mem hlt)).below hb (Nat.le_refl _)) (by omega) hb.size
   have hst: Hid (((xs.map Fv.f).take (k + 1)).foldl ins [] = ins (((xs.map Fv.f).take k).foldl ins []) (xs[k]'hlt).f):= by
    show _ = _
    rw [sortF_take _ k (by simpa using hlt),List.getElem_map]
   have hmem: Hid ((xs[k]'hlt) ∈ xs):= List.getElem_mem hlt
   generalize (xs[k]'hlt) = p at *
   go_wp2_with fail
   refine hcall.mono ?_
   rintro e w2 ⟨a2',c2',zs,rfl,hO2,hz,hzf,hzl,hb2⟩
   have Hzf:= hideP hzf;clear hzf
   go_wp2_with fail
   refine ⟨⟨k + 1,a2',c2',zs,rfl,by simp,by omega,by omega,hO2,fun z hz' => ?_, ?_,Below.then hb hb2⟩,by simp [RowKit.intOf];omega⟩
   ·rcases hz z hz' with h | rfl
    ·exact hin z h
    ·exact hmem.out
   ·show _ = _
    rw [Hzf.out,hf.out,hst.out]
  ·have q2: ¬ (k: Int) < (xs.length: Int):= by omega
   have Hend: Hid (ys.map Fv.f = sortF (xs.map Fv.f)):= by
    show _ = _
    rw [hf.out,show k = (xs.map Fv.f).length by simp;omega];exact sortF_all _
   go_wp2_with fail
   go_ret
   exact ⟨a',c',ys,rfl,hO,hin,Hend.out,hb⟩
end Go.Proofs.YtpdmmmdkpipmkaaGreatDoor
namespace Go.Proofs.YtpdmmmdkpipmkaaGreatDoor
open Go.RowKit Go.Lib Go.Shelf
structure RIn0 (w0: World) (ra: Option Addr) (rc: Nat) (rs: List Rv) (ha: Option Addr) (hc: Nat) (hs: List (List UInt8)) (na: Option Addr) (nc: Nat) (ns: List (List UInt8)): Prop where
 rules: Rws w0 ra rc rs
 smr: ∀ r ∈ rs,SmR r
 homes: Row sK w0 ha hc hs
 names: Row sK w0 na nc ns
 most: rs.length * hs.length ≤ 1000000
def EQ (w0 w: World) (ys: List Fv): Prop:= ∀ z ∈ ys,Fv.At w0 z ∨ RowT kK 42 w z.a z.cap z.ks
theorem EQ.at_ {w0 w: World} {ys: List Fv} (h: EQ w0 w ys) (hb: Below w0.heap.size w0 w): ∀ z ∈ ys,Fv.At w z:= fun z hz => by
 rcases h z hz with h | h
 ·exact h.below hb (Nat.le_refl _)
 ·exact row_args h.row
theorem EQ.safe {w0 w w': World} {ys: List Fv} (h: EQ w0 w ys) (s: Safe 42 w w'): EQ w0 w' ys:= fun z hz => (h z hz).imp id fun h => h.safe s
structure LsAns (w0 w: World) (q: Nat) (ha: Option Addr) (hc: Nat) (hs: List (List UInt8)) (na: Option Addr) (nc: Nat) (ns: List (List UInt8)) (l: List Ru) (b: List F) (c: Ml.Cn) (en: Ending) (w': World): Prop where
 ans: ∃ a m us o c2,en = .returned (.tuple #[.slice a (List.length us) m,.int .i64 (errOf o)]) ∧ Lies w' a m us ∧ EQ w0 w' us ∧ us.map Fv.f = o.getD [] ∧ Wq w' q ha hc hs na nc ns c2 ∧ Ml.LstR ⟨hs,ns⟩ l b c o c2
 but: But q w w'
theorem rleast_at (w0: World) (q: Nat) (ra: Option Addr) (rc: Nat) (rs: List Rv) (ha: Option Addr) (hc: Nat) (hs: List (List UInt8)) (na: Option Addr) (nc: Nat) (ns: List (List UInt8)) (fa: Option Addr) (fc: Nat) (zs: List Fv) (c: Ml.Cn) (w: World) (hi: RIn0 w0 ra rc rs ha hc hs na nc ns) (hf: Lies w0 fa fc zs) (hz: ∀ z ∈ zs,Fv.At w0 z) (hb: Below w0.heap.size w0 w) (hq0: w0.heap.size ≤ q) (hq: Wq w q ha hc hs na nc ns c) (hc0: c.Ok):
 Calls Tryz.prog 23 #[ptr q,.slice ra rs.length rc,.slice fa zs.length fc] w (LsAns w0 w q ha hc hs na nc ns (rs.map Rv.r) (sortF (zs.map Fv.f)) c):= by
 have hqb: q < w.heap.size:= heap_lt hq
 have T1:= hideP (refsorted_at fa fc zs w (hf.below hb (Nat.le_refl _)) (fun z h => (hz z h).below hb (Nat.le_refl _)))
 have HI:= hideP hi
 have HZ:= hideP hz
 have HC:= hideP hc0
 clear hi hf hz hc0
 go_enter Tryz.func23,Tryz.ntmps23
 go_wp2_with fail
 refine T1.out.mono ?_
 rintro e w1 ⟨a1,c1,us1,rfl,OF1,in1,hs1,B1⟩
 have EQ1: EQ w0 w1 us1:= fun z h => .inl (HZ.out z (in1 z h))
 have ST1: Hid (∀ o c2,Ml.LstR ⟨hs,ns⟩ (rs.map Rv.r) (us1.map Fv.f) c o c2 → Ml.LstR ⟨hs,ns⟩ (rs.map Rv.r) (sortF (zs.map Fv.f)) c o c2):= fun o c2 h => by rw [hs1] at h;exact h
 have SS1: Hid (SS (us1.map Fv.f)):= by show SS _;rw [hs1];exact sortF_SS _
 have WQ1:= hq.next B1
 clear T1 in1 hs1 HZ hq
 go_wp2_with fail
 go_loopw [8] (fun v8 wr => ∃ (ys: List Fv) (a: Option Addr) (cp: Nat) (cc: Ml.Cn),v8 = .slice a (List.length ys) cp ∧ OwF wr w.heap.size a cp ys ∧ EQ w0 wr ys ∧ Wq wr q ha hc hs na nc ns cc ∧ Hid (cc.Ok) ∧ Hid (SS (ys.map Fv.f)) ∧ Hid (∀ o c2,Ml.LstR ⟨hs,ns⟩ (rs.map Rv.r) (ys.map Fv.f) cc o c2 → Ml.LstR ⟨hs,ns⟩ (rs.map Rv.r) (sortF (zs.map Fv.f)) c o c2) ∧ But q w wr) (fun v8 _ => match v8 with
  | .slice _ n _ => 401 - n
  | _ => 0)
 case atStart => exact ⟨us1,a1,c1,c,rfl,OF1,EQ1,WQ1,HC,SS1,ST1,But.of_below B1⟩
 case round =>
  obtain ⟨ys,a,cp,cc,rfl,OF,EY,WQ,CO,HS,ST,BT⟩:= hrel
  clear OF1 EQ1 WQ1 B1 SS1 ST1
  have d3: wr.cell? ⟨q,3,none⟩ = some (.bool cc.heavy):= by rw [heap_cell WQ];rfl
  have few:= OF.few
  cases hv: cc.heavy with
  | true =>
   rw [hv] at d3
   have R:= hideP (ST.out _ _ (.heavy hv))
   clear hv
   go_wp2_with fail
   go_ret2
   exact ⟨⟨none,0,[],some [],cc,rfl,Lies.nil _,(fun _ h => by cases h),rfl,WQ,R.out⟩,BT⟩
  | false =>
   rw [hv] at d3
   have HV:= hideP hv
   clear hv
   by_cases h4: ys.length ≤ 400
   rotate_left
   ·have q4: (400: Int) < (List.length ys: Int):= by omega
    have R:= hideP (ST.out _ _ (.full HV.out (by rw [List.length_map];omega)))
    go_wp2_with fail
    go_ret2
    exact ⟨⟨none,0,[],none,cc,rfl,Lies.nil _,(fun _ h => by cases h),rfl,WQ,R.out⟩,BT⟩
   ·have q4: ¬ (400: Int) < (List.length ys: Int):= by omega
    have A2:= below_alloc wr (.cells #[] 37)
    have O2:= ownsF_empty wr
    have L2:= OF.lies.below A2 (Nat.le_refl _)
    have S2: wr.heap.size ≤ (wr.alloc (.cells #[] 37)).heap.size:= A2.size
    go_wp2_with (at_builtin;refine wpList_append_fs _ rfl _ _ rfl wr.heap.size (.slice (some ⟨wr.heap.size,0,none⟩) 0 0) [] ys a cp rfl O2 rfl L2 S2 (by simpa using few) ?_;intro v2 w2 o2 g2;have B2: Below wr.heap.size wr w2:= A2.trans ((Below.refl _ _).grown g2 S2 (fun k hk => (by cases hk;exact Nat.le_refl _)));obtain ⟨a2,c2,rfl,OF2⟩:= own_facts (xs:= ys) (by simpa using o2) few)
    have BT2: But q w w2:= BT.below B2
    have WQ2:= WQ.next B2
    have OFm:= OF.below B2
    have EY2:= EY.safe (Safe.below B2: Safe 42 _ _)
    have BW2: Below w0.heap.size w0 w2:= hb.trans (BT2.lower hq0 hb.size)
    have TO:= hideP (ronce_at w0 q ra rc rs ha hc hs na nc ns a cp ys cc w2 ⟨HI.out.rules,HI.out.smr,HI.out.homes,HI.out.names,fun W h => ⟨liesRow (OFm.butQ h hqb).lies,(EY2.safe (h.safe WQ2 (by decide))).at_ (BW2.trans (h.lower hq0 BW2.size))⟩,by omega,HI.out.most⟩ BW2 hq0 WQ2 CO.out)
    refine TO.out.mono ?_
    rintro e3 w3 ⟨⟨a3,m3,us,c3,rfl,OF3,EK3,WQ3,R3,L3⟩,BT3⟩
    have OFm3:= OFm.butQ BT3 hqb
    have EY3:= EY2.safe (BT3.safe WQ2 (by decide))
    have OU3:= (OF2.lower BT.size).butQ BT3 hqb
    have BT03:= BT2.trans BT3
    have BW3: Below w0.heap.size w0 w3:= hb.trans (BT03.lower hq0 hb.size)
    have C3: Hid (c3.Ok):= by
     show c3.Ok
     have h:= Ml.onceR_ok (w:= ⟨hs,ns⟩) (l:= rs.map Rv.r) (m:= ys.map Fv.f) CO.out
     rw [R3] at h;exact h
    have HR:= hideP R3
    clear TO R3 OF EY WQ A2 O2 L2 S2 o2 g2 B2 OF2 OFm EY2 BW2 WQ2 BT3 BT2 d3 CO
    go_wp2_with fail
    go_loopw [9,11] (fun v9 v11 wi => ∃ (i: Nat) (ot: List Fv) (a9: Option Addr) (c9: Nat),v9 = .slice a9 (List.length ot) c9 ∧ v11 = .int .i64 (i: Int) ∧ i ≤ us.length ∧ OwF wi w.heap.size a9 c9 ot ∧ EQ w0 wi ot ∧ ot.length ≤ ys.length + i ∧ Hid (ot.map Fv.f = ((us.map Fv.f).take i).foldl ins (ys.map Fv.f)) ∧ Below w3.heap.size w3 wi) (fun _ v11 _ => us.length - (RowKit.intOf v11).toNat)
    case atStart => exact ⟨0,ys,a2,c2,rfl,rfl,Nat.zero_le _,OU3,EY3,by omega,rfl,Below.refl _ _⟩
    case round =>
     obtain ⟨i,ot,a9,c9,rfl,rfl,hiu,OF9,EQ9,LN9,FO9,B9⟩:= hrel
     have BW9: Below w0.heap.size w0 wr:= BW3.trans (B9.mono BW3.size)
     by_cases hlt: i < us.length
     ·have q5: (i: Int) < (us.length: Int):= by omega
      obtain ⟨P3,O3,rfl⟩:= OF3.lies.addr (by omega)
      obtain ⟨k1,k2,k3,k4⟩:= (OF3.lies.below B9 (Nat.le_refl _)).get i hlt
      have RZ:= (EK3 _ (List.getElem_mem hlt)).safe (Safe.below B9)
      have FT: Hid (((us.map Fv.f).take (i + 1)).foldl ins (ys.map Fv.f) = ins (((us.map Fv.f).take i).foldl ins (ys.map Fv.f)) (us[i]'hlt).f):= by
       show _ = _
       rw [List.take_succ_eq_append_getElem (by simpa using hlt),List.foldl_append];simp
      generalize (us[i]'hlt) = z at *
      have TW:= hideP (with_at a9 c9 ot z wr w.heap.size OF9 (EQ9.at_ BW9) (row_args RZ.row) (by omega) (Nat.le_trans BT03.size B9.size))
      go_wp2_with fail
      refine TW.out.mono ?_
      rintro e5 w5 ⟨a5,c5,ut,rfl,OF5,in5,f5,l5,B5⟩
      have EQ5: EQ w0 w5 ut:= fun y hy => by
       rcases in5 y hy with h | rfl
       ·exact (EQ9.safe (Safe.below B5)) y h
       ·exact .inr (RZ.safe (Safe.below B5))
      have FF: Hid (ut.map Fv.f = ((us.map Fv.f).take (i + 1)).foldl ins (ys.map Fv.f)):= by show _ = _;rw [f5,FT.out,FO9.out]
      clear TW f5 in5 k1 k2 k3 k4
      go_wp2_with fail
      exact ⟨⟨i + 1,ut,a5,c5,rfl,by go_num,by omega,OF5,EQ5,by omega,FF,Below.then B9 B5⟩,by simp [RowKit.intOf];omega⟩
     ·have q5: ¬ (i: Int) < (us.length: Int):= by omega
      have FA: ot.map Fv.f = (us.map Fv.f).foldl ins (ys.map Fv.f):= by
       rw [FO9.out,show i = (us.map Fv.f).length by rw [List.length_map];omega,List.take_length]
      have HLn: ot.length = ((Ml.onceR ⟨hs,ns⟩ (rs.map Rv.r) (ys.map Fv.f) cc).2.foldl ins (ys.map Fv.f)).length:= by rw [HR.out,← FA,List.length_map]
      have BT9:= BT03.below B9
      have WQ9:= WQ3.next B9
      have OFm9:= OFm3.below B9
      have EY9:= EY3.safe (Safe.below B9: Safe 42 _ _)
      have hlm: (ys.map Fv.f).length = ys.length:= List.length_map ..
      clear FO9
      by_cases hl: ot.length = ys.length
      ·have q6: ((List.length ot: Int) == (List.length ys: Int)) = true:= by rw [beq_iff_eq];omega
       have R:= ST.out _ _ (.done HV.out (by rw [hlm];exact h4) (by rw [← HLn,hlm];exact hl))
       rw [HR.out] at R
       have HRR:= hideP R
       clear R FA HLn hl hlm
       go_wp2_with fail
       go_ret2
       exact ⟨⟨a,cp,ys,some (ys.map Fv.f),c3,rfl,OFm9.lies,EY9,rfl,WQ9,HRR.out⟩,BT9⟩
      ·have q6: ((List.length ot: Int) == (List.length ys: Int)) = false:= by rw [beq_eq_false_iff_ne];omega
       have SN: Hid (SS (ot.map Fv.f)):= by show SS _;rw [FA];exact (foldl_ins _ _ HS.out).1
       have gr: ys.length < ot.length:= by
        have h:= Ml.fold_more HS.out (s:= us.map Fv.f) (by rw [← FA,List.length_map,List.length_map];exact hl)
        rw [← FA,List.length_map,List.length_map] at h;exact h
       have ST9: Hid (∀ o c2,Ml.LstR ⟨hs,ns⟩ (rs.map Rv.r) (ot.map Fv.f) c3 o c2 → Ml.LstR ⟨hs,ns⟩ (rs.map Rv.r) (sortF (zs.map Fv.f)) c o c2):= fun o c2 h => ST.out o c2 (.more HV.out (by rw [hlm];exact h4) (by rw [← HLn,hlm];exact hl) (by rw [HR.out,← FA];exact h))
       clear FA HLn hl hlm
       go_wp2_with fail
       exact ⟨⟨ot,a9,c9,c3,rfl,OF9,EQ9,WQ9,C3,SN,ST9,BT9⟩,by simp;omega⟩
end Go.Proofs.YtpdmmmdkpipmkaaGreatDoor
namespace Go.Proofs.YtpdmmmdkpipmkaaGreatDoor
open Go.ChangeShapes Go.WideShapes Go.ChangeAt Go.RowKit
def Fits (k: K): Prop:= (-9223372036854775808 ≤ k.n ∧ k.n ≤ 9223372036854775807) ∧ k.s.length ≤ 140737488351232
theorem Tryz.cellsB: Tryz.prog.cellsOf 4 = 1:= by kernel_rfl
theorem Tryz.cellsI: Tryz.prog.cellsOf 3 = 1:= by kernel_rfl
theorem Tryz.cellsS: Tryz.prog.cellsOf 9 = 1:= by kernel_rfl
theorem Tryz.cellsK: Tryz.prog.cellsOf 42 = 3:= by kernel_rfl
theorem flat_place {α β: Type} (f: α → List β) (k: Nat) (hk: ∀ x,(f x).length = k) (l: List α) (j: Nat) (u: β) (h: (l.flatMap f)[j]? = some u): ∃ i c,∃ hi: i < l.length,c < k ∧ j = i * k + c ∧ (f l[i])[c]? = some u:= by
 have hj:= (List.getElem?_eq_some_iff.1 h).1
 rw [flat_len f k hk] at hj
 have hk0: 0 < k:= by rcases Nat.eq_zero_or_pos k with rfl | h0;· simp at hj
                      ·exact h0
 have hd:= Nat.div_add_mod' j k
 have hi: j / k < l.length:= Nat.div_lt_of_lt_mul (by rw [Nat.mul_comm];exact hj)
 refine ⟨j / k,j % k,hi,Nat.mod_lt _ hk0,by omega, ?_⟩
 rw [← flat_get f k hk l (j / k) (j % k) hi (Nat.mod_lt _ hk0),hd,h]
theorem three3 {l: List Value} (h: l.length = 3): ∃ a b c,l = [a,b,c]:= by
 match l,h with
 | [a,b,c],_ => exact ⟨a,b,c,rfl⟩
theorem four4 {l: List Value} (h: l.length = 4): ∃ a b c d,l = [a,b,c,d]:= by
 match l,h with
 | [a,b,c,d],_ => exact ⟨a,b,c,d,rfl⟩
theorem Tryz.cellsT: Tryz.prog.cellsOf 44 = 4:= by kernel_rfl
theorem Tryz.cellsTs: Tryz.prog.cellsOf 45 = 1:= by kernel_rfl
theorem Tryz.cellsL: Tryz.prog.cellsOf 52 = 10:= by kernel_rfl
theorem Tryz.cellsLs: Tryz.prog.cellsOf 46 = 1:= by kernel_rfl
theorem Tryz.cellsR: Tryz.prog.cellsOf 48 = 11:= by kernel_rfl
theorem ten {l: List Value} (h: l.length = 10): ∃ a0 a1 a2 a3 a4 a5 a6 a7 a8 a9,l = [a0,a1,a2,a3,a4,a5,a6,a7,a8,a9]:= by
 match l,h with
 | [a0,a1,a2,a3,a4,a5,a6,a7,a8,a9],_ => exact ⟨a0,a1,a2,a3,a4,a5,a6,a7,a8,a9,rfl⟩
theorem eleven {l: List Value} (h: l.length = 11): ∃ a0 a1 a2 a3 a4 a5 a6 a7 a8 a9 b0,l = [a0,a1,a2,a3,a4,a5,a6,a7,a8,a9,b0]:= by
 match l,h with
 | [a0,a1,a2,a3,a4,a5,a6,a7,a8,a9,b0],_ => exact ⟨a0,a1,a2,a3,a4,a5,a6,a7,a8,a9,b0,rfl⟩
theorem trod_struct5 {H: Type} {enc: TypeId × Value → H} {P: Program} {w: World} {base: Nat} {spare: Nat → Bool} {held: Bool} {t: TypeId} {f0 f1 f2 f3 f4: Field} {fuel: Nat} {cs: List Value} {x: DataW H × List MemPlace} (ht: P.underlying t = some (.struct #[f0,f1,f2,f3,f4])) (h: DataW.trod enc P w base spare held fuel t cs = some x):
 ∃ y0 y1 y2 y3 y4 n,x.1 = .agg [y0.1,y1.1,y2.1,y3.1,y4.1] ∧ cs.length = P.cellsOf t ∧ DataW.trod enc P w base spare held n f0.type ((cs.drop f0.offset).take (P.cellsOf f0.type)) = some y0 ∧
  DataW.trod enc P w base spare held n f1.type ((cs.drop f1.offset).take (P.cellsOf f1.type)) = some y1 ∧ DataW.trod enc P w base spare held n f2.type ((cs.drop f2.offset).take (P.cellsOf f2.type)) = some y2 ∧
  DataW.trod enc P w base spare held n f3.type ((cs.drop f3.offset).take (P.cellsOf f3.type)) = some y3 ∧ DataW.trod enc P w base spare held n f4.type ((cs.drop f4.offset).take (P.cellsOf f4.type)) = some y4:= by
 obtain ⟨xs,n,_,rfl,hl,hlen,hf⟩:= DataW.trod_struct ht h
 match xs,hlen with
 | [y0,y1,y2,y3,y4],_ => exact ⟨y0,y1,y2,y3,y4,n,by simp,hl,by simpa using hf 0 f0 rfl,by simpa using hf 1 f1 rfl,by simpa using hf 2 f2 rfl,by simpa using hf 3 f3 rfl,by simpa using hf 4 f4 rfl⟩
theorem Tryz.cellsA: Tryz.prog.cellsOf 35 = 1:= by kernel_rfl
theorem Tryz.cellsF: Tryz.prog.cellsOf 37 = 4:= by kernel_rfl
abbrev dval (n: Int) (x: Fv) (a: Option Addr) (c: Nat) (xs: List Fv): Value:= .agg #[.int .i64 n,str x.at_,str x.by_,str x.pred,.slice x.a x.ks.length x.cap,.slice a xs.length c]
end Go.Proofs.YtpdmmmdkpipmkaaGreatDoor
namespace Go.Proofs.YtpdmmmdkpipmkaaGreatDoor
open Go.ChangeShapes Go.WideShapes Go.ChangeAt Go.RowKit
theorem bulk_mem {H: Type} {l: List (DataW H)} {d: DataW H} (h: d ∈ l): Rows.uptoBulk d ≤ Rows.uptoBulkAll l:= by
 obtain ⟨j,hj⟩:= List.getElem?_of_mem h
 exact bulk_get l j d hj
theorem cells_rowB {α: Type} (D: Kd α) (sl el: TypeId) {H: Type} {enc: TypeId × Value → H} {W: World} (hu: Tryz.prog.underlying sl = some (.slice el)) (hc: Tryz.prog.cellsOf el = D.k) (Q: α → Prop)
 (he: ∀ {fuel: Nat} {cs: List Value} {x: DataW H × List MemPlace},DataW.trod enc Tryz.prog W 0 (fun _ => true) true fuel el cs = some x → Rows.uptoBulk x.1 ≤ 1048576 → ∃ v,cs = D.enc v ∧ Q v)
 {fuel: Nat} {cs: List Value} {x: DataW H × List MemPlace} (h: DataW.trod enc Tryz.prog W 0 (fun _ => true) true fuel sl cs = some x) (hw: Rows.uptoBulk x.1 ≤ 1048576):
 ∃ a c xs,cs = [.slice a (List.length xs) c] ∧ Row D W a c xs ∧ c ≤ maxLen ∧ xs.length ≤ 1048576 ∧ ∀ v ∈ xs,Q v:= by
 rcases Deep.open_slice hu h with ⟨rfl,_⟩ | ⟨ad,len,cap,m,n,Dd,Pl,rfl,_,hl,hm,hmm,rfl,hcl⟩
 ·exact ⟨none,0,[],rfl,Row.nil D W,by simp,by simp,fun _ h => by simp at h⟩
 ·simp only [if_true] at hmm
  replace hmm:= hmm.symm
  subst hmm
  rw [hc] at hcl
  simp only [Rows.uptoBulk] at hw
  have hbig: len ≤ 1048576:= by
   have:= bulk_count ((List.range len).map Dd)
   rw [List.length_map,List.length_range] at this
   omega
  by_cases h0: len = 0
  ·subst h0
   exact ⟨some ad,cap,[],rfl,⟨by simp,by simp,(fun h => by cases h),fun ad' ha j u hu => by simp at hu⟩,hm,by simp,fun _ h => by simp at h⟩
  have hk: ∀ i,i < len → ∃ k: α,W.cells? 0 (ad.add (i * D.k)) D.k = some (D.enc k) ∧ Q k:= fun i hi => by
   obtain ⟨cs',h1,h2⟩:= hcl i (by omega)
   obtain ⟨k,rfl,hq⟩:= he h2 (by
    have:= bulk_mem (l:= (List.range len).map Dd) (d:= Dd i) (List.mem_map.2 ⟨i,List.mem_range.2 hi,rfl⟩)
    show Rows.uptoBulk (Dd i) ≤ 1048576
    omega)
   exact ⟨k,h1,hq⟩
  obtain ⟨dk,_⟩:= hk 0 (by omega)
  have hk': ∀ i,∃ k: α,i < len → W.cells? 0 (ad.add (i * D.k)) D.k = some (D.enc k) ∧ Q k:= fun i => by
   by_cases hi: i < len
   ·obtain ⟨k,h⟩:= hk i hi
    exact ⟨k,fun _ => h⟩
   ·exact ⟨dk,fun h => absurd h hi⟩
  obtain ⟨kf,hkf⟩: ∃ kf: Nat → α,∀ i,i < len → W.cells? 0 (ad.add (i * D.k)) D.k = some (D.enc (kf i)) ∧ Q (kf i):= ⟨fun i => Classical.choose (hk' i),fun i => Classical.choose_spec (hk' i)⟩
  have hlen: ((List.range len).map kf).length = len:= by simp
  refine ⟨some ad,cap,(List.range len).map kf,by rw [hlen],⟨by rw [hlen];exact hl,by rw [hlen];omega,(fun h => by cases h),fun ad' ha j u hu => ?_⟩,hm,by rw [hlen];exact hbig,fun v hv => ?_⟩
  ·cases ha
   obtain ⟨i,c,hi,hc3,rfl,hv⟩:= flat_place D.enc D.k D.len _ j u hu
   rw [hlen] at hi
   have h1:= (World.cells?_some (hkf i hi).1).2.2 c hc3
   rw [Deep.add_add] at h1
   rw [h1]
   simpa using hv
  ·obtain ⟨i,hi,rfl⟩:= List.mem_map.1 hv
   exact (hkf i (List.mem_range.1 hi)).2
theorem cells_textB {H: Type} {enc: TypeId × Value → H} {W: World} {fuel: Nat} {cs: List Value} {x: DataW H × List MemPlace} (h: DataW.trod enc Tryz.prog W 0 (fun _ => true) true fuel 9 cs = some x) (hw: Rows.uptoBulk x.1 ≤ 1048576): ∃ l: List UInt8,cs = [str l] ∧ l.length ≤ 1048576:= by
 obtain ⟨s,e,e',_⟩:= DataW.trod_string Tryz.underlying9 h
 subst e'
 obtain ⟨⟨l⟩⟩:= s
 simp only [Rows.uptoBulk] at hw
 have hw': l.length + 1 ≤ 1048576:= hw
 exact ⟨l,e,by omega⟩
theorem cells_constB {H: Type} {enc: TypeId × Value → H} {W: World} {fuel: Nat} {cs: List Value} {x: DataW H × List MemPlace} (h: DataW.trod enc Tryz.prog W 0 (fun _ => true) true fuel 42 cs = some x) (hw: Rows.uptoBulk x.1 ≤ 1048576): ∃ k: K,cs = kv k ∧ OkK k:= by
 obtain ⟨y0,y1,y2,n,hx,hl,h0,h1,h2⟩:= Deep.trod_struct3 Tryz.underlying42 h
 rw [hx] at hw
 simp only [Rows.uptoBulk,Rows.uptoBulkAll] at hw
 rw [Tryz.cellsK] at hl
 obtain ⟨c0,c1,c2,rfl⟩:= three3 hl
 simp only [Tryz.cellsB,Tryz.cellsI,Tryz.cellsS,List.drop_zero,List.drop_succ_cons,List.take_succ_cons,List.take_zero] at h0 h1 h2
 obtain ⟨b,e0,_⟩:= DataW.trod_bool Tryz.underlying4 h0
 obtain ⟨i,e1,_,hwf⟩:= DataW.trod_int Tryz.underlying3 h1
 obtain ⟨l,e2,hs⟩:= cells_textB h2 (by omega)
 simp only [List.cons.injEq,and_true] at e0 e1 e2
 have hb:= bounds_i64 hwf
 exact ⟨⟨b,i,l⟩,by rw [e0,e1,e2];rfl,hb.1,hb.2,hs⟩
structure TmB (t: Tm): Prop where
 k: OkK t.k
 v: t.v.length ≤ 1048576
theorem cells_termB {H: Type} {enc: TypeId × Value → H} {W: World} {fuel: Nat} {cs: List Value} {x: DataW H × List MemPlace} (h: DataW.trod enc Tryz.prog W 0 (fun _ => true) true fuel 44 cs = some x) (hw: Rows.uptoBulk x.1 ≤ 1048576): ∃ t: Tm,cs = tv t ∧ TmB t:= by
 obtain ⟨y0,y1,n,hx,hl,h0,h1⟩:= trod_struct2 Tryz.underlying44 h
 rw [hx] at hw
 simp only [Rows.uptoBulk,Rows.uptoBulkAll] at hw
 rw [Tryz.cellsT] at hl
 obtain ⟨c0,c1,c2,c3,rfl⟩:= four4 hl
 simp only [Tryz.cellsK,Tryz.cellsS,List.drop_zero,List.drop_succ_cons,List.take_succ_cons,List.take_zero] at h0 h1
 obtain ⟨l,e0,hs⟩:= cells_textB h0 (by omega)
 obtain ⟨k,e1,hk⟩:= cells_constB h1 (by omega)
 simp only [List.cons.injEq,and_true,kv] at e0 e1
 exact ⟨⟨l,k⟩,by rw [e0,e1.1,e1.2.1,e1.2.2];rfl,hk,hs⟩
structure LvB (y: Lv): Prop where
 by_: TmB y.by_
 pred: y.pred.length ≤ 1048576
 args: ∀ t ∈ y.args,TmB t
 at_: TmB y.at_
theorem cells_litB {H: Type} {enc: TypeId × Value → H} {W: World} {fuel: Nat} {cs: List Value} {x: DataW H × List MemPlace} (h: DataW.trod enc Tryz.prog W 0 (fun _ => true) true fuel 52 cs = some x) (hw: Rows.uptoBulk x.1 ≤ 1048576): ∃ v: Lv,cs = lv v ∧ (Lv.Aw W v ∧ LvB v):= by
 obtain ⟨y0,y1,y2,y3,n,rfl,hl,h0,h1,h2,h3⟩:= Joins.trod_struct4 Tryz.underlying52 h
 simp only [Rows.uptoBulk,Rows.uptoBulkAll] at hw
 rw [Tryz.cellsL] at hl
 obtain ⟨a0,a1,a2,a3,a4,a5,a6,a7,a8,a9,rfl⟩:= ten hl
 simp only [Tryz.cellsT,Tryz.cellsTs,Tryz.cellsS,List.drop_zero,List.drop_succ_cons,List.take_succ_cons,List.take_zero] at h0 h1 h2 h3
 obtain ⟨t0,e0,k0⟩:= cells_termB h0 (by omega)
 obtain ⟨l1,e1,g1⟩:= cells_textB h1 (by omega)
 obtain ⟨a,c,ts,e2,hA,_,_,k2⟩:= cells_rowB tK 45 44 Tryz.underlying45 Tryz.cellsT TmB (fun h hw => cells_termB h hw) h2 (by omega)
 obtain ⟨t3,e3,k3⟩:= cells_termB h3 (by omega)
 simp only [List.cons.injEq,and_true,tv] at e0 e1 e2 e3
 exact ⟨⟨t0,l1,a,c,ts,t3⟩,by rw [e0.1,e0.2.1,e0.2.2.1,e0.2.2.2,e1,e2,e3.1,e3.2.1,e3.2.2.1,e3.2.2.2];rfl,hA,⟨k0,g1,k2,k3⟩⟩
structure RvB (x: Rv): Prop where
 home: TmB x.home
 pred: x.pred.length ≤ 1048576
 args: ∀ t ∈ x.args,TmB t
 to_: TmB x.to_
 body: ∀ y ∈ x.body,LvB y
theorem cells_ruleB {H: Type} {enc: TypeId × Value → H} {W: World} {fuel: Nat} {cs: List Value} {x: DataW H × List MemPlace} (h: DataW.trod enc Tryz.prog W 0 (fun _ => true) true fuel 48 cs = some x) (hw: Rows.uptoBulk x.1 ≤ 1048576): ∃ v: Rv,cs = rv v ∧ (Rv.Aw W v ∧ RvB v):= by
 obtain ⟨y0,y1,y2,y3,y4,n,hx,hl,h0,h1,h2,h3,h4⟩:= trod_struct5 Tryz.underlying48 h
 rw [hx] at hw
 simp only [Rows.uptoBulk,Rows.uptoBulkAll] at hw
 rw [Tryz.cellsR] at hl
 obtain ⟨a0,a1,a2,a3,a4,a5,a6,a7,a8,a9,a10,rfl⟩:= eleven hl
 simp only [Tryz.cellsT,Tryz.cellsTs,Tryz.cellsLs,Tryz.cellsS,List.drop_zero,List.drop_succ_cons,List.take_succ_cons,List.take_zero] at h0 h1 h2 h3 h4
 obtain ⟨t0,e0,k0⟩:= cells_termB h0 (by omega)
 obtain ⟨l1,e1,g1⟩:= cells_textB h1 (by omega)
 obtain ⟨a,c,ts,e2,hA,_,_,k2⟩:= cells_rowB tK 45 44 Tryz.underlying45 Tryz.cellsT TmB (fun h hw => cells_termB h hw) h2 (by omega)
 obtain ⟨t3,e3,k3⟩:= cells_termB h3 (by omega)
 obtain ⟨a',c',ls,e4,hL,_,_,k4⟩:= cells_rowB lK 46 52 Tryz.underlying46 Tryz.cellsL (fun v: Lv => Lv.Aw W v ∧ LvB v) (fun h hw => cells_litB h hw) h4 (by omega)
 simp only [List.cons.injEq,and_true,tv] at e0 e1 e2 e3 e4
 exact ⟨⟨t0,l1,a,c,ts,t3,a',c',ls⟩,by rw [e0.1,e0.2.1,e0.2.2.1,e0.2.2.2,e1,e2,e3.1,e3.2.1,e3.2.2.1,e3.2.2.2,e4];rfl,⟨hA,hL,fun l hl => (k4 l hl).1⟩,⟨k0,g1,k2,k3,fun l hl => (k4 l hl).2⟩⟩
structure FvB (f: Fv): Prop where
 at_: f.at_.length ≤ 1048576
 by_: f.by_.length ≤ 1048576
 pred: f.pred.length ≤ 1048576
 ks: ∀ k ∈ f.ks,OkK k
theorem cells_factB {H: Type} {enc: TypeId × Value → H} {W: World} {fuel: Nat} {cs: List Value} {x: DataW H × List MemPlace} (h: DataW.trod enc Tryz.prog W 0 (fun _ => true) true fuel 37 cs = some x) (hw: Rows.uptoBulk x.1 ≤ 1048576): ∃ f: Fv,cs = fv f ∧ (Fv.At W f ∧ FvB f):= by
 obtain ⟨y0,y1,y2,y3,n,rfl,hl,h0,h1,h2,h3⟩:= Joins.trod_struct4 Tryz.underlying37 h
 simp only [Rows.uptoBulk,Rows.uptoBulkAll] at hw
 rw [Tryz.cellsF] at hl
 obtain ⟨c0,c1,c2,c3,rfl⟩:= four4 hl
 simp only [Tryz.cellsA,Tryz.cellsS,List.drop_zero,List.drop_succ_cons,List.take_succ_cons,List.take_zero] at h0 h1 h2 h3
 obtain ⟨l0,e0,g0⟩:= cells_textB h0 (by omega)
 obtain ⟨l1,e1,g1⟩:= cells_textB h1 (by omega)
 obtain ⟨l2,e2,g2⟩:= cells_textB h2 (by omega)
 obtain ⟨a,c,ks,e3,hA,_,_,hk⟩:= cells_rowB kK 35 42 Tryz.underlying35 Tryz.cellsK OkK (fun h hw => cells_constB h hw) h3 (by omega)
 simp only [List.cons.injEq,and_true] at e0 e1 e2 e3
 exact ⟨⟨l0,l1,l2,a,c,ks⟩,by rw [e0,e1,e2,e3];rfl,row_args hA,⟨g0,g1,g2,hk⟩⟩
structure RsB (W: World) (a: Option Addr) (c: Nat) (xs: List Rv): Prop where
 at_: Rws W a c xs
 each: ∀ x ∈ xs,RvB x
structure FsB (W: World) (a: Option Addr) (c: Nat) (xs: List Fv): Prop where
 lies: Lies W a c xs
 at_: ∀ x ∈ xs,Fv.At W x
 each: ∀ x ∈ xs,FvB x
structure TsB (W: World) (a: Option Addr) (c: Nat) (xs: List (List UInt8)): Prop where
 row: Row sK W a c xs
 each: ∀ x ∈ xs,x.length ≤ 1048576
theorem cells_rulesB {H: Type} {enc: TypeId × Value → H} {W: World} {fuel: Nat} {cs: List Value} {x: DataW H × List MemPlace} (h: DataW.trod enc Tryz.prog W 0 (fun _ => true) true fuel 22 cs = some x) (hw: Rows.uptoBulk x.1 ≤ 1048576): ∃ a c xs,cs = [.slice a (List.length xs) c] ∧ RsB W a c xs:= by
 obtain ⟨a,c,xs,h1,h2,_,_,h3⟩:= cells_rowB rK 22 48 Tryz.underlying22 Tryz.cellsR (fun v: Rv => Rv.Aw W v ∧ RvB v) (fun h hw => cells_ruleB h hw) h hw
 exact ⟨a,c,xs,h1,⟨h2,fun x hx => (h3 x hx).1⟩,fun x hx => (h3 x hx).2⟩
theorem cells_factsB {H: Type} {enc: TypeId × Value → H} {W: World} {fuel: Nat} {cs: List Value} {x: DataW H × List MemPlace} (h: DataW.trod enc Tryz.prog W 0 (fun _ => true) true fuel 32 cs = some x) (hw: Rows.uptoBulk x.1 ≤ 1048576): ∃ a c xs,cs = [.slice a (List.length xs) c] ∧ FsB W a c xs:= by
 obtain ⟨a,c,xs,h1,h2,hm,hl,h3⟩:= cells_rowB fK 32 37 Tryz.underlying32 Tryz.cellsF (fun v: Fv => Fv.At W v ∧ FvB v) (fun h hw => cells_factB h hw) h hw
 exact ⟨a,c,xs,h1,⟨h2.room,hm,by omega,h2.void,h2.cells⟩,fun x hx => (h3 x hx).1,fun x hx => (h3 x hx).2⟩
theorem cells_textsB {H: Type} {enc: TypeId × Value → H} {W: World} {fuel: Nat} {cs: List Value} {x: DataW H × List MemPlace} (h: DataW.trod enc Tryz.prog W 0 (fun _ => true) true fuel 53 cs = some x) (hw: Rows.uptoBulk x.1 ≤ 1048576): ∃ a c xs,cs = [.slice a (List.length xs) c] ∧ TsB W a c xs:= by
 obtain ⟨a,c,xs,h1,h2,_,_,h3⟩:= cells_rowB sK 53 9 Tryz.underlying53 Tryz.cellsS (fun l: List UInt8 => l.length ≤ 1048576) (fun h hw => cells_textB h hw) h hw
 exact ⟨a,c,xs,h1,h2,h3⟩
structure CsB (W: World) (ha: Option Addr) (hc: Nat) (hs: List (List UInt8)) (na: Option Addr) (nc: Nat) (ns: List (List UInt8)) (ra: Option Addr) (rc: Nat) (rs: List Rv) (fa: Option Addr) (fc: Nat) (zs: List Fv): Prop where
 homes: TsB W ha hc hs
 names: TsB W na nc ns
 rules: RsB W ra rc rs
 facts: FsB W fa fc zs
theorem open_factsB {H: Type} {enc: TypeId × Value → H} {W: World} {base: Nat} {v: Value} {d: DataW H} {p: List MemPlace} (hw: Rows.uptoBulk d ≤ 1048576) (hv: Value.okWide Tryz.prog W .any base 32 v) (ht: DataW.Trod enc Tryz.prog W 0 (fun _ => true) true 32 v d p): ∃ a c xs,v = .slice a (List.length xs) c ∧ FsB W a c xs:= by
 obtain ⟨a,len,cap,rfl⟩:= okWide_slice Tryz.underlying32 hv
 obtain ⟨fuel,hf⟩:= ht
 obtain ⟨a',c',xs,h1,h2⟩:= cells_factsB hf hw
 simp only [Value.cells,List.cons.injEq,and_true] at h1
 exact ⟨a',c',xs,h1,h2⟩
theorem open_rulesB {H: Type} {enc: TypeId × Value → H} {W: World} {base: Nat} {v: Value} {d: DataW H} {p: List MemPlace} (hw: Rows.uptoBulk d ≤ 1048576) (hv: Value.okWide Tryz.prog W .any base 22 v) (ht: DataW.Trod enc Tryz.prog W 0 (fun _ => true) true 22 v d p): ∃ a c xs,v = .slice a (List.length xs) c ∧ RsB W a c xs:= by
 obtain ⟨a,len,cap,rfl⟩:= okWide_slice Tryz.underlying22 hv
 obtain ⟨fuel,hf⟩:= ht
 obtain ⟨a',c',xs,h1,h2⟩:= cells_rulesB hf hw
 simp only [Value.cells,List.cons.injEq,and_true] at h1
 exact ⟨a',c',xs,h1,h2⟩
end Go.Proofs.YtpdmmmdkpipmkaaGreatDoor
