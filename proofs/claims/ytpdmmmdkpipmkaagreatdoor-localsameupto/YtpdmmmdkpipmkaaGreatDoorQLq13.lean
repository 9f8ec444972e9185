/-
  The program's split: what a rule becomes.
-/
import Derived.Test.YtpdmmmdkpipmkaaGreatDoorQSb13
set_option maxRecDepth 100000
namespace Go.Proofs.YtpdmmmdkpipmkaaGreatDoor
open Go.RowKit Go.Lib Go.Shelf
def TrV (L: List Tm) (v: Value) (X: World): Prop:= ∃ a c,v = .slice a L.length c ∧ RowT tK 44 X a c L
theorem TrV.next {L: List Tm} {v: Value} {X X': World} (h: TrV L v X) (b: Below X.heap.size X X'): TrV L v X':= by
 obtain ⟨a,c,h1,h2⟩:= h
 exact ⟨a,c,h1,h2.safe (Safe.below b)⟩
def LvV (y: Lt) (v: Value) (X: World): Prop:= ∃ z: Lv,v = .agg (lv z).toArray ∧ z.l = y ∧ Lv.At X z
theorem LvV.next {y: Lt} {v: Value} {X X': World} (h: LvV y v X) (b: Below X.heap.size X X'): LvV y v X':= by
 obtain ⟨z,h1,h2,h3⟩:= h
 exact ⟨z,h1,h2,h3.safe (Safe.below b)⟩
def RvV (r: Ru) (v: Value) (X: World): Prop:= ∃ z: Rv,v = .agg (rv z).toArray ∧ z.r = r ∧ Rv.Ao 0 X z
theorem RvV.next {r: Ru} {v: Value} {X X': World} (h: RvV r v X) (b: Below X.heap.size X X'): RvV r v X':= by
 obtain ⟨z,h1,h2,h3⟩:= h
 exact ⟨z,h1,h2,h3.safe (Kq.below b (Nat.zero_le _))⟩
def BxV (B: Nat) (v: Value) (X: World): Prop:= ∃ U,v = .pointer (some ⟨U,0,none⟩) ∧ B ≤ U ∧ ∃ C: Array Value,C.size = 10 ∧ X.heap[U]? = some (.cells C 52)
def LsV (y z: Lt) (v: Value) (X: World): Prop:= ∃ (a: Option Addr) (y' z': Lv),v = .slice a 2 2 ∧ RowT lK 52 X a 2 [y',z'] ∧ y'.l = y ∧ z'.l = z ∧ Lv.At X y' ∧ Lv.At X z'
theorem LsV.next {y z: Lt} {v: Value} {X X': World} (h: LsV y z v X) (b: Below X.heap.size X X'): LsV y z v X':= by
 obtain ⟨a,y',z',h1,h2,h3,h4,h5,h6⟩:= h
 exact ⟨a,y',z',h1,h2.safe (Safe.below b),h3,h4,h5.safe (Safe.below b),h6.safe (Safe.below b)⟩
theorem ask_at (i k: Nat) (w: World) (hL: Laid w) (hi: i ≤ 1000000) (hk: k ≤ 1000000): Calls Tryz.prog 45 #[.string { data:= #[97,115,107] },.int .i64 (i: Int),.int .i64 (k: Int)] w fun e w' => e = .returned (str (Lc.askN i k)) ∧ Below w.heap.size w w':= relay_at [97,115,107] i k w hL (by decide) hi hk
theorem tell_at (i k: Nat) (w: World) (hL: Laid w) (hi: i ≤ 1000000) (hk: k ≤ 1000000): Calls Tryz.prog 45 #[.string { data:= #[116,101,108,108] },.int .i64 (i: Int),.int .i64 (k: Int)] w fun e w' => e = .returned (str (Lc.tellN i k)) ∧ Below w.heap.size w w':= relay_at [116,101,108,108] i k w hL (by decide) hi hk
theorem Lv.At.ao {X: World} {z: Lv} (h: Lv.At X z): Lv.Ao 0 X z:= RowT.o h 0
set_option maxHeartbeats 4000000 in
theorem split_at (x: Rv) (i: Nat) (w: World) (hL: Laid w) (hx: Rv.Aw w x) (hv: Ck.Vok x.r) (hi: i ≤ 1000000) (hargs: x.args.length ≤ 1000000):
 Calls Tryz.prog 27 #[rval x,.int .i64 (i: Int)] w fun e w' => ∃ a c ys,e = .returned (.slice a (List.length ys) c) ∧ Row rK w' a c ys ∧ (∀ y ∈ ys,Rv.Ao 0 w' y) ∧ ys.map Rv.r = Lc.one i x.r ∧ Below w.heap.size w w':= by
 have iT: (Tryz.prog.info? 44).map (·.size) = some 4:= by kernel_rfl
 have iL: (Tryz.prog.info? 52).map (·.size) = some 10:= by kernel_rfl
 have iR: (Tryz.prog.info? 48).map (·.size) = some 11:= by kernel_rfl
 have hrl: x.r.body.length = x.body.length:= List.length_map ..
 have hbf: x.body.length ≤ 300:= by have:= hv.few;rwa [hrl] at this
 have A0:= below_alloc w (.cells (rv x).toArray 48)
 have H0:= heap_alloc_new w (.cells (rv x).toArray 48)
 have s0: (w.alloc (.cells (rv x).toArray 48)).heap.size = w.heap.size + 1:= World.size_alloc ..
 have c10:= (rule_parts10 H0).2.2.2.2.2.2
 have I0: SpI 0 (w.heap.size + 1) w.heap.size w x i 0 [] [] (.slice none 0 0) (.slice none 0 0) (w.alloc (.cells (rv x).toArray 48)) (w.alloc (.cells (rv x).toArray 48)):=
  ⟨World.ownsRow_nil _ _ _ _,World.ownsRow_nil _ _ _ _,Kq.refl _ _,⟨Nat.zero_le _,Nat.le_refl _,Nat.lt_succ_self _,Nat.le_of_eq s0.symm⟩,Nat.le_refl _,(fun _ h => by cases h),(fun _ h => by cases h),Lc.Way.start _ _,A0,H0,by simp⟩
 have TV:= hideP (fun (k: Nat) W (h: Below w.heap.size w W) => variables_at x k W (hx.below h (Nat.le_refl _)) hv)
 have HX:= hideP hx
 have HLd:= hideP hL
 have HV:= hideP hv
 clear hx hL hv
 go_enter Tryz.func27,Tryz.ntmps27
 go_wp2_with fail
 have eW: w.alloc (.cells #[str x.home.v,.bool x.home.k.num,.int .i64 x.home.k.n,str x.home.k.s,str x.pred,.slice x.a x.args.length x.cap,str x.to_.v,.bool x.to_.k.num,.int .i64 x.to_.k.n,str x.to_.k.s,.slice x.ba x.body.length x.bcap] 48) = w.alloc (.cells (rv x).toArray 48):= rfl
 simp only [eW]
 generalize w.alloc (.cells (rv x).toArray 48) = W0 at *
 clear eW A0 s0 c10 H0
 go_loopw [5,6,7,8,9,10,11,15] (fun v5 v6 _ _ _ _ _ v15 wr => ∃ (k: Nat) (ys: List Rv) (ls: List Lv) (w1: World),v15 = .int .i64 (k: Int) ∧ k ≤ x.body.length ∧ SpI 0 (w.heap.size + 1) w.heap.size w x i k ys ls v5 v6 w1 wr) (fun _ _ _ _ _ _ _ v15 _ => x.body.length - (RowKit.intOf v15).toNat)
 case atStart => exact ⟨0,[],[],W0,rfl,Nat.zero_le _,I0⟩
 case round =>
  clear I0
  obtain ⟨k,ys,ls,w1,rfl,hk,I⟩:= hrel
  obtain ⟨ln1,ln2⟩:= I.len
  obtain ⟨a6,c6,rfl,R6,_⟩:= own_row (D:= lK) I.rea (by omega)
  obtain ⟨a5,c5,rfl,R5,_⟩:= own_row (D:= rK) I.all (by omega)
  clear R5
  by_cases hlt: k < x.body.length
  ·have q: (k: Int) < (x.body.length: Int):= by omega
   have hkr: k < x.r.body.length:= by omega
   have hyr: x.r.body[k] = (x.body[k]'hlt).l:= by simp [Rv.r]
   obtain ⟨P1,O1,hP⟩:= HX.out.body.addr (Nat.lt_of_le_of_lt (Nat.zero_le _) hlt)
   have r1: wr.rangeAt P1 (O1 + k * 10) (lv (x.body[k]'hlt)):= by
    have:= HX.out.body.below I.bel (Nat.le_refl _)
    rw [hP] at this
    exact this.range k hlt
   have aY:= hideP (fun W (h: Below w.heap.size w W) => Lv.Aw.below (HX.out.each _ (List.getElem_mem hlt)) h (Nat.le_refl _))
   have VE:= HV.out.each _ (List.getElem_mem hkr)
   rw [hyr] at VE
   rw [hP]
   generalize hgy: (x.body[k]'hlt) = y at *
   change y.args.length ≤ 300 at VE
   clear hgy
   have iP: (Tryz.prog.info? 52).map (·.size) = some (lv y).length:= iL
   go_upto_region 6 with (first
    | (refine wpList_load_mid rfl 52 _ rfl P1 (O1 + k * 10) rfl (lv y) _ r1 Tryz.underlying52 rfl iP ?_)
    | (refine wpList_store_all rfl 52 _ _ rfl wr.heap.size 10 _ 52 (lv y) rfl rfl (heap_alloc_new wr _) rfl rfl iL rfl ?_;intro w2 H2 d2;have b2:= below_tok d2))
   have I2:= I.next b2
   have r2:= (rule_parts10 I2.box).1
   have R62:= R6.safe (Safe.below b2)
   generalize hU: wr.heap.size = U at *
   clear r1 d2 b2 I R6 hU
   go_wp2_with (first
    | (refine wpList_load_all rfl 52 _ rfl U 10 52 (lv y) _ rfl H2 rfl Tryz.underlying52 rfl iL ?_)
    | (refine wpList_load_mid rfl 44 _ rfl w.heap.size 0 rfl (tv x.home) _ r2 Tryz.underlying44 rfl iT ?_))
   refine (isRemote_at y x.home w2).mono ?_
   rintro e w3 ⟨rfl,b3⟩
   have I3:= I2.next b3
   have H3:= below_heap b3 H2
   have R63:= R62.safe (Safe.below b3)
   clear I2 H2 r2 b3 R62
   have hrm: Lc.rem x.r y.l = (!Lc.eqT y.at_ t0 && !Lc.eqT y.at_ x.home):= rfl
   have HRM:= hideP hrm
   clear hrm
   generalize (!Lc.eqT y.at_ t0 && !Lc.eqT y.at_ x.home) = q3 at *
   cases q3 with
   | false =>
    go_wp2_with (refine wpList_load_all rfl 52 _ rfl U 10 52 (lv y) _ rfl H3 rfl Tryz.underlying52 rfl iL ?_)
    refine (here_at y w3 (aY.out w3 I3.bel) (by omega)).mono ?_
    rintro e w4 ⟨⟨a4,c4,rfl,R4⟩,b4⟩
    have I4:= I3.next b4
    clear I3 H3 b4 R63
    have A5:= below_alloc w4 (.cells (lv ⟨y.by_,y.pred,a4,c4,y.args,t0⟩).toArray 52)
    have I5:= I4.next A5
    have RL: Row lK (w4.alloc (.cells (lv ⟨y.by_,y.pred,a4,c4,y.args,t0⟩).toArray 52)) (some ⟨w4.heap.size,0,none⟩) 1 [⟨y.by_,y.pred,a4,c4,y.args,t0⟩]:= row_new lK w4 _ _ _ rfl
    have R5:= R4.safe (Safe.below A5: Safe 44 _ _)
    go_wp2_with (first | (refine wpList_build_one rfl 46 52 _ rfl (lv ⟨y.by_,y.pred,a4,c4,y.args,t0⟩) _ 10 136 rfl rfl (by decide) (by decide) Tryz.underlying46 Tryz.iLk13 ?_) | (at_builtin;refine wpList_append_rec lK _ rfl _ _ 46 52 rfl _ 136 Tryz.underlying46 Tryz.iLk13 rfl (by decide) w1.heap.size (.slice a6 ls.length c6) ls [⟨y.by_,y.pred,a4,c4,y.args,t0⟩] (some ⟨w4.heap.size,0,none⟩) 1 1 rfl I5.rea rfl rfl RL I5.s1 (by simp only [List.length_cons,List.length_nil];omega) ?_;intro v6 w6 O6 g6))
    exact ⟨⟨k + 1,ys,ls ++ [⟨y.by_,y.pred,a4,c4,y.args,t0⟩],w1,by go_num,by omega,I5.here hkr (by rw [hyr];exact HRM.out) ⟨y.by_,y.pred,a4,c4,y.args,t0⟩ (by rw [hyr];rfl) (show RowO tK 0 44 _ a4 c4 y.args from RowT.o R5 0) O6 g6⟩,by simp [RowKit.intOf];omega⟩
   | true =>
    go_wp2_with fail
    refine (ask_at i k w3 (HLd.out.below I3.bel) hi (by omega)).mono ?_
    rintro e w4 ⟨rfl,b4⟩
    have I4:= I3.next b4
    have H4:= below_heap b4 H3
    have R64:= R63.safe (Safe.below b4)
    go_wp2_with fail
    refine (tell_at i k w4 (HLd.out.below I4.bel) hi (by omega)).mono ?_
    rintro e w5 ⟨rfl,b5⟩
    have I5:= (I4.next b5).next (Below.refl w5.heap.size w5).drew
    have H5:= below_heap (Below.refl w5.heap.size w5).drew (below_heap b5 H4)
    have R65:= (R64.safe (Safe.below b5)).safe (Safe.below (Below.refl w5.heap.size w5).drew: Safe 52 _ _)
    clear I3 H3 b4 I4 H4 b5 R63 R64
    go_wp2_with fail
    refine wp_region_held (S:= fun X => Below w5.drew.heap.size w5.drew X) (by kernel_rfl) ?_
    change wpAnyH _ _ _ _ _ _ _ _ w5.drew
    generalize w5.drew = W at *
    have hHeld:= Below.refl W.heap.size W
    refine wpAnyH_take (i:= 0) (v:= .pointer (some ⟨w.heap.size,0,none⟩)) rfl (by kernel_rfl) (by kernel_rfl) (by kernel_rfl) (fun _ _ _ h => h) (Or.inl ⟨by kernel_rfl,fun w hSw => by kernel_rfl⟩) hHeld ?_
    refine wpAnyH_take (i:= 1) (v:= .agg (tv x.home).toArray) rfl (by kernel_rfl) (by kernel_rfl) (by kernel_rfl) (fun _ _ _ h => h) (yieldsIf_load_mid (by kernel_rfl) 44 _ rfl w.heap.size 0 (tv x.home) _ (by kernel_rfl) Tryz.underlying44 rfl iT (fun X hS => (rule_parts10 (below_heap hS I5.box)).1)) hHeld ?_
    refine wpAnyH_take (i:= 2) (v:= str (Lc.askN i k)) rfl (by kernel_rfl) (by kernel_rfl) (by kernel_rfl) (fun _ _ _ h => h) (Or.inl ⟨by kernel_rfl,fun w hSw => by kernel_rfl⟩) hHeld ?_
    refine wpAnyH_take (i:= 3) (v:= .agg (rv x).toArray) rfl (by kernel_rfl) (by kernel_rfl) (by kernel_rfl) (fun _ _ _ h => h) (yieldsIf_load_mid (by kernel_rfl) 48 _ rfl w.heap.size 0 (rv x) _ (by kernel_rfl) Tryz.underlying48 rfl iR (fun X hS => World.rangeAt_of_block (below_heap hS I5.box) 0 11)) hHeld ?_
    refine wpAnyH_take (i:= 4) (v:= .int .i64 (k: Int)) rfl (by kernel_rfl) (by kernel_rfl) (by kernel_rfl) (fun _ _ _ h => h) (Or.inl ⟨by kernel_rfl,fun w hSw => by kernel_rfl⟩) hHeld ?_
    refine Sb.each (fun _ X X' => Below X.heap.size X X') (fun _ _ => true) (fun X => Below W.heap.size W X) (fun _ X X' h b => Below.then h b) [5,6,7] (fun | 5 => 41 | 6 => 42 | _ => 11) (fun | 6 => [5] | _ => []) (fun | 5 => TrV (Lc.vts (Ck.bnd x.r k)) | 6 => LvV (Lc.askL i x.r k) | _ => BxV W.heap.size) 1 _ _ (by kernel_rfl) (by kernel_rfl) (by kernel_rfl) ?st ?op ?fin W hHeld hHeld
    case st =>
     intro j _ v X X' _ hR hb
     match j with
     | 5 => exact hR.next hb
     | 6 => exact hR.next hb
     | 0 | 1 | 2 | 3 | 4 | _ + 7 => obtain ⟨U',h1,h0,C,h2,h3⟩:= hR;exact ⟨U',h1,h0,C,h2,below_heap hb h3⟩
    case op =>
     intro j hj o ho g X hS _ hdone
     simp only [List.mem_cons,List.not_mem_nil,or_false] at hj
     rcases hj with rfl | rfl | rfl
     ·obtain rfl:= Option.some.inj ho
      refine Sb.call (f:= 46) (args:= #[rval x,.int .i64 (k: Int)]) (R:= fun v X' => TrV (Lc.vts (Ck.bnd x.r k)) v X' ∧ Below X.heap.size X X') (by kernel_rfl) ((TV.out k X (I5.bel.trans (hS.mono I5.bel.size))).mono fun e X' ⟨⟨a,c,h1,h2⟩,b⟩ => ⟨_,h1,⟨a,c,rfl,h2⟩,b⟩) ?_
      rintro v X' ⟨h1,h2⟩
      exact ⟨v,rfl,Below.then hS h2,h2,h1⟩
     ·obtain rfl:= Option.some.inj ho
      obtain ⟨a,c,hg,Rg⟩:= hdone 5 (List.mem_cons_self ..) (fun _ _ _ _ => rfl)
      simp only [List.foldl_cons,List.foldl_nil]
      rw [hg]
      refine Sb.val (.agg (lv ⟨x.home,Lc.askN i k,a,c,Lc.vts (Ck.bnd x.r k),t0⟩).toArray) (w':= X) (by kernel_rfl) ?_
      exact ⟨_,rfl,hS,Below.refl _ _,⟨x.home,Lc.askN i k,a,c,Lc.vts (Ck.bnd x.r k),t0⟩,rfl,rfl,Rg⟩
     ·obtain rfl:= Option.some.inj ho
      refine Sb.val (.pointer (some ⟨X.heap.size,0,none⟩)) (w':= X.alloc (.cells #[.string { data:= #[] },.bool false,.int .i64 0,.string { data:= #[] },.string { data:= #[] },.slice none 0 0,.string { data:= #[] },.bool false,.int .i64 0,.string { data:= #[] }] 52)) (by kernel_rfl) ?_
      exact ⟨_,rfl,Below.then hS (below_alloc _ _),below_alloc _ _,X.heap.size,rfl,hS.size,_,rfl,heap_alloc_new _ _⟩
    case fin =>
     intro g X hS _ hg
     obtain ⟨z,hz,hzl,hza⟩:= hg 6 (by decide) (fun _ _ _ => rfl)
     obtain ⟨T,hT,hTW,C,hC,HT⟩:= hg 7 (by decide) (fun _ _ _ => rfl)
     have nT: U ≠ T:= by have:= heap_lt H5;omega
     simp only [List.foldl_cons,List.foldl_nil]
     rw [hz,hT]
     generalize g 5 = g5
     clear hg hz hT g
     refine wpAnyH_one 8 (by kernel_rfl) ?_
     refine wpOp_store_all rfl rfl 52 _ _ rfl T 10 C 52 (lv z) (by kernel_rfl) (by kernel_rfl) HT hC rfl iL rfl ?_
     intro w6 G6 d6
     have B6: Below W.heap.size W w6:= hS.trans (d6.lower hTW hS.size)
     refine ⟨B6, ?_⟩
     refine wpAnyH_done (by kernel_rfl) ?_ _
     simp only [Act.put,List.getElem_toArray,List.getElem_cons_succ,List.getElem_cons_zero,List.setIfInBounds_toArray,List.set_cons_zero,List.set_cons_succ]
     have I6:= (I5.next B6).next (Below.refl w6.heap.size w6).drew
     have H6:= below_heap (Below.refl w6.heap.size w6).drew (below_heap B6 H5)
     have R66:= (R65.safe (Safe.below B6)).safe (Safe.below (Below.refl w6.heap.size w6).drew: Safe 52 _ _)
     have Z6:= (hza.safe (Safe.but d6 HT (by decide))).safe (Safe.below (Below.refl w6.heap.size w6).drew)
     have G6d:= below_heap (Below.refl w6.heap.size w6).drew G6
     clear I5 H5 R65 hHeld hS d6 B6 G6 HT hza hC hTW
     go_wp2_with fail
     have OB:= I6.box
     have hS0: (fun X => Below w.heap.size w X ∧ X.heap[w.heap.size]? = some (.cells (rv x).toArray 48) ∧ X.heap[U]? = some (.cells (lv y).toArray 52) ∧ X.heap[T]? = some (.cells (lv z).toArray 52)) w6.drew:= ⟨I6.bel,OB,H6,G6d⟩
     refine wp_region_held (S:= fun X => Below w.heap.size w X ∧ X.heap[w.heap.size]? = some (.cells (rv x).toArray 48) ∧ X.heap[U]? = some (.cells (lv y).toArray 52) ∧ X.heap[T]? = some (.cells (lv z).toArray 52)) (by kernel_rfl) ?_
     change wpAnyH _ _ _ _ _ _ _ _ w6.drew
     generalize w6.drew = W2 at *
     refine wpAnyH_take (i:= 0) (v:= .slice a5 ys.length c5) rfl (by kernel_rfl) (by kernel_rfl) (by kernel_rfl) (fun _ _ _ h => h) (Or.inl ⟨by kernel_rfl,fun w hSw => by kernel_rfl⟩) hS0 ?_
     refine wpAnyH_take (i:= 1) (v:= .pointer (some ⟨w.heap.size,0,none⟩)) rfl (by kernel_rfl) (by kernel_rfl) (by kernel_rfl) (fun _ _ _ h => h) (Or.inl ⟨by kernel_rfl,fun w hSw => by kernel_rfl⟩) hS0 ?_
     refine wpAnyH_take (i:= 2) (v:= .agg (tv x.home).toArray) rfl (by kernel_rfl) (by kernel_rfl) (by kernel_rfl) (fun _ _ _ h => h) (yieldsIf_load_mid (by kernel_rfl) 44 _ rfl w.heap.size 0 (tv x.home) _ (by kernel_rfl) Tryz.underlying44 rfl iT (fun X hS => (rule_parts10 hS.2.1).1)) hS0 ?_
     refine wpAnyH_take (i:= 3) (v:= str (Lc.askN i k)) rfl (by kernel_rfl) (by kernel_rfl) (by kernel_rfl) (fun _ _ _ h => h) (Or.inl ⟨by kernel_rfl,fun w hSw => by kernel_rfl⟩) hS0 ?_
     refine wpAnyH_take (i:= 4) (v:= .agg (rv x).toArray) rfl (by kernel_rfl) (by kernel_rfl) (by kernel_rfl) (fun _ _ _ h => h) (yieldsIf_load_mid (by kernel_rfl) 48 _ rfl w.heap.size 0 (rv x) _ (by kernel_rfl) Tryz.underlying48 rfl iR (fun X hS => World.rangeAt_of_block hS.2.1 0 11)) hS0 ?_
     refine wpAnyH_take (i:= 5) (v:= .int .i64 (k: Int)) rfl (by kernel_rfl) (by kernel_rfl) (by kernel_rfl) (fun _ _ _ h => h) (Or.inl ⟨by kernel_rfl,fun w hSw => by kernel_rfl⟩) hS0 ?_
     refine wpAnyH_take (i:= 7) (v:= .pointer (some ⟨U,6,none⟩)) rfl (by kernel_rfl) (by kernel_rfl) (by kernel_rfl) (fun _ _ _ h => h) (Or.inl ⟨by kernel_rfl,fun w hSw => by kernel_rfl⟩) hS0 ?_
     refine wpAnyH_take (i:= 8) (v:= .agg (tv y.at_).toArray) rfl (by kernel_rfl) (by kernel_rfl) (by kernel_rfl) (fun _ _ _ h => h) (yieldsIf_load_mid (by kernel_rfl) 44 _ rfl U 6 (tv y.at_) _ (by kernel_rfl) Tryz.underlying44 rfl iT (fun X hS => (lit_parts10 hS.2.2.1).2.1)) hS0 ?_
     refine wpAnyH_take (i:= 9) (v:= .slice a6 ls.length c6) rfl (by kernel_rfl) (by kernel_rfl) (by kernel_rfl) (fun _ _ _ h => h) (Or.inl ⟨by kernel_rfl,fun w hSw => by kernel_rfl⟩) hS0 ?_
     refine wpAnyH_take (i:= 11) (v:= .pointer (some ⟨U,6,none⟩)) rfl (by kernel_rfl) (by kernel_rfl) (by kernel_rfl) (fun _ _ _ h => h) (Or.inl ⟨by kernel_rfl,fun w hSw => by kernel_rfl⟩) hS0 ?_
     refine wpAnyH_take (i:= 12) (v:= .agg (tv y.at_).toArray) rfl (by kernel_rfl) (by kernel_rfl) (by kernel_rfl) (fun _ _ _ h => h) (yieldsIf_load_mid (by kernel_rfl) 44 _ rfl U 6 (tv y.at_) _ (by kernel_rfl) Tryz.underlying44 rfl iT (fun X hS => (lit_parts10 hS.2.2.1).2.1)) hS0 ?_
     refine wpAnyH_take (i:= 13) (v:= str (Lc.tellN i k)) rfl (by kernel_rfl) (by kernel_rfl) (by kernel_rfl) (fun _ _ _ h => h) (Or.inl ⟨by kernel_rfl,fun w hSw => by kernel_rfl⟩) hS0 ?_
     refine wpAnyH_take (i:= 14) (v:= .agg (rv x).toArray) rfl (by kernel_rfl) (by kernel_rfl) (by kernel_rfl) (fun _ _ _ h => h) (yieldsIf_load_mid (by kernel_rfl) 48 _ rfl w.heap.size 0 (rv x) _ (by kernel_rfl) Tryz.underlying48 rfl iR (fun X hS => World.rangeAt_of_block hS.2.1 0 11)) hS0 ?_
     refine wpAnyH_take (i:= 15) (v:= .int .i64 (k: Int)) rfl (by kernel_rfl) (by kernel_rfl) (by kernel_rfl) (fun _ _ _ h => h) (Or.inl ⟨by kernel_rfl,fun w hSw => by kernel_rfl⟩) hS0 ?_
     refine wpAnyH_take (i:= 16) (v:= .int .i64 ((k + 1: Nat): Int)) rfl (by kernel_rfl) (by kernel_rfl) (by kernel_rfl) (fun _ _ _ h => h) (Or.inl ⟨by kernel_rfl,fun w hSw => by go_simp;rw [IntKind.wrap_i64];omega⟩) hS0 ?_
     refine wpAnyH_take (i:= 18) (v:= .pointer (some ⟨w.heap.size,0,none⟩)) rfl (by kernel_rfl) (by kernel_rfl) (by kernel_rfl) (fun _ _ _ h => h) (Or.inl ⟨by kernel_rfl,fun w hSw => by kernel_rfl⟩) hS0 ?_
     refine wpAnyH_take (i:= 19) (v:= .agg (tv x.home).toArray) rfl (by kernel_rfl) (by kernel_rfl) (by kernel_rfl) (fun _ _ _ h => h) (yieldsIf_load_mid (by kernel_rfl) 44 _ rfl w.heap.size 0 (tv x.home) _ (by kernel_rfl) Tryz.underlying44 rfl iT (fun X hS => (rule_parts10 hS.2.1).1)) hS0 ?_
     refine wpAnyH_take (i:= 20) (v:= .agg (lv z).toArray) rfl (by kernel_rfl) (by kernel_rfl) (by kernel_rfl) (fun _ _ _ h => h) (yieldsIf_load_mid (by kernel_rfl) 52 _ rfl T 0 (lv z) _ (by kernel_rfl) Tryz.underlying52 rfl iL (fun X hS => World.rangeAt_of_block hS.2.2.2 0 10)) hS0 ?_
     refine wpAnyH_take (i:= 21) (v:= .agg (lv y).toArray) rfl (by kernel_rfl) (by kernel_rfl) (by kernel_rfl) (fun _ _ _ h => h) (yieldsIf_load_mid (by kernel_rfl) 52 _ rfl U 0 (lv y) _ (by kernel_rfl) Tryz.underlying52 rfl iL (fun X hS => World.rangeAt_of_block hS.2.2.1 0 10)) hS0 ?_
     have SX: ∀ X X',(Below w.heap.size w X ∧ X.heap[w.heap.size]? = some (.cells (rv x).toArray 48) ∧ X.heap[U]? = some (.cells (lv y).toArray 52) ∧ X.heap[T]? = some (.cells (lv z).toArray 52)) → Below X.heap.size X X' → (Below w.heap.size w X' ∧ X'.heap[w.heap.size]? = some (.cells (rv x).toArray 48) ∧ X'.heap[U]? = some (.cells (lv y).toArray 52) ∧ X'.heap[T]? = some (.cells (lv z).toArray 52)):= fun X X' h b => ⟨h.1.trans (b.mono h.1.size),below_heap b h.2.1,below_heap b h.2.2.1,below_heap b h.2.2.2⟩
     refine Sb.each (fun _ X X' => Below X.heap.size X X') (fun _ _ => true) (fun X => Below W2.heap.size W2 X) (fun _ X X' h b => Below.then h b) [6,10,17,22,23,24] (fun | 6 => 49 | 10 => 53 | 17 => 60 | 22 => 65 | 23 => 66 | _ => 67) (fun | 10 => [6] | 23 => [22] | 24 => [17,23] | _ => []) (fun | 6 => TrV (Lc.vts (Ck.bnd x.r k)) | 10 => RvV (Lc.askR i x.r k y.l (ls.map Lv.l)) | 17 => TrV (Lc.vts (Ck.bnd x.r (k + 1))) | 22 => LvV (Lc.noAt y.l) | 23 => LsV (Lc.askL i x.r k) (Lc.noAt y.l) | _ => RvV (Lc.tellR i x.r k y.l)) 3 _ _ (by kernel_rfl) (by kernel_rfl) (by kernel_rfl) ?st ?op ?fin W2 hS0 (Below.refl _ _)
     case st =>
      intro j _ v X X' _ hR hb
      revert hR
      split
      all_goals exact fun hR => hR.next hb
     case op =>
      intro j hj o ho g X hS hG hdone
      simp only [List.mem_cons,List.not_mem_nil,or_false] at hj
      rcases hj with rfl | rfl | rfl | rfl | rfl | rfl
      ·obtain rfl:= Option.some.inj ho
       refine Sb.call (f:= 46) (args:= #[rval x,.int .i64 (k: Int)]) (R:= fun v X' => TrV (Lc.vts (Ck.bnd x.r k)) v X' ∧ Below X.heap.size X X') (by kernel_rfl) ((TV.out k X hS.1).mono fun e X' ⟨⟨a,c,h1,h2⟩,b⟩ => ⟨_,h1,⟨a,c,rfl,h2⟩,b⟩) ?_
       rintro v X' ⟨h1,h2⟩
       exact ⟨v,rfl,SX X X' hS h2,h2,h1⟩
      ·obtain rfl:= Option.some.inj ho
       obtain ⟨a,c,hg,Rg⟩:= hdone 6 (List.mem_cons_self ..) (fun _ _ _ _ => rfl)
       simp only [List.foldl_cons,List.foldl_nil]
       rw [hg]
       refine Sb.val (.agg (rv ⟨x.home,Lc.askN i k,a,c,Lc.vts (Ck.bnd x.r k),y.at_,a6,c6,ls⟩).toArray) (w':= X) (by kernel_rfl) ?_
       have KX:= Kq.below hG (Nat.zero_le _)
       exact ⟨_,rfl,hS,Below.refl _ _,⟨x.home,Lc.askN i k,a,c,Lc.vts (Ck.bnd x.r k),y.at_,a6,c6,ls⟩,rfl,rfl,Rg.o 0,(R66.safe KX.lt).o 0,fun l hl => (I6.lits l hl).safe KX.low KX.tm⟩
      ·obtain rfl:= Option.some.inj ho
       refine Sb.call (f:= 46) (args:= #[rval x,.int .i64 ((k + 1: Nat): Int)]) (R:= fun v X' => TrV (Lc.vts (Ck.bnd x.r (k + 1))) v X' ∧ Below X.heap.size X X') (by kernel_rfl) ((TV.out (k + 1) X hS.1).mono fun e X' ⟨⟨a,c,h1,h2⟩,b⟩ => ⟨_,h1,⟨a,c,rfl,h2⟩,b⟩) ?_
       rintro v X' ⟨h1,h2⟩
       exact ⟨v,rfl,SX X X' hS h2,h2,h1⟩
      ·obtain rfl:= Option.some.inj ho
       refine Sb.call (f:= 44) (args:= #[lval y]) (R:= fun v X' => LvV (Lc.noAt y.l) v X' ∧ Below X.heap.size X X') (by kernel_rfl) ((here_at y X (aY.out X hS.1) (by omega)).mono fun e X' ⟨⟨a,c,h1,h2⟩,b⟩ => ⟨_,h1,⟨⟨y.by_,y.pred,a,c,y.args,t0⟩,rfl,rfl,h2⟩,b⟩) ?_
       rintro v X' ⟨h1,h2⟩
       exact ⟨v,rfl,SX X X' hS h2,h2,h1⟩
      ·obtain rfl:= Option.some.inj ho
       obtain ⟨z',hg,hzl',hza'⟩:= hdone 22 (List.mem_cons_self ..) (fun _ _ _ _ => rfl)
       simp only [List.foldl_cons,List.foldl_nil]
       rw [hg]
       have A:= below_alloc X (.cells (lv z ++ lv z').toArray 52)
       have ZX:= (Z6.safe (Safe.below hG)).safe (Safe.below A)
       refine owp_build_two 46 52 _ _ rfl (lv z) (lv z') _ 10 136 (by kernel_rfl) (by kernel_rfl) rfl rfl (by decide) (by decide) Tryz.underlying46 Tryz.iLk13 ?_
       exact ⟨_,rfl,SX X _ hS A,A,some ⟨X.heap.size,0,none⟩,z,z',rfl,⟨row_two lK X _ _ z z' rfl,fun ad ha => by cases ha;exact ⟨_,heap_alloc_new _ _⟩⟩,hzl,hzl',ZX,hza'.safe (Safe.below A)⟩
      ·obtain rfl:= Option.some.inj ho
       obtain ⟨a,c,hg,Rg⟩:= hdone 17 (List.mem_cons_self ..) (fun _ _ _ _ => rfl)
       obtain ⟨ab,y1,y2,hg2,Rb,e1,e2,t1,t2⟩:= hdone 23 (List.mem_cons_of_mem _ (List.mem_cons_self ..)) (fun _ _ _ _ => rfl)
       simp only [List.foldl_cons,List.foldl_nil]
       rw [hg,hg2]
       refine Sb.val (.agg (rv ⟨y.at_,Lc.tellN i k,a,c,Lc.vts (Ck.bnd x.r (k + 1)),x.home,ab,2,[y1,y2]⟩).toArray) (w':= X) (by kernel_rfl) ?_
       exact ⟨_,rfl,hS,Below.refl _ _,⟨y.at_,Lc.tellN i k,a,c,Lc.vts (Ck.bnd x.r (k + 1)),x.home,ab,2,[y1,y2]⟩,rfl,by simp only [Rv.r,List.map_cons,List.map_nil,e1,e2];rfl,Rg.o 0,Rb.o 0,fun l hl => by
        rcases List.mem_cons.1 hl with rfl | hl
        ·exact t1.ao
        ·rw [List.mem_singleton.1 hl];exact t2.ao⟩
     case fin =>
      intro g X hS hG hg
      obtain ⟨z1,hz1,e1,t1⟩:= hg 10 (by decide) (fun _ _ _ => rfl)
      obtain ⟨z2,hz2,e2,t2⟩:= hg 24 (by decide) (fun _ _ _ => rfl)
      simp only [List.foldl_cons,List.foldl_nil]
      rw [hz1,hz2]
      generalize g 6 = g6
      generalize g 17 = g17
      generalize g 22 = g22
      generalize g 23 = g23
      clear hg hz1 hz2 g
      have I7:= I6.next hG
      have A7:= below_alloc X (.cells (rv z1 ++ rv z2).toArray 48)
      have I8:= I7.next A7
      have S8:= SX X _ hS A7
      have R8: Row rK (X.alloc (.cells (rv z1 ++ rv z2).toArray 48)) (some ⟨X.heap.size,0,none⟩) 2 [z1,z2]:= row_two rK X _ _ z1 z2 rfl
      have t1':= t1.safe (Kq.below A7 (Nat.zero_le _))
      have t2':= t2.safe (Kq.below A7 (Nat.zero_le _))
      refine wpAnyH_one 25 (by kernel_rfl) ?_
      refine wpOp_build_two rfl rfl 22 48 _ _ rfl (rv z1) (rv z2) _ 11 160 (by kernel_rfl) (by kernel_rfl) rfl rfl (by decide) (by decide) Tryz.underlying22 Tryz.iRk13 ?_
      refine ⟨S8, ?_⟩
      generalize X.alloc (.cells (rv z1 ++ rv z2).toArray 48) = X8 at *
      refine wpAnyH_one 26 (by kernel_rfl) ?_
      refine wpOp_append_recN rK rfl rfl _ _ 22 48 rfl _ 160 Tryz.underlying22 Tryz.iRk13 rfl (w.heap.size + 1) (.slice a5 ys.length c5) ys [z1,z2] (some ⟨X.heap.size,0,none⟩) 2 2 (by kernel_rfl) I8.all (by kernel_rfl) rfl R8 (Nat.le_trans I8.mB.2.2.2 I8.s1) (by simp only [List.length_cons,List.length_nil];omega) (by simp only [List.length_cons,List.length_nil];omega) ?_
      intro v9 w9 O9 g9
      have hrm: Lc.rem x.r x.r.body[k] = true:= by rw [hyr];exact HRM.out
      have J9:= I8.two hkr hrm z1 z2 (by rw [hyr];exact e1) (by rw [hyr];exact e2) t1' t2' O9 g9
      have S9: Below w.heap.size w w9 ∧ w9.heap[w.heap.size]? = some (.cells (rv x).toArray 48) ∧ w9.heap[U]? = some (.cells (lv y).toArray 52) ∧ w9.heap[T]? = some (.cells (lv z).toArray 52):= ⟨J9.bel,J9.box,Safe.grown I8.all g9 (by decide) _ _ S8.2.2.1,Safe.grown I8.all g9 (by decide) _ _ S8.2.2.2⟩
      refine ⟨S9, ?_⟩
      refine wpAnyH_take (i:= 27) (v:= v9) rfl (by kernel_rfl) (by kernel_rfl) (by kernel_rfl) (fun _ _ _ h => h) (Or.inl ⟨by kernel_rfl,fun w hSw => by kernel_rfl⟩) S9 ?_
      refine wpAnyH_done (by kernel_rfl) ?_ _
      simp only [Act.put,List.getElem_toArray,List.getElem_cons_succ,List.getElem_cons_zero,List.setIfInBounds_toArray,List.set_cons_zero,List.set_cons_succ]
      have HU9:= S9.2.2.1
      clear I6 I7 I8 S8 R8 t1 t2 t1' t2' e1 e2 A7 S9 SX hS hG hS0 OB H6 R66 Z6 G6d O9 g9
      go_wp2_with fail
      refine wp_region_held (S:= fun X => Below w9.drew.heap.size w9.drew X) (by kernel_rfl) ?_
      change wpAnyH _ _ _ _ _ _ _ _ w9.drew
      have J10:= J9.next (Below.refl w9.heap.size w9).drew
      have HU10:= below_heap (Below.refl w9.heap.size w9).drew HU9
      clear J9 HU9
      generalize w9.drew = W3 at *
      have hHeld:= Below.refl W3.heap.size W3
      refine wpAnyH_take (i:= 0) (v:= .pointer (some ⟨U,6,none⟩)) rfl (by kernel_rfl) (by kernel_rfl) (by kernel_rfl) (fun _ _ _ h => h) (Or.inl ⟨by kernel_rfl,fun w hSw => by kernel_rfl⟩) hHeld ?_
      refine wpAnyH_take (i:= 1) (v:= .agg (tv y.at_).toArray) rfl (by kernel_rfl) (by kernel_rfl) (by kernel_rfl) (fun _ _ _ h => h) (yieldsIf_load_mid (by kernel_rfl) 44 _ rfl U 6 (tv y.at_) _ (by kernel_rfl) Tryz.underlying44 rfl iT (fun X hS => (lit_parts10 (below_heap hS HU10)).2.1)) hHeld ?_
      refine wpAnyH_take (i:= 2) (v:= str (Lc.tellN i k)) rfl (by kernel_rfl) (by kernel_rfl) (by kernel_rfl) (fun _ _ _ h => h) (Or.inl ⟨by kernel_rfl,fun w hSw => by kernel_rfl⟩) hHeld ?_
      refine wpAnyH_take (i:= 3) (v:= .agg (rv x).toArray) rfl (by kernel_rfl) (by kernel_rfl) (by kernel_rfl) (fun _ _ _ h => h) (yieldsIf_load_mid (by kernel_rfl) 48 _ rfl w.heap.size 0 (rv x) _ (by kernel_rfl) Tryz.underlying48 rfl iR (fun X hS => World.rangeAt_of_block (below_heap hS J10.box) 0 11)) hHeld ?_
      refine wpAnyH_take (i:= 4) (v:= .int .i64 (k: Int)) rfl (by kernel_rfl) (by kernel_rfl) (by kernel_rfl) (fun _ _ _ h => h) (Or.inl ⟨by kernel_rfl,fun w hSw => by kernel_rfl⟩) hHeld ?_
      refine wpAnyH_take (i:= 5) (v:= .int .i64 ((k + 1: Nat): Int)) rfl (by kernel_rfl) (by kernel_rfl) (by kernel_rfl) (fun _ _ _ h => h) (Or.inl ⟨by kernel_rfl,fun w hSw => by go_simp;rw [IntKind.wrap_i64];omega⟩) hHeld ?_
      refine wpAnyH_one 6 (by kernel_rfl) ?_
      refine wpOp_call rfl rfl (f:= 46) (args:= #[rval x,.int .i64 ((k + 1: Nat): Int)]) (R:= fun v X' => TrV (Lc.vts (Ck.bnd x.r (k + 1))) v X' ∧ Below W3.heap.size W3 X') (by kernel_rfl) ((TV.out (k + 1) W3 J10.bel).mono fun e X' ⟨⟨a,c,h1,h2⟩,b⟩ => ⟨_,h1,⟨a,c,rfl,h2⟩,b⟩) ?_
      rintro _ w11 ⟨⟨a11,c11,rfl,R11⟩,b11⟩
      refine ⟨b11, ?_⟩
      have J11:= J10.next b11
      refine wpAnyH_take (i:= 7) (v:= .agg (lv ⟨y.at_,Lc.tellN i k,a11,c11,Lc.vts (Ck.bnd x.r (k + 1)),t0⟩).toArray) rfl (by kernel_rfl) (by kernel_rfl) (by kernel_rfl) (fun _ _ _ h => h) (Or.inl ⟨by kernel_rfl,fun w hSw => by kernel_rfl⟩) b11 ?_
      refine wpAnyH_one 8 (by kernel_rfl) ?_
      refine wpOp_build_one rfl rfl 46 52 _ rfl (lv ⟨y.at_,Lc.tellN i k,a11,c11,Lc.vts (Ck.bnd x.r (k + 1)),t0⟩) _ 10 136 (by kernel_rfl) rfl (by decide) (by decide) Tryz.underlying46 Tryz.iLk13 ?_
      have K12:= J11.fin ⟨y.at_,Lc.tellN i k,a11,c11,Lc.vts (Ck.bnd x.r (k + 1)),t0⟩ (by rw [hyr];rfl) (show RowO tK 0 44 _ a11 c11 _ from RowT.o R11 0)
      have b12:= Below.then b11 (below_alloc w11 (.cells (lv ⟨y.at_,Lc.tellN i k,a11,c11,Lc.vts (Ck.bnd x.r (k + 1)),t0⟩).toArray 52))
      refine ⟨b12, ?_⟩
      refine wpAnyH_take (i:= 9) (v:= .slice (some ⟨w11.heap.size,0,none⟩) 1 1) rfl (by kernel_rfl) (by kernel_rfl) (by kernel_rfl) (fun _ _ _ h => h) (Or.inl ⟨by kernel_rfl,fun w hSw => by kernel_rfl⟩) b12 ?_
      refine wpAnyH_done (by kernel_rfl) ?_ _
      simp only [Act.put,List.getElem_toArray,List.getElem_cons_succ,List.getElem_cons_zero,List.setIfInBounds_toArray,List.set_cons_zero,List.set_cons_succ]
      clear J10 J11 HU10 hHeld b11 b12 R11
      go_wp2_with fail
      exact ⟨⟨k + 1,ys ++ [z1,z2],[⟨y.at_,Lc.tellN i k,a11,c11,Lc.vts (Ck.bnd x.r (k + 1)),t0⟩],w11,by go_num,by omega,K12⟩,by simp [RowKit.intOf];omega⟩
  ·have q: ¬ (k: Int) < (x.body.length: Int):= by omega
   go_wp2_with fail
   refine wp_region_held (S:= fun X => Below w.heap.size w X ∧ X.heap[w.heap.size]? = some (.cells (rv x).toArray 48)) (by kernel_rfl) ?_
   change wpAnyH _ _ _ _ _ _ _ _ wr.drew
   have I2:= I.next (Below.refl wr.heap.size wr).drew
   have R62:= R6.safe (Safe.below (Below.refl wr.heap.size wr).drew: Safe 52 _ _)
   clear I R6
   generalize wr.drew = W at *
   have hHeld: Below w.heap.size w W ∧ W.heap[w.heap.size]? = some (.cells (rv x).toArray 48):= ⟨I2.bel,I2.box⟩
   refine wpAnyH_take (i:= 0) (v:= .slice a5 ys.length c5) rfl (by kernel_rfl) (by kernel_rfl) (by kernel_rfl) (fun _ _ _ h => h) (Or.inl ⟨by kernel_rfl,fun w hSw => by kernel_rfl⟩) hHeld ?_
   refine wpAnyH_take (i:= 1) (v:= .pointer (some ⟨w.heap.size,0,none⟩)) rfl (by kernel_rfl) (by kernel_rfl) (by kernel_rfl) (fun _ _ _ h => h) (Or.inl ⟨by kernel_rfl,fun w hSw => by kernel_rfl⟩) hHeld ?_
   refine wpAnyH_take (i:= 2) (v:= .agg (tv x.home).toArray) rfl (by kernel_rfl) (by kernel_rfl) (by kernel_rfl) (fun _ _ _ h => h) (yieldsIf_load_mid (by kernel_rfl) 44 _ rfl w.heap.size 0 (tv x.home) _ (by kernel_rfl) Tryz.underlying44 rfl iT (fun X hS => (rule_parts10 hS.2).1)) hHeld ?_
   refine wpAnyH_take (i:= 3) (v:= .pointer (some ⟨w.heap.size,4,none⟩)) rfl (by kernel_rfl) (by kernel_rfl) (by kernel_rfl) (fun _ _ _ h => h) (Or.inl ⟨by kernel_rfl,fun w hSw => by kernel_rfl⟩) hHeld ?_
   refine wpAnyH_take (i:= 4) (v:= str x.pred) rfl (by kernel_rfl) (by kernel_rfl) (by kernel_rfl) (fun _ _ _ h => h) (yieldsIf_load_cel (by kernel_rfl) 9 _ rfl w.heap.size 4 (str x.pred) (by kernel_rfl) Tryz.isAgg9 (fun X hS => (rule_parts10 hS.2).2.2.2.1)) hHeld ?_
   refine wpAnyH_take (i:= 5) (v:= .pointer (some ⟨w.heap.size,5,none⟩)) rfl (by kernel_rfl) (by kernel_rfl) (by kernel_rfl) (fun _ _ _ h => h) (Or.inl ⟨by kernel_rfl,fun w hSw => by kernel_rfl⟩) hHeld ?_
   refine wpAnyH_take (i:= 6) (v:= .slice x.a x.args.length x.cap) rfl (by kernel_rfl) (by kernel_rfl) (by kernel_rfl) (fun _ _ _ h => h) (yieldsIf_load_cel (by kernel_rfl) 45 _ rfl w.heap.size 5 (.slice x.a x.args.length x.cap) (by kernel_rfl) Tryz.isAgg45 (fun X hS => (rule_parts10 hS.2).2.2.2.2.1)) hHeld ?_
   refine wpAnyH_take (i:= 8) (v:= .pointer (some ⟨w.heap.size,6,none⟩)) rfl (by kernel_rfl) (by kernel_rfl) (by kernel_rfl) (fun _ _ _ h => h) (Or.inl ⟨by kernel_rfl,fun w hSw => by kernel_rfl⟩) hHeld ?_
   refine wpAnyH_take (i:= 9) (v:= .agg (tv x.to_).toArray) rfl (by kernel_rfl) (by kernel_rfl) (by kernel_rfl) (fun _ _ _ h => h) (yieldsIf_load_mid (by kernel_rfl) 44 _ rfl w.heap.size 6 (tv x.to_) _ (by kernel_rfl) Tryz.underlying44 rfl iT (fun X hS => (rule_parts10 hS.2).2.1)) hHeld ?_
   refine wpAnyH_take (i:= 10) (v:= .slice a6 ls.length c6) rfl (by kernel_rfl) (by kernel_rfl) (by kernel_rfl) (fun _ _ _ h => h) (Or.inl ⟨by kernel_rfl,fun w hSw => by kernel_rfl⟩) hHeld ?_
   refine wpAnyH_one 7 (by kernel_rfl) ?_
   refine wpOp_call rfl rfl (f:= 47) (args:= #[.slice x.a x.args.length x.cap]) (R:= fun v X' => TrV x.args v X' ∧ Below W.heap.size W X') (by kernel_rfl) ((cloneT_at x.a x.cap x.args W (HX.out.args.below I2.bel (Nat.le_refl _)) hargs).mono fun e X' ⟨⟨a,c,h1,h2⟩,b⟩ => ⟨_,h1,⟨a,c,rfl,h2⟩,b⟩) ?_
   rintro _ w3 ⟨⟨a3,c3,rfl,R3⟩,b3⟩
   have I3:= I2.next b3
   have R63:= R62.safe (Safe.below b3)
   refine ⟨⟨I3.bel,I3.box⟩, ?_⟩
   refine wpAnyH_take (i:= 11) (v:= .agg (rv ⟨x.home,x.pred,a3,c3,x.args,x.to_,a6,c6,ls⟩).toArray) rfl (by kernel_rfl) (by kernel_rfl) (by kernel_rfl) (fun _ _ _ h => h) (Or.inl ⟨by kernel_rfl,fun w hSw => by kernel_rfl⟩) ⟨I3.bel,I3.box⟩ ?_
   have A4:= below_alloc w3 (.cells (rv ⟨x.home,x.pred,a3,c3,x.args,x.to_,a6,c6,ls⟩).toArray 48)
   have I4:= I3.next A4
   have R4: Row rK (w3.alloc (.cells (rv ⟨x.home,x.pred,a3,c3,x.args,x.to_,a6,c6,ls⟩).toArray 48)) (some ⟨w3.heap.size,0,none⟩) 1 [⟨x.home,x.pred,a3,c3,x.args,x.to_,a6,c6,ls⟩]:= row_new rK w3 _ _ _ rfl
   have AO: Rv.Ao 0 (w3.alloc (.cells (rv ⟨x.home,x.pred,a3,c3,x.args,x.to_,a6,c6,ls⟩).toArray 48)) ⟨x.home,x.pred,a3,c3,x.args,x.to_,a6,c6,ls⟩:= ⟨(R3.safe (Safe.below A4)).o 0,(R63.safe (Safe.below A4)).o 0,I4.lits⟩
   refine wpAnyH_one 12 (by kernel_rfl) ?_
   refine wpOp_build_one rfl rfl 22 48 _ rfl (rv ⟨x.home,x.pred,a3,c3,x.args,x.to_,a6,c6,ls⟩) _ 11 160 (by kernel_rfl) rfl (by decide) (by decide) Tryz.underlying22 Tryz.iRk13 ?_
   refine ⟨⟨I4.bel,I4.box⟩, ?_⟩
   generalize w3.alloc (.cells (rv ⟨x.home,x.pred,a3,c3,x.args,x.to_,a6,c6,ls⟩).toArray 48) = w4 at *
   refine wpAnyH_one 13 (by kernel_rfl) ?_
   refine wpOp_append_recN rK rfl rfl _ _ 22 48 rfl _ 160 Tryz.underlying22 Tryz.iRk13 rfl (w.heap.size + 1) (.slice a5 ys.length c5) ys [⟨x.home,x.pred,a3,c3,x.args,x.to_,a6,c6,ls⟩] (some ⟨w3.heap.size,0,none⟩) 1 1 (by kernel_rfl) I4.all (by kernel_rfl) rfl R4 (Nat.le_trans I4.mB.2.2.2 I4.s1) (by simp only [List.length_cons,List.length_nil];omega) (by simp only [List.length_cons,List.length_nil];omega) ?_
   intro v5 w5 O5 g5
   obtain ⟨a7,c7,rfl,RR,AA,EE,BB⟩:= I4.last (by omega) ⟨x.home,x.pred,a3,c3,x.args,x.to_,a6,c6,ls⟩ rfl AO O5 g5 (by omega)
   have H5: w5.heap[w.heap.size]? = some (.cells (rv x).toArray 48):= by rw [(own_below I4.all g5 (Nat.le_trans I4.mB.2.2.2 I4.s1)).block _ (Nat.lt_succ_self _)];exact I4.box
   refine ⟨⟨BB,H5⟩, ?_⟩
   refine wpAnyH_take (i:= 14) (v:= .slice a7 (ys ++ [(⟨x.home,x.pred,a3,c3,x.args,x.to_,a6,c6,ls⟩: Rv)]).length c7) rfl (by kernel_rfl) (by kernel_rfl) (by kernel_rfl) (fun _ _ _ h => h) (Or.inl ⟨by kernel_rfl,fun w hSw => by kernel_rfl⟩) ⟨BB,H5⟩ ?_
   refine wpAnyH_done (by kernel_rfl) ?_ _
   simp only [Act.put,List.getElem_toArray,List.getElem_cons_succ,List.getElem_cons_zero,List.setIfInBounds_toArray,List.set_cons_zero,List.set_cons_succ]
   go_wp2_with fail
   go_ret
   exact ⟨a7,c7,_,rfl,RR,AA,EE,BB⟩
end Go.Proofs.YtpdmmmdkpipmkaaGreatDoor
