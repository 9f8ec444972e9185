/-
  The program's Bound and Vars: which variables are bound.
-/
import Derived.Test.YtpdmmmdkpipmkaaGreatDoorQVb
import Derived.Test.YtpdmmmdkpipmkaaGreatDoorQCd
set_option maxRecDepth 100000
set_option maxHeartbeats 1000000
namespace Go.Proofs.YtpdmmmdkpipmkaaGreatDoor
open Go.RowKit Go.Lib Go.Shelf
theorem enter_add (args: Array Value) (w: World): (callFunc 132 args).run Tryz.prog w = .ok (.enter 132 args) w:= enters_of Tryz.func132 (by kernel_rfl) rfl args w
theorem Addr.add_zero' (a: Option Addr): a.map (·.add 0) = a:= by
 cases a with
 | none => rfl
 | some ad => obtain ⟨b,o,s⟩:= ad;cases s <;> simp [Addr.add]
theorem slice_hi (T: TypeId) (k: Nat) (w: World) (a: Option Addr) (n c m: Nat) (hu: Tryz.prog.underlying T = some (.slice (Tryz.prog.elem T))) (hs: (sizeOf (Tryz.prog.elem T)).run Tryz.prog w = .ok k w) (hm: m ≤ c):
 (Instr.sliceAt T (.slice a n c) none (some (.int .i64 (m: Int))) none).run Tryz.prog w = .ok (.slice a m c) w:= by
 rw [run_sliceAt_slice (h:= hu),run_slice_h (ht:= hu) (h0:= by omega) (h2:= by omega),hs]
 simp only [Result.andThen_ok,sliced,Nat.zero_mul,Int.toNat_natCast,Nat.sub_zero]
 rw [Addr.add_zero',ite_self]
theorem bound_at (x: Rv) (k: Int) (w: World) (hx: Rv.Aw w x) (hv: Ck.Vok x.r):
 Calls Tryz.prog 79 #[rval x,.int .i64 k] w fun e w' => (∃ a c,e = .returned (.slice a (Ck.bnd x.r k.toNat).length c) ∧ Row sK w' a c (Ck.bnd x.r k.toNat)) ∧ Below w.heap.size w w':= by
 have hE:= enter_add
 have iT: (Tryz.prog.info? 44).map (·.size) = some 4:= by kernel_rfl
 have iL: (Tryz.prog.info? 52).map (·.size) = some 10:= by kernel_rfl
 have hrl: x.r.body.length = x.body.length:= List.length_map ..
 have HB:= hideP (Ck.bnd_min x.r k.toNat)
 rw [hrl] at HB
 have hbf: x.body.length ≤ 300:= by have:= hv.few;rwa [hrl] at this
 have hfew:= hx.body.few
 have hroom:= hx.body.room
 obtain ⟨M,hM⟩: ∃ M: Nat,min k.toNat x.body.length = M:= ⟨_,rfl⟩
 rw [hM] at HB
 have hMn: M ≤ x.body.length:= by omega
 obtain ⟨m0,hm0⟩: ∃ m0: Nat,m0 = k.toNat:= ⟨_,rfl⟩
 have hmx: ∀ (W: World) ts ty,(Builtin.max_ ts ty #[.int .i64 k,.int .i64 0]).run Tryz.prog W = .ok (.int .i64 (m0: Int)) W:= fun W ts ty => by
  rw [run_max_int2];congr 2;rw [hm0];split <;> omega
 have hmn: ∀ (W: World) ts ty,(Builtin.min_ ts ty #[.int .i64 (m0: Int),.int .i64 (x.body.length: Int)]).run Tryz.prog W = .ok (.int .i64 (M: Int)) W:= fun W ts ty => by
  rw [run_min_int2];congr 2;rw [hm0,← hM];split <;> omega
 clear hM hrl hm0
 have HS:= fun W => slice_hi 46 10 W x.ba x.body.length x.bcap M (by kernel_rfl) (by kernel_rfl) (by omega)
 have LEN:= hideP (fun j => Ck.bnd_len hv j)
 have VH:= hideP hv.home
 have hmm':= fun W => (show (Instr.makeMap 178 none).run Tryz.prog W = .ok (.map (some W.heap.size)) (W.alloc (.map #[] 0)) from rfl)
 have hc: (rv x).toArray = #[str x.home.v,.bool x.home.k.num,.int .i64 x.home.k.n,str x.home.k.s,str x.pred,.slice x.a x.args.length x.cap,str x.to_.v,.bool x.to_.k.num,.int .i64 x.to_.k.n,str x.to_.k.s,.slice x.ba x.body.length x.bcap]:= rfl
 have H0:= heap_alloc_new w (.cells #[str x.home.v,.bool x.home.k.num,.int .i64 x.home.k.n,str x.home.k.s,str x.pred,.slice x.a x.args.length x.cap,str x.to_.v,.bool x.to_.k.num,.int .i64 x.to_.k.n,str x.to_.k.s,.slice x.ba x.body.length x.bcap] 48)
 have A0:= below_alloc w (.cells #[str x.home.v,.bool x.home.k.num,.int .i64 x.home.k.n,str x.home.k.s,str x.pred,.slice x.a x.args.length x.cap,str x.to_.v,.bool x.to_.k.num,.int .i64 x.to_.k.n,str x.to_.k.s,.slice x.ba x.body.length x.bcap] 48)
 have Z0: (w.alloc (.cells #[str x.home.v,.bool x.home.k.num,.int .i64 x.home.k.n,str x.home.k.s,str x.pred,.slice x.a x.args.length x.cap,str x.to_.v,.bool x.to_.k.num,.int .i64 x.to_.k.n,str x.to_.k.s,.slice x.ba x.body.length x.bcap] 48)).heap.size = w.heap.size + 1:= World.size_alloc ..
 generalize hW0: w.alloc (.cells #[str x.home.v,.bool x.home.k.num,.int .i64 x.home.k.n,str x.home.k.s,str x.pred,.slice x.a x.args.length x.cap,str x.to_.v,.bool x.to_.k.num,.int .i64 x.to_.k.n,str x.to_.k.s,.slice x.ba x.body.length x.bcap] 48) = W0 at H0 A0 Z0
 have A1:= below_alloc W0 (.cells #[.slice none 0 0] 53)
 have H1:= heap_alloc_new W0 (.cells #[.slice none 0 0] 53)
 have A2:= below_alloc (W0.alloc (.cells #[.slice none 0 0] 53)) (.map #[] 0)
 have S2:= seen_new (W0.alloc (.cells #[.slice none 0 0] 53))
 have A3:= below_alloc ((W0.alloc (.cells #[.slice none 0 0] 53)).alloc (.map #[] 0)) (.cells #[.map none] 178)
 have H3:= heap_alloc_new ((W0.alloc (.cells #[.slice none 0 0] 53)).alloc (.map #[] 0)) (.cells #[.map none] 178)
 simp only [World.size_alloc,Z0] at H1 H3 S2
 subst hW0
 go_enter Tryz.func79,Tryz.ntmps79
 go_upto_region 4 with (refine wpList_store_cel rfl 178 _ _ rfl (w.heap.size + 1 + 1 + 1) 0 1 178 (.map (some (w.heap.size + 1 + 1))) #[.map (some (w.heap.size + 1 + 1))] rfl rfl H3 rfl (by decide) (by kernel_rfl) rfl rfl ?_;intro w4 h4 t4)
 have A03:= Below.then (Below.then A0 A1) (Below.then A2 A3)
 have l4: w4.heap[w.heap.size + 1]? = some (.cells #[.slice none 0 0] 53):= t4.heap (by omega) (below_heap (Below.then A2 A3) H1)
 have H4:= t4.heap (k:= w.heap.size) (by omega) (below_heap (Below.then A1 (Below.then A2 A3)) H0)
 have S4: SeenAt w4 (w.heap.size + 1 + 1) []:= (S2.below A3 S2.lt).block (t4.block _ (by have:= (S2.below A3 S2.lt).lt;exact this) (by omega))
 have D4: AddAt w.heap.size w4 (w.heap.size + 1 + 1 + 1) (w.heap.size + 1) (w.heap.size + 1 + 1) []:= ⟨h4,⟨_,l4,World.ownsRow_nil _ _ _ _⟩,S4,by omega,by omega,by omega⟩
 have B4: Below w.heap.size w w4:= A03.trans (t4.lower (by omega) A03.size)
 clear A0 A1 A2 A3 A03 H0 H1 H3 S2 t4 l4 h4 S4 Z0
 generalize hbs: w.heap.size + 1 + 1 + 1 = bs at *
 generalize hbm: w.heap.size + 1 + 1 = bm at *
 generalize hbl: w.heap.size + 1 = bl at *
 clear hbs hbm hbl
 have r4:= (rule_parts10 (x:= x) H4).1
 go_wp2_with (refine wpList_load_mid rfl 44 _ rfl w.heap.size 0 rfl (tv x.home) _ r4 Tryz.underlying44 rfl iT ?_)
 refine (add_at x.home w.heap.size bs bl bm [] w4 D4 VH.out (by simp)).mono ?_
 rintro e w5 ⟨rfl,D5,b5,K5⟩
 have H5:= K5 48 (by decide) (by decide) (by decide) _ _ H4
 have B5:= B4.trans b5
 have c5:= (rule_parts10 (x:= x) H5).2.2.2.2.2.2
 have D5': AddAt w.heap.size w5 bs bl bm (Ck.bnd x.r 0):= D5
 clear H4 D4 B4 b5 K5 r4 H5 D5
 have hrow:= (hx.body.take M)
 have hlen: (x.body.take M).length = M:= by rw [List.length_take];omega
 go_wp2_with fail
 go_loopw [9,11,28] (fun _ _ v28 wr => ∃ j: Nat,v28 = .int .i64 (j: Int) ∧ j ≤ M ∧ AddAt w.heap.size wr bs bl bm (Ck.bnd x.r j) ∧ Below w.heap.size w wr) (fun _ _ v28 _ => M - (RowKit.intOf v28).toNat)
 case atStart => exact ⟨0,rfl,by omega,D5',B5⟩
 case round =>
  obtain ⟨j,rfl,hj,D,B⟩:= hrel
  by_cases hlt: j < M
  ·have q: (j: Int) < (M: Int):= by omega
   have hjb: j < x.body.length:= by omega
   obtain ⟨P1,O1,hP⟩:= hx.body.addr (Nat.lt_of_le_of_lt (Nat.zero_le _) hjb)
   have r1: wr.rangeAt P1 (O1 + j * 10) (lv (x.body[j]'hjb)):= by
    have:= hx.body.below B (Nat.le_refl _)
    rw [hP] at this
    exact this.range j hjb
   have aY:= hx.each _ (List.getElem_mem hjb)
   have hjr: j < x.r.body.length:= by show j < (x.body.map Lv.l).length;rw [List.length_map];exact hjb
   have hyr: x.r.body[j] = (x.body[j]'hjb).l:= by simp [Rv.r]
   have SU:= hideP (Ck.bnd_succ (r:= x.r) hjr)
   rw [hyr] at SU
   have VB:= hideP (hv.body _ (List.getElem_mem hjr))
   rw [hyr] at VB
   have VE:= hv.each _ (List.getElem_mem hjr)
   rw [hyr] at VE
   have LJ:= LEN.out j
   rw [hP]
   generalize (x.body[j]'hjb) = y at *
   change y.args.length ≤ 300 at VE
   have iP: (Tryz.prog.info? 52).map (·.size) = some (lv y).length:= iL
   generalize Ck.bnd x.r j = L at *
   clear hjr hyr
   go_upto_region 8 with (first
    | (refine wpList_load_mid rfl 52 _ rfl P1 (O1 + j * 10) rfl (lv y) _ r1 Tryz.underlying52 rfl iP ?_)
    | (refine wpList_store_all rfl 52 _ _ rfl wr.heap.size 10 _ 52 (lv y) rfl rfl (heap_alloc_new wr _) rfl rfl iL rfl ?_;intro w2 H2 d2;have B2:= below_tok d2))
   have D2:= D.next B2
   have E2:= B.trans (B2.mono B.size)
   have p2:= lit_parts10 H2
   have p20:= p2.1
   generalize hV: wr.heap.size = V at *
   clear r1 D d2 B2 p2
   go_wp2_with (refine wpList_load_mid rfl 44 _ rfl V 0 rfl (tv y.by_) _ p20 Tryz.underlying44 rfl iT ?_)
   refine (add_at y.by_ w.heap.size bs bl bm L w2 D2 VB.out.1 (by omega)).mono ?_
   rintro e w3 ⟨rfl,D3,b3,K3⟩
   have H3:= K3 52 (by decide) (by decide) (by decide) _ _ H2
   have E3:= E2.trans b3
   have c3:= (lit_parts10 H3).2.2.2.1
   have L3:= Ck.wv_len L y.by_
   clear H2 D2 b3 K3 p20 E2
   go_wp2_with fail
   go_loopw [11,39] (fun _ v39 wi => ∃ i: Nat,v39 = .int .i64 (i: Int) ∧ i ≤ y.args.length ∧ AddAt w.heap.size wi bs bl bm ((y.args.take i).foldl Ck.wv (Ck.wv L y.by_)) ∧ Below w.heap.size w wi ∧ wi.heap[V]? = some (.cells (lv y).toArray 52)) (fun _ v39 _ => y.args.length - (RowKit.intOf v39).toNat)
   case atStart => exact ⟨0,rfl,by omega,D3,E3,H3⟩
   case round =>
    obtain ⟨i,rfl,hi,D4,E4,H4⟩:= hrel
    by_cases hil: i < y.args.length
    ·have q2: (i: Int) < (y.args.length: Int):= by omega
     obtain ⟨P2,O2,hP2⟩:= Row.addr (show Row tK w y.a y.cap y.args from aY) (Nat.lt_of_le_of_lt (Nat.zero_le _) hil)
     have r4: wr.rangeAt P2 (O2 + i * 4) (tv (y.args[i]'hil)):= by
      have:= Row.below (show Row tK w y.a y.cap y.args from aY) E4 (Nat.le_refl _)
      rw [hP2] at this
      exact this.range i hil
     have VT:= hideP (VB.out.2.1 _ (List.getElem_mem hil))
     have ST: Hid ((y.args.take (i + 1)).foldl Ck.wv (Ck.wv L y.by_) = Ck.wv ((y.args.take i).foldl Ck.wv (Ck.wv L y.by_)) (y.args[i]'hil)):= by
      show _ = _
      rw [List.take_succ_eq_append_getElem hil,List.foldl_append];rfl
     have L4:= Ck.fold_len (y.args.take i) (Ck.wv L y.by_)
     rw [List.length_take] at L4
     rw [hP2]
     generalize (y.args[i]'hil) = t at *
     generalize (y.args.take i).foldl Ck.wv (Ck.wv L y.by_) = L' at *
     have iQ: (Tryz.prog.info? 44).map (·.size) = some (tv t).length:= iT
     go_upto_region 12 with (first
      | (refine wpList_load_mid rfl 44 _ rfl P2 (O2 + i * 4) rfl (tv t) _ r4 Tryz.underlying44 rfl iQ ?_)
      | (refine wpList_store_all rfl 44 _ _ rfl wr.heap.size 4 _ 44 (tv t) rfl rfl (heap_alloc_new wr _) rfl rfl iT rfl ?_;intro w6 H6 d6;have B6:= below_tok d6))
     have D6:= D4.next B6
     have E6:= E4.trans (B6.mono E4.size)
     have G6:= below_heap B6 H4
     go_wp2_with (refine wpList_load_all rfl 44 _ rfl wr.heap.size 4 44 (tv t) _ rfl H6 rfl Tryz.underlying44 rfl iT ?_)
     refine (add_at t w.heap.size bs bl bm L' w6 D6 VT.out (by omega)).mono ?_
     rintro e w7 ⟨rfl,D7,b7,K7⟩
     go_wp2_with fail
     exact ⟨⟨i + 1,by go_num,by omega,by rw [ST.out];exact D7,E6.trans b7,K7 52 (by decide) (by decide) (by decide) _ _ G6⟩,by simp [RowKit.intOf];omega⟩
    ·have q2: ¬ (i: Int) < (y.args.length: Int):= by omega
     rw [List.take_of_length_le (by omega)] at D4
     have p4:= (lit_parts10 H4).2.1
     have L4:= Ck.fold_len y.args (Ck.wv L y.by_)
     go_wp2_with (refine wpList_load_mid rfl 44 _ rfl V 6 rfl (tv y.at_) _ p4 Tryz.underlying44 rfl iT ?_)
     refine (add_at y.at_ w.heap.size bs bl bm _ wr D4 VB.out.2.2 (by omega)).mono ?_
     rintro e w7 ⟨rfl,D7,b7,K7⟩
     go_wp2_with fail
     exact ⟨⟨j + 1,by go_num,by omega,by rw [SU.out];exact D7,E4.trans b7⟩,by simp [RowKit.intOf];omega⟩
  ·have q: ¬ (j: Int) < (M: Int):= by omega
   obtain rfl: j = M:= by omega
   rw [HB.out] at D
   obtain ⟨v,hl,ho⟩:= D.cl
   obtain ⟨a9,c9,rfl,R9,_⟩:= own_row (D:= sK) ho (Nat.le_trans (Ck.bnd_all_len hv k.toNat) (by omega))
   have cl: wr.cell? ⟨bl,0,none⟩ = some (.slice a9 (Ck.bnd x.r k.toNat).length c9):= by rw [heap_cell hl];rfl
   go_wp2_with fail
   go_ret
   exact ⟨⟨a9,c9,rfl,R9.row⟩,B⟩
theorem vars_at (x: Rv) (w: World) (hx: Rv.Aw w x) (hv: Ck.Vok x.r):
 Calls Tryz.prog 127 #[rval x] w fun e w' => (∃ a c,e = .returned (.slice a (Ck.vars x.r).length c) ∧ Row sK w' a c (Ck.vars x.r)) ∧ Below w.heap.size w w':= by
 have A0:= below_alloc w (.cells (rv x).toArray 48)
 have H0:= heap_alloc_new w (.cells (rv x).toArray 48)
 have T:= hideP (bound_at x (x.body.length: Int) _ (hx.below A0 (Nat.le_refl _)) hv)
 rw [Int.toNat_natCast,show Ck.bnd x.r x.body.length = Ck.vars x.r by unfold Ck.vars;rw [show x.r.body.length = x.body.length from List.length_map ..]] at T
 have c0:= (rule_parts10 (x:= x) H0).2.2.2.2.2.2
 go_enter Tryz.func127,Tryz.ntmps127
 go_wp2_with (refine wpList_load_all rfl 48 _ rfl w.heap.size 11 48 (rv x) _ rfl H0 rfl Tryz.underlying48 rfl Tryz.iR11 ?_)
 refine T.out.mono ?_
 rintro e w1 ⟨⟨a,c,rfl,r1⟩,b1⟩
 go_wp2_with fail
 go_ret
 exact ⟨⟨a,c,rfl,r1⟩,Below.then A0 b1⟩
end Go.Proofs.YtpdmmmdkpipmkaaGreatDoor
