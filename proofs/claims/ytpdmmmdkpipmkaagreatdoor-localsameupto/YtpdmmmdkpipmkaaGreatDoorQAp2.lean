/-
  bindings and atOnce: the makers of the iterators.
-/
import Derived.Test.YtpdmmmdkpipmkaaGreatDoorQBi
import Derived.Test.YtpdmmmdkpipmkaaGreatDoorQBt
set_option maxRecDepth 100000
set_option maxHeartbeats 4000000
namespace Go.Proofs.YtpdmmmdkpipmkaaGreatDoor
open Go.RowKit Go.Lib Go.Shelf
theorem bindings_at (r: Rv) (home: List UInt8) (fa: Option Addr) (fc: Nat) (zs: List Fv) (w: World):
 Calls Tryz.prog 98 #[rval r,str home,.slice fa zs.length fc] w fun e w' => e = .returned (.func (.func 144) #[] #[ptr w.heap.size,ptr (w.heap.size + 1),ptr (w.heap.size + 1 + 1)]) ∧ Below w.heap.size w w' ∧ w'.heap.size = w.heap.size + 3 ∧ BCap w w.heap.size w.heap.size (w.heap.size + 1) (w.heap.size + 1 + 1) r home fa fc zs w':= by
 obtain ⟨h0,h1,h2,A0⟩:= boxes3 w (.cells #[str r.home.v,.bool r.home.k.num,.int .i64 r.home.k.n,str r.home.k.s,str r.pred,.slice r.a r.args.length r.cap,str r.to_.v,.bool r.to_.k.num,.int .i64 r.to_.k.n,str r.to_.k.s,.slice r.ba r.body.length r.bcap] 48) (.cells #[str home] 9) (.cells #[.slice fa zs.length fc] 32)
 have SZ: (((w.alloc (.cells #[str r.home.v,.bool r.home.k.num,.int .i64 r.home.k.n,str r.home.k.s,str r.pred,.slice r.a r.args.length r.cap,str r.to_.v,.bool r.to_.k.num,.int .i64 r.to_.k.n,str r.to_.k.s,.slice r.ba r.body.length r.bcap] 48)).alloc (.cells #[str home] 9)).alloc (.cells #[.slice fa zs.length fc] 32)).heap.size = w.heap.size + 3:= by simp
 have HH:= hideP (And.intro h0 (And.intro h1 (And.intro h2 (And.intro A0 SZ))))
 clear h0 h1 h2 A0 SZ
 go_enter Tryz.func98,Tryz.ntmps98
 go_wp2_with fail
 go_ret
 obtain ⟨h0,h1,h2,A0,SZ⟩:= HH.out
 exact ⟨rfl,A0,SZ,⟨h0,h1,h2⟩⟩
structure ACap (b1 b2 b3: Nat) (ra: Option Addr) (rc: Nat) (rs: List Rv) (ha: Option Addr) (hc: Nat) (hs: List (List UInt8)) (na: Option Addr) (nc: Nat) (ns: List (List UInt8)) (fa: Option Addr) (fc: Nat) (zs: List Fv) (W: World): Prop where
 rules: W.heap[b1]? = some (.cells #[.slice ra rs.length rc] 22)
 world: W.heap[b2]? = some (.cells #[.slice ha hs.length hc,.slice na ns.length nc] 60)
 facts: W.heap[b3]? = some (.cells #[.slice fa zs.length fc] 32)
theorem atOnce_at (ra: Option Addr) (rc: Nat) (rs: List Rv) (ha: Option Addr) (hc: Nat) (hs: List (List UInt8)) (na: Option Addr) (nc: Nat) (ns: List (List UInt8)) (fa: Option Addr) (fc: Nat) (zs: List Fv) (w: World):
 Calls Tryz.prog 65 #[.agg #[.slice ha hs.length hc,.slice na ns.length nc],.slice ra rs.length rc,.slice fa zs.length fc] w fun e w' => e = .returned (.func (.func 97) #[] #[ptr (w.heap.size + 1),ptr w.heap.size,ptr (w.heap.size + 1 + 1)]) ∧ Below w.heap.size w w' ∧ w'.heap.size = w.heap.size + 3 ∧ ACap (w.heap.size + 1) w.heap.size (w.heap.size + 1 + 1) ra rc rs ha hc hs na nc ns fa fc zs w':= by
 obtain ⟨h0,h1,h2,A0⟩:= boxes3 w (.cells #[.slice ha hs.length hc,.slice na ns.length nc] 60) (.cells #[.slice ra rs.length rc] 22) (.cells #[.slice fa zs.length fc] 32)
 have SZ: (((w.alloc (.cells #[.slice ha hs.length hc,.slice na ns.length nc] 60)).alloc (.cells #[.slice ra rs.length rc] 22)).alloc (.cells #[.slice fa zs.length fc] 32)).heap.size = w.heap.size + 3:= by simp
 have HH:= hideP (And.intro h0 (And.intro h1 (And.intro h2 (And.intro A0 SZ))))
 clear h0 h1 h2 A0 SZ
 go_enter Tryz.func65,Tryz.ntmps65
 go_wp2_with fail
 go_ret
 obtain ⟨h0,h1,h2,A0,SZ⟩:= HH.out
 exact ⟨rfl,A0,SZ,⟨h1,h0,h2⟩⟩
end Go.Proofs.YtpdmmmdkpipmkaaGreatDoor
namespace Go.Proofs.YtpdmmmdkpipmkaaGreatDoor
open Go.RowKit Go.Lib Go.Shelf
structure AIn (w0: World) (ra: Option Addr) (rc: Nat) (rs: List Rv) (ha: Option Addr) (hc: Nat) (hs: List (List UInt8)) (na: Option Addr) (nc: Nat) (ns: List (List UInt8)) (fa: Option Addr) (fc: Nat) (zs: List Fv): Prop where
 rules: Rws w0 ra rc rs
 smr: ∀ r ∈ rs,SmR r
 homes: Row sK w0 ha hc hs
 hl: ∀ h ∈ hs,h.length ≤ 1048576
 names: Row sK w0 na nc ns
 facts: Fts w0 fa fc zs
 small: ∀ z ∈ zs,SmF z.f
 tab: TabB w0.heap.size w0
 zl: zs.length ≤ 1000000
 few: Ml.Few ⟨hs,ns⟩ (rs.map Rv.r) (zs.map Fv.f)
def EltF (f: F) (v: Value) (W: World): Prop:= ∃ z: Fv,v = z.val ∧ z.f = f ∧ RowT kK 42 W z.a z.cap z.ks
theorem AIn.bin {w0: World} {ra: Option Addr} {rc: Nat} {rs: List Rv} {ha: Option Addr} {hc: Nat} {hs: List (List UInt8)} {na: Option Addr} {nc: Nat} {ns: List (List UInt8)} {fa: Option Addr} {fc: Nat} {zs: List Fv} (h: AIn w0 ra rc rs ha hc hs na nc ns fa fc zs) {r: Rv} (hr: r ∈ rs) {x: List UInt8} (hx: x ∈ hs): BIn w0 r x fa fc zs:=
 ⟨h.rules.each r hr,h.smr r hr,h.hl x hx,h.facts,h.small,h.tab,h.zl,fun e0 hu => h.few r.r (List.mem_map_of_mem hr) x hx e0 hu⟩
def EltB (B: Nat) (r: Ru) (home: List UInt8) (m: List F) (p: Mt.Env) (v: Value) (W: World): Prop:= EltE B p v W ∧ HdIn r home m p
theorem bind_seq {w0: World} {b1 b2 b3: Nat} {r: Rv} {home: List UInt8} {fa: Option Addr} {fc: Nat} {zs: List Fv} {X: Nat → Prop} {W: World} (hi: BIn w0 r home fa fc zs) (hc: BCap w0 W.heap.size b1 b2 b3 r home fa fc zs W) (hX: ∀ k,X k → w0.heap.size ≤ k ∧ k < W.heap.size) (hb: Below w0.heap.size w0 W):
 SeqM Tryz.prog 242 144 #[ptr b1,ptr b2,ptr b3] (EltB W.heap.size r.r home (zs.map Fv.f)) (fun l => Rnd w0.heap.size fun k => X k ∨ (k = l ∧ w0.heap.size ≤ l)) (BGot r.r home (zs.map Fv.f)) (fun _ => True) 60001 W:= fun l J Jx hl _ hJ hJx hY h0 => by
 refine (calls_in (bind_at w0 b1 b2 b3 r home fa fc zs (fun k => X k ∨ (k = l ∧ w0.heap.size ≤ l)) l J Jx W hi hc (fun k hk => ?_) hJ hJx (fun pre p v W1 h1 h2 h3 h4 => YieldAt.mono (hY pre p v W1 h1 ⟨h2,h4⟩ h3) fun e W' q => q.imp id fun q => ⟨q.1,q.2.1⟩) hb h0)).mono ?_
 ·rcases hk with hk | ⟨rfl,hk⟩
  ·exact hX k hk
  ·exact ⟨hk,hl⟩
 ·rintro e W' ⟨hv,⟨ys,h1,h2⟩ | ⟨pre,h2⟩⟩
  ·exact ⟨hv,.inl ⟨ys,h1,h2⟩⟩
  ·exact ⟨hv,.inr ⟨pre,trivial,h2⟩⟩
def shut: List Nat → World → World
 | [],W => W
 | D:: Ds,W => shut Ds (W.putObj D (.deferred none))
abbrev mark (D: Nat): Deferred:= { target:= .collected D,args:= #[] }
theorem leaves_marks {P: Program} {F: Fence} {n: Nat} {fn: Func} {tmps: Array Value} {R: Ending → World → Prop}: ∀ (Ds: List Nat) (W: World),(∀ D ∈ Ds,W.heap[D]? = some (.deferred (some []))) → Ds.Nodup → LeavesIn F n P fn tmps R [] .returning (shut Ds W) → LeavesInM F n P fn tmps R (Ds.map mark) .returning W
 | [],_,_,_,h => h
 | D:: Ds,W,hd,hn,h => by
  obtain ⟨h1,h2⟩:= List.nodup_cons.1 hn
  refine ⟨by simp,.inl ⟨D,_,rfl,run_takeDeferred (hd D (List.mem_cons_self ..)), ?_⟩⟩
  refine leaves_marks Ds _ (fun D' hD' => ?_) h2 h
  rw [World.putObj_heap_other (fun e: D' = D => h1 (e ▸ hD'))]
  exact hd D' (List.mem_cons_of_mem _ hD')
theorem shut_itr {pt: TypeId} {B: Nat}: ∀ (Ds: List Nat) (W: World),(∀ D ∈ Ds,W.heap[D]? = some (.deferred (some []))) → Ds.Nodup → (∀ D ∈ Ds,B ≤ D) → Itr pt B W (shut Ds W)
 | [],W,_,_,_ => Itr.refl _ _ _
 | D:: Ds,W,hd,hn,hB => by
  obtain ⟨h1,h2⟩:= List.nodup_cons.1 hn
  refine (Itr.putObj _ (hd D (List.mem_cons_self ..)) rfl (hB D (List.mem_cons_self ..))).trans (shut_itr Ds _ (fun D' hD' => ?_) h2 fun D' hD' => hB D' (List.mem_cons_of_mem _ hD'))
  rw [World.putObj_heap_other (fun e: D' = D => h1 (e ▸ hD'))]
  exact hd D' (List.mem_cons_of_mem _ hD')
structure Marks (B: Nat) (Ds: List Nat) (W: World): Prop where
 open_: ∀ D ∈ Ds,W.heap[D]? = some (.deferred (some []))
 nodup: Ds.Nodup
 low: ∀ D ∈ Ds,B ≤ D
theorem Marks.nil (B: Nat) (W: World): Marks B [] W:= ⟨(fun _ h => by cases h),List.nodup_nil,fun _ h => by cases h⟩
theorem Marks.below {B: Nat} {Ds: List Nat} {W W': World} (h: Marks B Ds W) (hb: Below W.heap.size W W'): Marks B Ds W':= ⟨fun D hD => below_heap hb (h.open_ D hD),h.nodup,h.low⟩
theorem Marks.rnd {B n0: Nat} {X: Nat → Prop} {Ds: List Nat} {W W': World} (h: Marks B Ds W) (r: Rnd n0 X W W') (hX: ∀ k,X k → k < B): Marks B Ds W':= ⟨fun D hD => r.other (h.open_ D hD) (fun hx => by have:= hX D hx;have:= h.low D hD;omega) rfl,h.nodup,h.low⟩
end Go.Proofs.YtpdmmmdkpipmkaaGreatDoor
namespace Go.Proofs.YtpdmmmdkpipmkaaGreatDoor
open Go.RowKit Go.Lib Go.Shelf
theorem index_at (w: World) (a: Option Addr) (c: Nat) (N: List (List UInt8)) (s: List UInt8) (h: Row sK w a c N):
 Calls Tryz.prog 151 #[.slice a N.length c,str s] w fun e w' => ∃ i: Int,e = .returned (.int .i64 i) ∧ (0 ≤ i ↔ s ∈ N) ∧ w = w':= by
 have few:= h.few
 go_enter Tryz.func151,Tryz.ntmps151
 go_wp2_with fail
 go_loopw [8] (fun v wr => ∃ k: Nat,v = .int .i64 (k: Int) ∧ k ≤ N.length ∧ Hid (s ∉ N.take k) ∧ w = wr) (fun v _ => N.length - (RowKit.intOf v).toNat)
 case atStart => exact ⟨0,rfl,by omega,hideP (by simp),rfl⟩
 case round =>
  obtain ⟨k,rfl,hk,hno,rfl⟩:= hrel
  by_cases hlt: k < N.length
  ·have q0: (k: Int) < (N.length: Int):= by omega
   obtain ⟨b,o,rfl⟩:= h.addr (by omega)
   have c1:= h.text k hlt
   by_cases hq: s = N[k]
   ·have q1: (s == N[k]) = true:= by simpa using hq
    have hm:= hideP (show s ∈ N from hq ▸ List.getElem_mem hlt)
    clear hq
    go_wp2_with fail
    go_ret
    exact ⟨k,rfl,⟨fun _ => hm.out,fun _ => by omega⟩,rfl⟩
   ·have q1: (s == N[k]) = false:= by simpa using hq
    have HN: Hid (s ∉ N.take (k + 1)):= hideP (by
     rw [← List.take_append_getElem hlt]
     simp only [List.mem_append,List.mem_singleton,not_or]
     exact ⟨hno.out,hq⟩)
    clear hq
    go_wp2_with fail
    exact ⟨⟨k + 1,rfl,hlt,HN,by first | rfl | trivial⟩,by simp [RowKit.intOf];omega⟩
  ·have q0: ¬ (k: Int) < (N.length: Int):= by omega
   obtain rfl: k = N.length:= by omega
   have hno':= hno.out
   rw [List.take_length] at hno'
   have HN:= hideP hno'
   clear hno'
   go_wp2_with fail
   go_ret
   exact ⟨-1,rfl,⟨fun h => absurd h (by decide),fun h => absurd h HN.out⟩,rfl⟩
theorem contains_at (w: World) (a: Option Addr) (c: Nat) (N: List (List UInt8)) (s: List UInt8) (h: Row sK w a c N):
 Calls Tryz.prog 100 #[.slice a N.length c,str s] w fun e w' => e = .returned (.bool (decide (s ∈ N))) ∧ w = w':= by
 go_enter Tryz.func100,Tryz.ntmps100
 go_wp2_with fail
 refine (index_at w a c N s h).mono ?_
 rintro _ w1 ⟨i,rfl,hi,rfl⟩
 have Hi:= hideP hi
 clear hi
 go_wp2_with fail
 go_ret
 refine ⟨ret_bool ?_,rfl⟩
 rw [Bool.eq_iff_iff]
 simpa using Hi.out
end Go.Proofs.YtpdmmmdkpipmkaaGreatDoor
namespace Go.Proofs.YtpdmmmdkpipmkaaGreatDoor
open Go.RowKit Go.Lib Go.Shelf
def OwnF (base: Nat) (w: World) (v: Value) (zs: List Fv): Prop:= w.ownsRow base 37 fK.k v zs.length (zs.flatMap fK.enc)
def EachK (w: World) (zs: List Fv): Prop:= ∀ z ∈ zs,RowT kK 42 w z.a z.cap z.ks
theorem EachK.safe {w w': World} {zs: List Fv} (h: EachK w zs) (s: Safe 42 w w'): EachK w' zs:= fun z hz => (h z hz).safe s
def BodyAns (e: Ending) (w: World) (o: Option (List F)): Prop:= ∃ a c zs,e = .returned (.tuple #[.slice a (List.length zs) c,.bool o.isSome]) ∧ Row fK w a c zs ∧ Tag 37 w a ∧ c ≤ maxLen ∧ EachK w zs ∧ zs.map Fv.f = o.getD []
theorem fact_two {o: Option F} {z: Fv} (hz: z.f = o.getD f0): (o = none ∧ o.isSome = false) ∨ (o = some z.f ∧ o.isSome = true):= by
 cases o with
 | none => exact .inl ⟨rfl,rfl⟩
 | some f => exact .inr ⟨by rw [hz];rfl,rfl⟩
end Go.Proofs.YtpdmmmdkpipmkaaGreatDoor
namespace Go.Proofs.YtpdmmmdkpipmkaaGreatDoor
open Go.RowKit Go.Lib Go.Shelf
theorem Rnd.keeps {n0 B: Nat} {X: Nat → Prop} {W W': World} (h: Rnd n0 X W W') (hX: ∀ k,X k → k < B): KeepsFrom B W W':=
 ⟨h.size,fun k o hB hk ho => h.other hk (fun hx => by have:= hX k hx;omega) (by cases o <;> first | rfl | cases ho)⟩
def EltO (w: Ml.Wd) (l: List Ru) (m: List F) (f: F) (v: Value) (W: World): Prop:= EltF f v W ∧ f ∈ Ml.onceL w l m
structure OnW (w0: World) (B l b1 b2 b3: Nat) (ra: Option Addr) (rc: Nat) (rs: List Rv) (ha: Option Addr) (hc: Nat) (hs: List (List UInt8)) (na: Option Addr) (nc: Nat) (ns: List (List UInt8)) (fa: Option Addr) (fc: Nat) (zs: List Fv) (W: World): Prop where
 cap: ACap b1 b2 b3 ra rc rs ha hc hs na nc ns fa fc zs W
 box: W.heap[B]? = some (.cells #[.func (.yield l) #[] #[]] 150)
 below: Below w0.heap.size w0 W
 low: w0.heap.size ≤ B
theorem OnW.itr {w0: World} {B C l b1 b2 b3: Nat} {ra: Option Addr} {rc: Nat} {rs: List Rv} {ha: Option Addr} {hc: Nat} {hs: List (List UInt8)} {na: Option Addr} {nc: Nat} {ns: List (List UInt8)} {fa: Option Addr} {fc: Nat} {zs: List Fv} {W W': World} (h: OnW w0 B l b1 b2 b3 ra rc rs ha hc hs na nc ns fa fc zs W) (hi: Itr 242 C W W') (hC: B ≤ C): OnW w0 B l b1 b2 b3 ra rc rs ha hc hs na nc ns fa fc zs W':=
 ⟨⟨hi.same _ _ _ _ h.cap.rules (by decide),hi.same _ _ _ _ h.cap.world (by decide),hi.same _ _ _ _ h.cap.facts (by decide)⟩,hi.same _ _ _ _ h.box (by decide),h.below.trans (hi.toBelow.mono (Nat.le_trans h.low hC)),h.low⟩
theorem OnW.next {w0: World} {B l b1 b2 b3: Nat} {ra: Option Addr} {rc: Nat} {rs: List Rv} {ha: Option Addr} {hc: Nat} {hs: List (List UInt8)} {na: Option Addr} {nc: Nat} {ns: List (List UInt8)} {fa: Option Addr} {fc: Nat} {zs: List Fv} {W W': World} (h: OnW w0 B l b1 b2 b3 ra rc rs ha hc hs na nc ns fa fc zs W) (hb: Below W.heap.size W W'): OnW w0 B l b1 b2 b3 ra rc rs ha hc hs na nc ns fa fc zs W':=
 ⟨⟨below_heap hb h.cap.rules,below_heap hb h.cap.world,below_heap hb h.cap.facts⟩,below_heap hb h.box,h.below.trans (hb.mono h.below.size),h.low⟩
theorem OnW.rnd {w0: World} {B l b1 b2 b3: Nat} {ra: Option Addr} {rc: Nat} {rs: List Rv} {ha: Option Addr} {hc: Nat} {hs: List (List UInt8)} {na: Option Addr} {nc: Nat} {ns: List (List UInt8)} {fa: Option Addr} {fc: Nat} {zs: List Fv} {W W': World} {X: Nat → Prop} (h: OnW w0 B l b1 b2 b3 ra rc rs ha hc hs na nc ns fa fc zs W) (r: Rnd w0.heap.size X W W') (hX: ∀ k,X k → w0.heap.size ≤ k ∧ k < B) (nb: ¬ X b1 ∧ ¬ X b2 ∧ ¬ X b3): OnW w0 B l b1 b2 b3 ra rc rs ha hc hs na nc ns fa fc zs W':=
 ⟨⟨r.other h.cap.rules nb.1 rfl,r.other h.cap.world nb.2.1 rfl,r.other h.cap.facts nb.2.2 rfl⟩,r.other h.box (fun hx => by have:= (hX B hx).2;omega) rfl,h.below.trans (r.below (fun k hk => (hX k hk).1) h.below.size),h.low⟩
theorem Marks.itr {B C: Nat} {pt: TypeId} {Ds: List Nat} {W W': World} (h: Marks B Ds W) (hi: Itr pt C W W') (hD: ∀ D ∈ Ds,D < C): Marks B Ds W':= ⟨fun D hD' => (hi.low D (hD D hD')).trans (h.open_ D hD'),h.nodup,h.low⟩
theorem Marks.lt {B: Nat} {Ds: List Nat} {W: World} (h: Marks B Ds W): ∀ D ∈ Ds,D < W.heap.size:= fun D hD => heap_lt (h.open_ D hD)
theorem EltE.itr {B C: Nat} {p: List Bd} {v: Value} {W W': World} (h: EltE B p v W) (hi: Itr 242 C W W'): EltE B p v W':= by
 obtain ⟨a,c,rfl,R,Fr,L⟩:= h
 exact ⟨a,c,rfl,R.safe (hi.safe (by decide)),Fr,L⟩
theorem hd_none {w: Ml.Wd} {r: Ru} {e: Mt.Env} (h: Mt.head r e = none): Ml.hd w r e = []:= by unfold Ml.hd;rw [h]
theorem hd_out {w: Ml.Wd} {r: Ru} {e: Mt.Env} {f: F} (h: Mt.head r e = some f) (hn: f.at_ ∉ w.names): Ml.hd w r e = []:= by unfold Ml.hd;rw [h];simp only;rw [if_neg hn]
theorem hd_in {w: Ml.Wd} {r: Ru} {e: Mt.Env} {f: F} (h: Mt.head r e = some f) (hn: f.at_ ∈ w.names): Ml.hd w r e = [f]:= by unfold Ml.hd;rw [h];simp only;rw [if_pos hn]
theorem flat_snoc {w: Ml.Wd} {r: Ru} (fs: List F) (pre: List Mt.Env) (p: Mt.Env): fs ++ (pre ++ [p]).flatMap (Ml.hd w r) = fs ++ pre.flatMap (Ml.hd w r) ++ Ml.hd w r p:= by simp
theorem onceL_take {w: Ml.Wd} {m: List F} {rs: List Rv} {i: Nat} (hi: i < rs.length) (x: F): x ∈ Ml.onceL w ((rs.take (i + 1)).map Rv.r) m ↔ x ∈ Ml.onceL w ((rs.take i).map Rv.r) m ∨ x ∈ w.homes.flatMap (fun h => Ml.heads w rs[i].r m h):= by
 unfold Ml.onceL
 rw [List.take_succ_eq_append_getElem hi,List.map_append,List.flatMap_append,List.mem_append]
 simp
theorem homes_take {w: Ml.Wd} {m: List F} {r: Ru} {hs: List (List UInt8)} {j: Nat} (hj: j < hs.length) (x: F): x ∈ (hs.take (j + 1)).flatMap (fun h => Ml.heads w r m h) ↔ x ∈ (hs.take j).flatMap (fun h => Ml.heads w r m h) ∨ x ∈ Ml.heads w r m hs[j]:= by
 rw [List.take_succ_eq_append_getElem hj,List.flatMap_append,List.mem_append]
 simp
theorem heads_once {w: Ml.Wd} {l: List Ru} {m: List F} {r: Ru} {h: List UInt8} (hr: r ∈ l) (hh: h ∈ w.homes) {x: F} (hx: x ∈ Ml.heads w r m h): x ∈ Ml.onceL w l m:= by
 unfold Ml.onceL
 rw [List.mem_flatMap]
 exact ⟨r,hr,List.mem_flatMap.2 ⟨h,hh,hx⟩⟩
end Go.Proofs.YtpdmmmdkpipmkaaGreatDoor
namespace Go.Proofs.YtpdmmmdkpipmkaaGreatDoor
open Go.RowKit Go.Lib Go.Shelf
attribute [local go_sem] Oper.semAt_some
theorem once1_at (w0: World) (b1 b2 b3: Nat) (ra: Option Addr) (rc: Nat) (rs: List Rv) (ha: Option Addr) (hc: Nat) (hs: List (List UInt8)) (na: Option Addr) (nc: Nat) (ns: List (List UInt8)) (fa: Option Addr) (fc: Nat) (zs: List Fv) (X: Nat → Prop) (l: Nat) (J Jx: List F → World → Prop) (W: World)
 (hi: AIn w0 ra rc rs ha hc hs na nc ns fa fc zs) (hcap: ACap b1 b2 b3 ra rc rs ha hc hs na nc ns fa fc zs W) (hX: ∀ k,X k → w0.heap.size ≤ k ∧ k < W.heap.size) (nb: ¬ X b1 ∧ ¬ X b2 ∧ ¬ X b3)
 (hJ: ∀ s A A',J s A → Itr 242 W.heap.size A A' → J s A') (hJx: ∀ s A A',Jx s A → Itr 242 W.heap.size A A' → Jx s A')
 (hY: ∀ pre f v W1,J pre W1 → EltO ⟨hs,ns⟩ (rs.map Rv.r) (zs.map Fv.f) f v W1 → pre.length < rs.length * hs.length * 60001 → YieldAt Fence.wide 0 Tryz.prog l #[v] W1 fun e W' => (e = .returned (.bool true) ∧ J (pre ++ [f]) W' ∧ Rnd w0.heap.size X W1 W') ∨ (e = .returned (.bool false) ∧ Jx (pre ++ [f]) W' ∧ KeepsFrom W.heap.size W1 W'))
 (hb: Below w0.heap.size w0 W) (h0: J [] W):
 Calls Tryz.prog 97 #[.func (.yield l) #[] #[],ptr b1,ptr b2,ptr b3] W fun e W' => (∃ v,e = .returned v) ∧ ((∃ fs,(∀ x,x ∈ fs ↔ x ∈ Ml.onceL ⟨hs,ns⟩ (rs.map Rv.r) (zs.map Fv.f)) ∧ J fs W') ∨ (∃ pre,Jx pre W')):= by
 have TRu:= Tryz.underlying48
 have A1:= below_alloc W (.cells #[.func (.yield l) #[] #[]] 150)
 have ON: OnW w0 W.heap.size l b1 b2 b3 ra rc rs ha hc hs na nc ns fa fc zs (W.alloc (.cells #[.func (.yield l) #[] #[]] 150)):=
  ⟨⟨below_heap A1 hcap.rules,below_heap A1 hcap.world,below_heap A1 hcap.facts⟩,heap_alloc_new W _,hb.trans (A1.mono hb.size),hb.size⟩
 have J1:= hJ [] W _ h0 (Itr.below A1 (Nat.le_refl _))
 have c1: (W.alloc (.cells #[.func (.yield l) #[] #[]] 150)).cell? ⟨b1,0,none⟩ = some (.slice ra rs.length rc):= by rw [heap_cell ON.cap.rules];rfl
 have few:= hi.rules.row.few
 have fewh:= hi.homes.few
 have HI:= hideP hi
 have HY:= hideP hY
 have HJ:= hideP hJ
 have HJX:= hideP hJx
 have HX:= hideP hX
 have NB:= hideP nb
 have hlow:= hb.size
 clear hi hY hJ hJx hX nb hcap h0 hb
 refine calls_marks Tryz.func97 rfl ?_
 simp only [Tryz.ntmps97,List.size_toArray,List.length_cons,List.length_nil,Nat.reduceAdd,Nat.reduceSub,Array.replicate_succ,Array.replicate_zero,List.push_toArray,List.append_toArray,List.nil_append,List.cons_append]
 go_wp2_with fail
 generalize hW1: W.alloc (.cells #[.func (.yield l) #[] #[]] 150) = W1 at *
 clear hW1 A1
 generalize hB: W.heap.size = B at *
 clear hB
 refine wp_loop_ghost_k (fun n a w => ∃ (i: Nat) (fs: List F) (Ds: List Nat) (u6 u8 u15 u16 u17 u18 u19 u20 u21 u22 u23 u24 u25 u26 u27 u28 u50 u51: Value),n = rs.length - i ∧ i ≤ rs.length ∧ Hid (∀ x,x ∈ fs ↔ x ∈ Ml.onceL ⟨hs,ns⟩ ((rs.take i).map Rv.r) (zs.map Fv.f)) ∧ fs.length ≤ i * hs.length * 60001 ∧ OnW w0 B l b1 b2 b3 ra rc rs ha hc hs na nc ns fa fc zs w ∧ Marks B Ds w ∧ J fs w ∧ a = { tmps:= #[.func (.yield l) #[] #[],ptr b1,ptr b2,ptr b3,ptr B,undef,u6,undef,u8,undef,undef,undef,.slice ra rs.length rc,.int .i64 (rs.length: Int),.int .i64 (i: Int),u15,u16,u17,u18,u19,u20,u21,u22,u23,u24,u25,u26,u27,u28,undef,undef,undef,undef,undef,undef,undef,undef,undef,undef,undef,undef,undef,undef,undef,undef,undef,undef,undef,undef,undef,u50,u51],defers:= Ds.map mark }) rs.length ?start ?round
 case start =>
  exact ⟨0,[],[],_,_,_,_,_,_,_,_,_,_,_,_,_,_,_,_,_,_,rfl,Nat.zero_le _,hideP (fun x => by simp [Ml.onceL]),by simp,ON,Marks.nil _ _,J1,rfl⟩
 case round =>
  rintro n a wr ⟨i,fs,Ds,u6,u8,u15,u16,u17,u18,u19,u20,u21,u22,u23,u24,u25,u26,u27,u28,u50,u51,rfl,hir,hfs,hln,ON1,MK1,J2,rfl⟩ J9 K9 hJ9 hK9
  clear ON J1 c1
  by_cases hlt: i < rs.length
  ·have q1: (i: Int) < (rs.length: Int):= by omega
   obtain ⟨P1,O1,rfl⟩:= HI.out.rules.row.addr (by omega)
   have r1: wr.rangeAt P1 (O1 + i * 11) (rv (rs[i]'hlt)):= (HI.out.rules.row.below ON1.below (Nat.le_refl _)).range i hlt
   have hrm: Hid ((rs[i]'hlt) ∈ rs):= List.getElem_mem hlt
   have HT:= hideP (fun x => onceL_take (w:= ⟨hs,ns⟩) (m:= zs.map Fv.f) hlt x)
   generalize (rs[i]'hlt) = r at *
   have iQ: (Tryz.prog.info? 48).map (·.size) = some (rv r).length:= iR11
   have N1:= heap_alloc_new wr (.cells #[.string { data:= #[] },.bool false,.int .i64 0,.string { data:= #[] },.string { data:= #[] },.slice none 0 0,.string { data:= #[] },.bool false,.int .i64 0,.string { data:= #[] },.slice none 0 0] 48)
   have hBr: B < wr.heap.size:= heap_lt ON1.box
   go_wp2_with (first
    | (refine wpList_load_mid rfl 48 _ rfl P1 (O1 + i * 11) rfl (rv r) _ r1 TRu rfl iQ ?_)
    | (refine wpList_store_all rfl 48 _ _ rfl wr.heap.size 11 _ 48 (rv r) rfl rfl N1 rfl rfl iR11 rfl ?_;intro w2 N2 d2;have B2:= below_tok d2;have ON2:= ON1.next B2;have MK2:= MK1.below B2;have J3:= HJ.out _ _ _ J2 (Itr.below B2 (Nat.le_of_lt hBr));have c2: w2.cell? ⟨b2,0,none⟩ = some (.slice ha hs.length hc):= (by rw [heap_cell ON2.cap.world];rfl)))
   generalize hS6: wr.heap.size = S6 at *
   clear hS6 d2 B2 r1 N1 ON1 MK1 J2 iQ
   refine wp_loop_ghost_k (fun n a w => ∃ (j: Nat) (fs2: List F) (Ds2: List Nat) (u8 u15 u16 u17 u18 u22 u23 u24 u25 u26 u27 u28 u50 u51: Value),n = hs.length - j ∧ j ≤ hs.length ∧ Hid (∀ x,x ∈ fs2 ↔ x ∈ Ml.onceL ⟨hs,ns⟩ ((rs.take i).map Rv.r) (zs.map Fv.f) ∨ x ∈ (hs.take j).flatMap (fun h => Ml.heads ⟨hs,ns⟩ r.r (zs.map Fv.f) h)) ∧ fs2.length ≤ (i * hs.length + j) * 60001 ∧ OnW w0 B l b1 b2 b3 (some ⟨P1,O1,none⟩) rc rs ha hc hs na nc ns fa fc zs w ∧ Marks B Ds2 w ∧ w.heap[S6]? = some (.cells (rv r).toArray 48) ∧ J fs2 w ∧ a = { tmps:= #[.func (.yield l) #[] #[],ptr b1,ptr b2,ptr b3,ptr B,undef,ptr S6,undef,u8,undef,undef,undef,.slice (some ⟨P1,O1,none⟩) rs.length rc,.int .i64 (rs.length: Int),.int .i64 (i: Int),u15,u16,u17,u18,.slice ha hs.length hc,.int .i64 (hs.length: Int),.int .i64 (j: Int),u22,u23,u24,u25,u26,u27,u28,undef,undef,undef,undef,undef,undef,undef,undef,undef,undef,undef,undef,undef,undef,undef,undef,undef,undef,undef,undef,undef,u50,u51],defers:= Ds2.map mark }) hs.length ?start2 ?round2
   case start2 =>
    exact ⟨0,fs,Ds,_,_,_,_,_,_,_,_,_,_,_,_,_,_,rfl,Nat.zero_le _,hideP (fun x => by rw [hfs.out x];simp),by omega,ON2,MK2,N2,J3,rfl⟩
   case round2 =>
    rintro n2 a2 w3 ⟨j,fs2,Ds2,u8,u15,u16,u17,u18,u22,u23,u24,u25,u26,u27,u28,u50,u51,rfl,hjr,hf2,hl2,ON3,MK3,H6,J4,rfl⟩ J8 K8 hJ8 hK8
    clear ON2 MK2 N2 J3 c2
    have hB3: B < w3.heap.size:= heap_lt ON3.box
    by_cases hjt: j < hs.length
    ·have q2: (j: Int) < (hs.length: Int):= by omega
     obtain ⟨P2,O2,rfl⟩:= HI.out.homes.addr (by omega)
     have t1:= ((HI.out.homes).below ON3.below (Nat.le_refl _)).text j hjt
     have hhm: Hid ((hs[j]'hjt) ∈ hs):= List.getElem_mem hjt
     have HT2:= hideP (fun x => homes_take (w:= ⟨hs,ns⟩) (m:= zs.map Fv.f) (r:= r.r) hjt x)
     generalize (hs[j]'hjt) = home at *
     have d3: w3.cell? ⟨b3,0,none⟩ = some (.slice fa zs.length fc):= by rw [heap_cell ON3.cap.facts];rfl
     have TB:= hideP (bindings_at r home fa fc zs w3)
     go_wp2_with (refine wpList_load_all rfl 48 _ rfl S6 11 48 (rv r) _ rfl (by with_reducible exact H6) rfl TRu rfl iR11 ?_)
     refine TB.out.mono ?_
     rintro e w4 ⟨rfl,B4,S4,C4⟩
     have ON4:= ON3.next B4
     have MK4:= MK3.below B4
     have H64:= below_heap B4 H6
     have J5:= HJ.out _ _ _ J4 (Itr.below B4 (Nat.le_of_lt hB3))
     have hB4: B < w4.heap.size:= heap_lt ON4.box
     have DS:= hideP MK4.lt
     have BI:= hideP (HI.out.bin hrm.out hhm.out)
     clear TB t1 d3 ON3 MK3 H6 J4
     go_wp2_with fail
     refine wp_range (pt:= 242) (gf:= 144) (lb:= #[ptr w3.heap.size,ptr (w3.heap.size + 1),ptr (w3.heap.size + 1 + 1)]) rfl (enters_of Tryz.func144 (by kernel_rfl) rfl)
      (Elt:= EltB (w4.heap.size + 2) r.r home (zs.map Fv.f)) (Kp:= fun l2 => Rnd w0.heap.size fun k => X k ∨ (k = l2 ∧ w0.heap.size ≤ l2)) (S:= BGot r.r home (zs.map Fv.f)) (Sp:= fun _ => True) (N:= 60001)
      ?seq (fun h k => h.trans k) (fun l2 W5 o o' h1 _ _ => Rnd.but (but_putObj W5 l2 o') (.inr ⟨rfl,by omega⟩)) rfl
      (fun pre W5 => OnW w0 B l b1 b2 b3 (some ⟨P1,O1,none⟩) rc rs (some ⟨P2,O2,none⟩) hc hs na nc ns fa fc zs W5 ∧ W5.heap[S6]? = some (.cells (rv r).toArray 48) ∧ Marks B Ds2 W5 ∧ J (fs2 ++ pre.flatMap (Ml.hd ⟨hs,ns⟩ r.r)) W5)
      (fun c pre W5 => c = .ret ∧ Marks B Ds2 W5 ∧ ∃ q,Jx q W5)
      (fun s A A' h hit => ⟨h.1.itr hit (Nat.le_of_lt hB4),hit.same _ _ _ _ h.2.1 (by decide),h.2.2.1.itr hit DS.out,HJ.out _ _ _ h.2.2.2 (hit.mono (Nat.le_of_lt hB4))⟩)
      (fun c s A A' h hit => ⟨h.1,h.2.1.itr hit DS.out,h.2.2.elim fun q hq => ⟨q,HJX.out _ _ _ hq (hit.mono (Nat.le_of_lt hB4))⟩⟩)
      ⟨ON4,H64,MK4,by simpa using J5⟩
      (fun p a' W5 => ∃ (v: Value) (u8 u12 u13 u14 u15 u16 u17 u18 u19 u20 u21 u22 u23 u24 u25 u26 u27 u28 u50 u51: Value),EltB (w4.heap.size + 2) r.r home (zs.map Fv.f) p v W5 ∧ a' = { tmps:= #[.func (.yield l) #[] #[],ptr b1,ptr b2,ptr b3,ptr B,undef,ptr S6,undef,u8,v,undef,undef,u12,u13,u14,u15,u16,u17,u18,u19,u20,u21,u22,u23,u24,u25,u26,u27,u28,v,undef,undef,undef,undef,undef,undef,undef,undef,undef,undef,undef,undef,undef,undef,undef,undef,undef,undef,undef,undef,u50,u51],defers:= [] })
      (fun p a' A A' h hit => by
        obtain ⟨v,u8,u12,u13,u14,u15,u16,u17,u18,u19,u20,u21,u22,u23,u24,u25,u26,u27,u28,u50,u51,h1,h2⟩:= h
        exact ⟨v,u8,u12,u13,u14,u15,u16,u17,u18,u19,u20,u21,u22,u23,u24,u25,u26,u27,u28,u50,u51,⟨h1.1.itr hit,h1.2⟩,h2⟩)
      ?assign ?body ?done ?stop
     case seq =>
      intro W1 hb1 hs1
      have hsq:= bind_seq (X:= X) BI.out (⟨below_heap hb1 C4.rule,below_heap hb1 C4.home,below_heap hb1 C4.facts⟩: BCap w0 W1.heap.size _ _ _ r home fa fc zs W1) (fun k hk => ⟨(HX.out k hk).1,by have:= (HX.out k hk).2;omega⟩) (ON4.below.trans (hb1.mono ON4.below.size))
      rw [hs1] at hsq
      exact hsq
     case assign =>
      intro l2 pre p v W5 K hl5 hlt5 HI5 helt hK
      gi_wp2
      exact hK _ _ (KeepsFrom.refl _ _) (Rnd.refl _ _ _) HI5 ⟨v,_,_,_,_,_,_,_,_,_,_,_,_,_,_,_,_,_,_,_,_,helt,rfl⟩
     case body =>
      rintro l2 pre p _ W5 hl5 hlt5 ⟨ON5,H65,MK5,J6⟩ ⟨_,u8,u12,u13,u14,u15,u16,u17,u18,u19,u20,u21,u22,u23,u24,u25,u26,u27,u28,u50,u51,⟨⟨ea,ec,rfl,RE,FE,LE⟩,HH⟩,rfl⟩ hN
      have hB5: B < W5.heap.size:= heap_lt ON5.box
      have TH:= hideP (mHead_at r ea ec p W5 ((HI.out.rules.each r hrm.out).below ON5.below (Nat.le_refl _)) RE.row (by have:= (HI.out.smr r hrm.out).args;omega))
      refine wpIn_block ?_
      apply wpIn_seq_k
      intro K5 hK5
      refine round_region (by rintro ⟨_,_,h⟩;exact h) rfl ?_
      go_wp2_with (refine wpList_load_all rfl 48 _ rfl S6 11 48 (rv r) _ rfl (by with_reducible exact H65) rfl TRu rfl iR11 ?_)
      refine TH.out.mono ?_
      rintro e w6 ⟨⟨z,rfl,RZ,hz⟩,B6⟩
      have N6:= heap_alloc_new w6 (.cells #[.string { data:= #[] },.string { data:= #[] },.string { data:= #[] },.slice none 0 0] 37)
      have iF: (Tryz.prog.info? 37).map (·.size) = some 4:= by kernel_rfl
      go_wp2_with (refine wpList_store_all rfl 37 _ _ rfl w6.heap.size 4 _ 37 (fv z) rfl rfl N6 rfl rfl iF rfl ?_;intro w7 N7 d7;have B7:= below_tok d7)
      have T7:= Below.then B6 B7
      have ON7:= ON5.next T7
      have H67:= below_heap T7 H65
      have MK7:= MK5.below T7
      have J7:= HJ.out _ _ _ J6 (Itr.below T7 (Nat.le_of_lt hB5))
      have RZ7:= RZ.safe (Safe.below B7: Safe 42 _ _)
      have KF7: KeepsFrom w4.heap.size W5 w7:= (Rnd.of_below (n0:= 0) (X:= fun _ => False) T7).keeps (fun _ h => h.elim)
      have R7: ∀ Y,Rnd w0.heap.size Y W5 w7:= fun Y => Rnd.of_below T7
      have HR7:= hideP R7
      clear TH d7 B6 B7 R7 N6 RZ
      generalize w6.heap.size = S7 at *
      rcases fact_two hz with ⟨u1,u2⟩ | ⟨u1,u2⟩
      ·rw [u2]
       have FSo:= hideP (hd_none (w:= ⟨hs,ns⟩) u1)
       clear u1 u2 hz
       gi_wp2
       refine ⟨trivial, ?_⟩
       gi_wp2
       refine ⟨(fun _ h => by cases h), ?_⟩
       gi_wp2
       exact ⟨KF7,HR7.out _,ON7,H67,MK7,by rw [flat_snoc,FSo.out,List.append_nil];exact J7⟩
      ·rw [u2]
       have f0: w7.cell? ⟨S7,0,none⟩ = some (str z.at_):= by rw [heap_cell N7];rfl
       have f1: w7.cell? ⟨S7,1,none⟩ = some (str z.by_):= by rw [heap_cell N7];rfl
       have f2: w7.cell? ⟨S7,2,none⟩ = some (str z.pred):= by rw [heap_cell N7];rfl
       have f3: w7.cell? ⟨S7,3,none⟩ = some (.slice z.a z.ks.length z.cap):= by rw [heap_cell N7];rfl
       have n1: w7.cell? ⟨b2,1,none⟩ = some (.slice na ns.length nc):= by rw [heap_cell ON7.cap.world];rfl
       have y1: w7.cell? ⟨B,0,none⟩ = some (.func (.yield l) #[] #[]):= by rw [heap_cell ON7.box];rfl
       have TC:= hideP (contains_at w7 na nc ns z.at_ (HI.out.names.below ON7.below (Nat.le_refl _)))
       by_cases hin: z.at_ ∈ ns
       ·rw [decide_eq_true hin] at TC
        have FSo:= hideP (hd_in (w:= ⟨hs,ns⟩) u1 hin)
        have MEM: z.f ∈ Ml.onceL ⟨hs,ns⟩ (rs.map Rv.r) (zs.map Fv.f):= heads_once (List.mem_map_of_mem hrm.out) hhm.out (HH ⟨hs,ns⟩ z.f (by rw [FSo.out];simp))
        have LEN: (fs2 ++ pre.flatMap (Ml.hd ⟨hs,ns⟩ r.r)).length < rs.length * hs.length * 60001:= by
         have h1:= Ml.hds_few ⟨hs,ns⟩ r.r pre
         have h2: (i + 1) * hs.length ≤ rs.length * hs.length:= Nat.mul_le_mul_right _ hlt
         rw [Nat.succ_mul] at h2
         have h3: (i * hs.length + j + 1) * 60001 ≤ rs.length * hs.length * 60001:= Nat.mul_le_mul_right _ (by omega)
         rw [List.length_append]
         rw [Nat.succ_mul] at h3
         omega
        obtain ⟨fn,tmps,assign,body,hy,hR⟩:= HY.out _ z.f z.val w7 J7 ⟨⟨z,rfl,rfl,RZ7⟩,MEM⟩ LEN
        clear u1 u2 hz hin MEM LEN HH
        gi_wp2
        refine ⟨trivial,rfl,(CallsIn.inRound l2 (calls_in TC.out)).mono ?_⟩
        rintro e w8 ⟨rfl,rfl⟩
        gi_wp2
        refine ⟨rfl,(show RoundIn (Fence.wide.inRound l2) _ _ _ _ _ _ _ _ _ from hR).mono ?_⟩
        rintro e w9 (⟨rfl,J9',r9⟩ | ⟨rfl,Jx9,r9⟩)
        ·have ON9:= ON7.rnd r9 HX.out NB.out
         have H69: w9.heap[S6]? = some (.cells (rv r).toArray 48):= r9.other H67 (fun hx => by have:= (HX.out _ hx).2;omega) rfl
         have MK9:= MK7.rnd r9 (fun k hk => (HX.out k hk).2)
         have KF9:= KF7.trans (r9.keeps (B:= w4.heap.size) (fun k hk => by have:= (HX.out k hk).2;omega))
         gi_wp2
         exact ⟨KF9,(HR7.out _).trans (r9.mono fun k hk => .inl hk),ON9,H69,MK9,by rw [flat_snoc,FSo.out];exact J9'⟩
        ·have MK9: Marks B Ds2 w9:= ⟨fun D hD => r9.same D _ (MK7.low D hD) (MK7.open_ D hD) rfl,MK7.nodup,MK7.low⟩
         have KF9:= KF7.trans (keeps_up r9 (Nat.le_of_lt hB4))
         gi_wp2
         exact ⟨KF9,rfl,MK9,_,Jx9⟩
       ·rw [decide_eq_false hin] at TC
        have FSo:= hideP (hd_out (w:= ⟨hs,ns⟩) u1 hin)
        clear u1 u2 hz hin HH
        gi_wp2
        refine ⟨trivial,rfl,(CallsIn.inRound l2 (calls_in TC.out)).mono ?_⟩
        rintro e w8 ⟨rfl,rfl⟩
        gi_wp2
        refine ⟨(fun _ h => by cases h), ?_⟩
        gi_wp2
        exact ⟨KF7,HR7.out _,ON7,H67,MK7,by rw [flat_snoc,FSo.out,List.append_nil];exact J7⟩
     case done =>
      rintro D ys W7 hD7 hS7 ⟨ON7,_,MK7,J7⟩ hK7
      have MK8: Marks B (D:: Ds2) W7:= ⟨fun D' h' => (by
       rcases List.mem_cons.1 h' with rfl | h'
       ·exact hK7
       ·exact MK7.open_ D' h'),List.nodup_cons.2 ⟨fun hm => (by have:= DS.out D hm;omega),MK7.nodup⟩,fun D' h' => (by
       rcases List.mem_cons.1 h' with rfl | h'
       ·omega
       ·exact MK7.low D' h')⟩
      have GS:= hideP hS7
      clear hS7
      go_wp2_with fail
      refine Handed.intro (hs.length - (j + 1)) (by omega) (hJ8 _ _ _ ⟨j + 1,fs2 ++ ys.flatMap (Ml.hd ⟨hs,ns⟩ r.r),D:: Ds2,_,_,_,_,_,_,_,_,_,_,_,_,_,_,rfl,by omega,hideP (fun x => ?_), ?_,ON7,MK8,by assumption,J7,by go_num⟩)
      ·rw [List.mem_append,hf2.out x,HT2.out x,GS.out.1 ⟨hs,ns⟩ x]
       constructor
       ·rintro ((h | h) | h)
        ·exact .inl h
        ·exact .inr (.inl h)
        ·exact .inr (.inr h)
       ·rintro (h | h | h)
        ·exact .inl (.inl h)
        ·exact .inl (.inr h)
        ·exact .inr h
      ·have h1:= Ml.hds_few ⟨hs,ns⟩ r.r ys
       have h2:= GS.out.2
       rw [List.length_append,← Nat.add_assoc,Nat.succ_mul]
       omega
     case stop =>
      rintro D c pre W7 hD7 _ ⟨rfl,MK7,q,hq⟩ hK7
      refine wpIn_ret ?_
      have MK8: Marks B (D:: Ds2) W7:= ⟨fun D' h' => (by
       rcases List.mem_cons.1 h' with rfl | h'
       ·exact hK7
       ·exact MK7.open_ D' h'),List.nodup_cons.2 ⟨fun hm => (by have:= DS.out D hm;omega),MK7.nodup⟩,fun D' h' => (by
       rcases List.mem_cons.1 h' with rfl | h'
       ·omega
       ·exact MK7.low D' h')⟩
      exact leaves_marks (D:: Ds2) W7 MK8.open_ MK8.nodup ⟨_,results_none rfl _ _ _,⟨_,rfl⟩,.inr ⟨q,HJX.out _ _ _ hq (shut_itr (D:: Ds2) W7 MK8.open_ MK8.nodup MK8.low)⟩⟩
    ·have q2: ¬ (j: Int) < (hs.length: Int):= by omega
     obtain rfl: j = hs.length:= by omega
     have HF:= hf2.out
     rw [List.take_length] at HF
     have HF2:= hideP HF
     clear HF hf2
     go_wp2_with fail
     refine Handed.intro (rs.length - (i + 1)) (by omega) (hJ9 _ _ _ ⟨i + 1,fs2,Ds2,_,_,_,_,_,_,_,_,_,_,_,_,_,_,_,_,_,_,rfl,by omega,hideP (fun x => by rw [HF2.out x];exact (HT.out x).symm), ?_,ON3,MK3,J4,by go_num⟩)
     rw [Nat.succ_mul];exact hl2
  ·have q1: ¬ (i: Int) < (rs.length: Int):= by omega
   obtain rfl: i = rs.length:= by omega
   have HF:= hfs.out
   rw [List.take_length] at HF
   have HF2:= hideP HF
   have JS:= HJ.out _ _ _ J2 (shut_itr Ds wr MK1.open_ MK1.nodup MK1.low)
   have MO:= hideP MK1
   clear HF hfs
   go_wp2_with fail
   exact leaves_marks Ds wr MO.out.open_ MO.out.nodup ⟨_,results_none rfl _ _ _,⟨_,rfl⟩,.inl ⟨fs,HF2.out,JS⟩⟩
end Go.Proofs.YtpdmmmdkpipmkaaGreatDoor
