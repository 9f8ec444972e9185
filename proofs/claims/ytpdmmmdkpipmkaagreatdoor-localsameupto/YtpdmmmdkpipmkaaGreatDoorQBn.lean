/-
  ordered: a list in order, each once, in a row of its own.
-/
import Derived.Shelf.SlSortCmp.QuietGrown
import Derived.Lib.SliceRun
import Derived.Shelf.RegionOpenPlain
import Derived.Test.YtpdmmmdkpipmkaaGreatDoorQTk4
import Derived.Test.YtpdmmmdkpipmkaaGreatDoorQAp2
import Derived.Test.YtpdmmmdkpipmkaaGreatDoorQBi
import Derived.Test.YtpdmmmdkpipmkaaGreatDoorQMk
set_option maxRecDepth 100000
set_option maxHeartbeats 4000000
namespace Go.Proofs.YtpdmmmdkpipmkaaGreatDoor
open Go.RowKit Go.Sort
structure OwF (w: World) (base: Nat) (a: Option Addr) (cap: Nat) (xs: List Fv): Prop where
 room: xs.length ≤ cap
 most: cap ≤ maxLen
 few: xs.length ≤ 1954687338211
 void: a = none → xs = [] ∧ cap = 0
 row: ∀ ad,a = some ad → ∃ g,ad = ⟨g,0,none⟩ ∧ base ≤ g ∧ g < w.heap.size ∧ RowF w g xs
theorem OwF.nil (w: World) (base: Nat): OwF w base none 0 []:= ⟨Nat.le_refl _,by simp,by simp,fun _ => ⟨rfl,rfl⟩,fun _ h => by cases h⟩
theorem OwF.lies {w: World} {base: Nat} {a: Option Addr} {cap: Nat} {xs: List Fv} (h: OwF w base a cap xs): Lies w a cap xs:=
 ⟨h.room,h.most,h.few,h.void,fun ad ha => by obtain ⟨g,rfl,_,_,hr⟩:= h.row ad ha;exact hr.cells⟩
theorem OwF.below {w w': World} {base: Nat} {a: Option Addr} {cap: Nat} {xs: List Fv} (h: OwF w base a cap xs) (hb: Below w.heap.size w w'): OwF w' base a cap xs:=
 ⟨h.room,h.most,h.few,h.void,fun ad ha => by obtain ⟨g,rfl,h1,h2,hr⟩:= h.row ad ha;exact ⟨g,rfl,h1,Nat.lt_of_lt_of_le h2 hb.size,hr.below hb h2⟩⟩
theorem OwF.lower {w: World} {base base': Nat} {a: Option Addr} {cap: Nat} {xs: List Fv} (h: OwF w base a cap xs) (hb: base' ≤ base): OwF w base' a cap xs:=
 ⟨h.room,h.most,h.few,h.void,fun ad ha => by obtain ⟨g,rfl,h1,h2,hr⟩:= h.row ad ha;exact ⟨g,rfl,Nat.le_trans hb h1,h2,hr⟩⟩
theorem own_facts {w: World} {base: Nat} {v: Value} {n: Nat} {xs: List Fv} (h: w.ownsRow base 37 4 v n (fcells xs)) (hf: xs.length ≤ 1954687338211):
 ∃ a c,v = .slice a xs.length c ∧ OwF w base a c xs:= by
 have hn: xs.length = n:= by have:= h.1;rw [fcells_len] at this;omega
 subst hn
 rcases h.2 with ⟨hv,h0⟩ | ⟨g,cap,cur,hv,hb,hg,hnc,hcm,hcs,ht⟩
 ·have: xs = []:= List.eq_nil_of_length_eq_zero h0
  subst this
  exact ⟨none,0,hv,OwF.nil w base⟩
 ·have hgs: g < w.heap.size:= by
   rcases Nat.lt_or_ge g w.heap.size with h' | h'
   ·exact h'
   ·simp [h'] at hg
  refine ⟨some ⟨g,0,none⟩,cap,hv,⟨hnc,hcm,hf,(fun h => by cases h),fun ad ha => ?_⟩⟩
  cases ha
  refine ⟨g,rfl,hb,hgs,fun i hi c hc => ?_⟩
  refine ⟨?_,heap_frozen hg _⟩
  have h1:= flat_get fv 4 fv_len xs i c hi hc
  have hj: i * 4 + c < xs.length * 4:= by omega
  rw [heap_cell hg,← h1]
  show _ = (fcells xs)[i * 4 + c]?
  rw [← ht,List.getElem?_take,if_pos hj,Array.getElem?_toList]
theorem wpList_append_fs (w: World) {ops: Array Oper} {rest: List Oper} {o: Oper} {a: Act} {Q: Exit → Act → World → Prop} (hgd: o.guard = none) (s x: Operand)
 (ho: o.op = .call { callee:= .builtin .append,args:= #[s,x],argTypes:= #[32,32] })
 (base: Nat) (v: Value) (ys xs: List Fv) (ao: Option Addr) (c: Nat) (hs: a.eval s = v) (hown: w.ownsRow base 37 4 v ys.length (fcells ys)) (hx: a.eval x = .slice ao xs.length c) (hl: Lies w ao c xs) (hbase: base ≤ w.heap.size)
 (hfew: ys.length + xs.length ≤ 1954687338211)
 (h: ∀ v' w',w'.ownsRow base 37 4 v' (ys ++ xs).length (fcells (ys ++ xs)) → w.grownBy w' v.ownBlock → wpList Tryz.prog ops Q rest (a.put o.dst v') w'): wpList Tryz.prog ops Q (o:: rest) a w:= by
 obtain ⟨i0,hi,hz0,hz1,hz2⟩:= info_parts Tryz.infoF
 cases ao with
 | none =>
  obtain ⟨rfl,rfl⟩:= hl.void rfl
  refine wpList_append_own_none hgd s x 32 ho base 37 i0 4 Tryz.underlying32 hi _ ys.length (fcells ys) hs hown hx ?_
  rw [hs] at *
  exact h v w (by simpa using hown) ⟨rfl,rfl,rfl,Nat.le_refl _,fun _ _ _ => rfl⟩
 | some ad =>
  refine wpList_append_own w hgd s x 32 ho base 37 i0 _ 4 72 Tryz.underlying32 hi hz0 hz1 hz2 rfl (by decide) _ ys.length (fcells ys) hs hown ad xs.length c (fcells xs) hx (fcells_len xs) (hl.cells ad rfl) (fcells_one xs) (by unfold maxLen;omega) (by omega) hbase ?_
  intro v' w' ho' hg' hn'
  exact h v' w' (by rw [List.length_append,fcells_append];exact ho') hg'
theorem compact_none (a: Option Addr) (c: Nat) (f: Value) (w: World): Calls Tryz.prog 95 #[.slice a 0 c,f] w fun e w' => e = .returned (.slice a 0 c) ∧ w = w':= by
 go_enter Tryz.func95,Tryz.ntmps95
 go_wp2_with fail
 go_ret
 exact ⟨rfl,rfl⟩
theorem kept_sortF (xs zs: List Fv) (hp: zs.Perm xs) (hs: SortedL zs): (kept cV zs zs.length).map Fv.f = sortF (xs.map Fv.f):= by
 have hpre: Pre cV:= pre_cF.on Fv.f
 obtain ⟨h1,h2⟩:= kept_sorted cV hpre zs (fun i j hi hj h => hs i j hi hj h) zs.length (Nat.le_refl _)
 refine sortF_of ?_ fun x => ?_
 ·show List.Pairwise _ _
  rw [List.pairwise_map];exact h1
 ·constructor
  ·intro hx
   obtain ⟨y,hy,rfl⟩:= List.mem_map.1 hx
   have:= kept_mem cV zs zs.length (Nat.le_refl _) y hy
   rw [List.take_length] at this
   exact List.mem_map_of_mem (hp.mem_iff.1 this)
  ·intro hx
   obtain ⟨y,hy,rfl⟩:= List.mem_map.1 hx
   obtain ⟨j,hj,rfl⟩:= List.getElem_of_mem (hp.mem_iff.2 hy)
   obtain ⟨z,hz,h0⟩:= h2 j hj hj
   have: z.f = zs[j].f:= (cF_zero _ _).1 h0
   rw [← this]
   exact List.mem_map_of_mem hz
theorem kept_in (xs zs: List Fv) (hp: zs.Perm xs): ∀ y ∈ kept cV zs zs.length,y ∈ xs:= fun y hy => by
 have:= kept_mem cV zs zs.length (Nat.le_refl _) y hy
 rw [List.take_length] at this
 exact hp.mem_iff.1 this
theorem ordered_at (a: Option Addr) (cap: Nat) (xs: List Fv) (w: World) (hl: Lies w a cap xs) (hx: ∀ x ∈ xs,Fv.At w x): Calls Tryz.prog 62 #[.slice a xs.length cap] w
 fun e w' => ∃ a' c' ys,e = .returned (.slice a' ys.length c') ∧ OwF w' w.heap.size a' c' ys ∧ (∀ y ∈ ys,y ∈ xs) ∧ ys.map Fv.f = sortF (xs.map Fv.f) ∧ Below w.heap.size w w':= by
 have hown: w.ownsRow w.heap.size 37 4 (.slice none 0 0) ([]: List Fv).length (fcells []):= ⟨rfl,.inl ⟨rfl,rfl⟩⟩
 have few:= hl.few
 have hS:= fun (f: Value) (c: Nat) (p: Option Addr) (W: World) => sort_none p c f W
 have hK:= fun (f: Value) (c: Nat) (p: Option Addr) (W: World) => compact_none p c f W
 go_enter Tryz.func62,Tryz.ntmps62
 go_wp2_with (at_builtin;refine wpList_append_fs w rfl _ _ rfl w.heap.size (.slice none 0 0) [] xs a cap rfl hown rfl hl (Nat.le_refl _) (by simpa using few) ?ap)
 case ap =>
  intro v' w1 ho hg
  have hb1: Below w.heap.size w w1:= (Below.refl _ _).grown hg (Nat.le_refl _) (fun k hk => by cases hk)
  obtain ⟨a1,c1,rfl,hO⟩:= own_facts ho few
  clear ho hg hown
  by_cases h0: xs = []
  ·subst h0
   go_wp2_with fail
   refine (hS _ _ _ _).mono ?_;rintro e w2 ⟨rfl,rfl⟩
   go_wp2_with fail
   refine (hK _ _ _ _).mono ?_;rintro e w2 ⟨rfl,rfl⟩
   go_wp2_with fail
   go_ret
   exact ⟨a1,c1,[],rfl,hO,fun _ h => h,by rw [List.map_nil];unfold sortF;rfl,hb1⟩
  ·have hpos: 0 < xs.length:= List.length_pos_iff.2 h0
   cases a1 with
   | none => exact absurd (hO.void rfl).1 h0
   | some ad =>
    obtain ⟨g,rfl,hg0,hg1,hrow⟩:= hO.row ad rfl
    have hsort:= sort_at w w1 g c1 xs hx hb1 hg0 hrow hg1 (by omega)
    go_wp2_with fail
    refine hsort.mono ?_;rintro e w2 ⟨rfl,zs,hp,hs,hrow2,hbut⟩
    have hlen: zs.length = xs.length:= hp.length_eq
    have hcp:= compact_at w w2 g c1 zs (fun x hx' => hx x (hp.mem_iff.1 hx')) (hb1.trans (hbut.lower hg0 hb1.size)) hg0 hrow2 (Nat.lt_of_lt_of_le hg1 hbut.size) (by have:= hO.room;omega) (by omega)
    rw [hlen] at hcp
    have e1:= hideP (kept_sortF xs zs hp hs)
    have e2:= hideP (kept_in xs zs hp)
    rw [hlen] at e1 e2
    have e3: (kept cV zs xs.length).length ≤ xs.length:= kept_len cV zs xs.length (by omega)
    generalize kept cV zs xs.length = ys at *
    have E3:= hideP e3;clear e3
    go_wp2_with fail
    refine hcp.mono ?_;rintro e w3 ⟨rfl,hrow3,hbut3⟩
    go_wp2_with fail
    go_ret
    have e3:= E3.out
    have hroom:= hO.room
    refine ⟨some ⟨g,0,none⟩,c1,ys,rfl,⟨by omega,hO.most,by omega,(fun h => by cases h),fun ad ha => ?_⟩,e2.out,e1.out,hb1.trans ((hbut.trans hbut3).lower hg0 hb1.size)⟩
    cases ha
    exact ⟨g,rfl,hg0,Nat.lt_of_lt_of_le hg1 (hbut.trans hbut3).size,hrow3⟩
end Go.Proofs.YtpdmmmdkpipmkaaGreatDoor
namespace Go.Proofs.YtpdmmmdkpipmkaaGreatDoor
open Go.RowKit Go.Lib Go.Shelf
theorem once_seq {w0: World} {b1 b2 b3: Nat} {ra: Option Addr} {rc: Nat} {rs: List Rv} {ha: Option Addr} {hc: Nat} {hs: List (List UInt8)} {na: Option Addr} {nc: Nat} {ns: List (List UInt8)} {fa: Option Addr} {fc: Nat} {zs: List Fv} {X: Nat → Prop} {W: World}
 (hi: AIn w0 ra rc rs ha hc hs na nc ns fa fc zs) (hcap: ACap b1 b2 b3 ra rc rs ha hc hs na nc ns fa fc zs W) (hX: ∀ k,X k → w0.heap.size ≤ k ∧ k < W.heap.size) (nb: ¬ X b1 ∧ ¬ X b2 ∧ ¬ X b3) (hb: Below w0.heap.size w0 W):
 SeqM Tryz.prog 242 97 #[ptr b1,ptr b2,ptr b3] (EltO ⟨hs,ns⟩ (rs.map Rv.r) (zs.map Fv.f)) (fun l => Rnd w0.heap.size fun k => X k ∨ (k = l ∧ w0.heap.size ≤ l)) (fun fs => ∀ x,x ∈ fs ↔ x ∈ Ml.onceL ⟨hs,ns⟩ (rs.map Rv.r) (zs.map Fv.f)) (fun _ => True) (rs.length * hs.length * 60001) W:= fun l J Jx hl ho hJ hJx hY h0 => by
 have no: ∀ (b: Nat) (c: Array Value) (t: TypeId),W.heap[b]? = some (.cells c t) → ¬ X b → ¬ (X b ∨ (b = l ∧ w0.heap.size ≤ l)):= fun b c t h hx q => by
  rcases q with q | ⟨rfl,_⟩
  ·exact hx q
  ·obtain ⟨o,h1,h2⟩:= ho
   rw [h] at h1;cases h1;cases h2
 refine (calls_in (once1_at w0 b1 b2 b3 ra rc rs ha hc hs na nc ns fa fc zs (fun k => X k ∨ (k = l ∧ w0.heap.size ≤ l)) l J Jx W hi hcap (fun k hk => ?_) ⟨no _ _ _ hcap.rules nb.1,no _ _ _ hcap.world nb.2.1,no _ _ _ hcap.facts nb.2.2⟩ hJ hJx hY hb h0)).mono ?_
 ·rcases hk with hk | ⟨rfl,hk⟩
  ·exact hX k hk
  ·exact ⟨hk,hl⟩
 ·rintro e W' ⟨hv,⟨ys,h1,h2⟩ | ⟨pre,h2⟩⟩
  ·exact ⟨hv,.inl ⟨ys,h1,h2⟩⟩
  ·exact ⟨hv,.inr ⟨pre,trivial,h2⟩⟩
theorem grown_rnd {n0 B: Nat} {X: Nat → Prop} {w w': World} {v: Value} {n: Nat} {xs: List Value} (ho: w.ownsRow B 37 4 v n xs) (hg: w.grownBy w' v.ownBlock) (hn: n0 ≤ B): Rnd n0 X w w':= by
 refine ⟨hg.os,hg.tape,hg.output,hg.size,fun k o hk _ hF => ?_⟩
 refine (hg.block k (heap_lt hk) fun e => ?_).trans hk
 rcases ho.2 with ⟨rfl,_⟩ | ⟨g,cap,cur,rfl,h1,h2,_⟩
 ·cases e
 ·obtain rfl: g = k:= by simpa [Value.ownBlock] using e.symm
  rw [h2] at hk;cases hk
  rcases hF with hF | hF
  ·omega
  ·simp [isF] at hF
theorem grown_safe {B: Nat} {w w': World} {v: Value} {n: Nat} {xs: List Value} {ty: TypeId} (ho: w.ownsRow B 37 4 v n xs) (hg: w.grownBy w' v.ownBlock) (hn: ty ≠ 37): Safe ty w w':= fun k cur hk => by
 refine (hg.block k (heap_lt hk) fun e => ?_).trans hk
 rcases ho.2 with ⟨rfl,_⟩ | ⟨g,cap,cur',rfl,h1,h2,_⟩
 ·cases e
 ·obtain rfl: g = k:= by simpa [Value.ownBlock] using e.symm
  rw [h2] at hk;cases hk;exact hn rfl
theorem ownsRow_itr {pt e: TypeId} {C: Nat} {W W': World} {base size n: Nat} {v: Value} {xs: List Value} (h: W.ownsRow base e size v n xs) (hi: Itr pt C W W') (hn: e ≠ pt): W'.ownsRow base e size v n xs:= by
 obtain ⟨h1,h2⟩:= h
 refine ⟨h1, ?_⟩
 rcases h2 with h2 | ⟨g,cap,cur,hv,hg,hh,rest⟩
 ·exact .inl h2
 ·exact .inr ⟨g,cap,cur,hv,hg,hi.same _ _ _ _ hh hn,rest⟩
theorem But.safeT {q: Nat} {w w': World} {C: Array Value} {T ty: TypeId} (b: But q w w') (hq: w.heap[q]? = some (.cells C T)) (hn: ty ≠ T): Safe ty w w':= fun k cur hk => b.heap (fun e => by subst e;rw [hq] at hk;cases hk;exact hn rfl) hk
theorem keeps_below {B: Nat} {W W': World} (h: Below W.heap.size W W'): KeepsFrom B W W':= (Rnd.of_below (n0:= 0) (X:= fun _ => False) h).keeps (fun _ h => h.elim)
end Go.Proofs.YtpdmmmdkpipmkaaGreatDoor
namespace Go.Proofs.YtpdmmmdkpipmkaaGreatDoor
open Mt (Tx Env uni lit lits head nm val vals name fact place)
structure SmH (r: Ru): Prop where
 home: OkK r.home.k
 to_: OkK r.to_.k
 args: ∀ t ∈ r.args,OkK t.k
theorem val_ok {t: Tm} {e: Env} {c: K} (ht: OkK t.k) (he: ∀ b ∈ e,OkK b.2) (h: val t e = some c): OkK c:= by
 unfold Mt.val at h
 split at h
 ·cases h
 ·split at h
  ·cases h;exact ht
  ·exact he _ (Ml.get_mem h)
theorem lits_ok {home: Tm}: ∀ {ls: List Lt} {fs: List F} {e e2: Env},(∀ b ∈ e,OkK b.2) → (∀ f ∈ fs,SmF f) → lits home ls fs e = some e2 → ∀ b ∈ e2,OkK b.2
 | [],[],_,_,he,_,h => by rw [lits] at h;cases h;exact he
 | l:: ls,f:: fs,e,e2,he,hf,h => by
  rw [lits] at h
  obtain ⟨e1,h1,h2⟩:= Option.bind_eq_some_iff.1 h
  have sf:= hf f (List.mem_cons_self ..)
  exact lits_ok (Ml.lit_vals (P:= OkK) he sf.nmAt sf.nmBy sf.ks h1) (fun x hx => hf x (List.mem_cons_of_mem _ hx)) h2
 | [],_:: _,_,_,_,_,h => by cases h
 | _:: _,[],_,_,_,_,h => by cases h
theorem vals_ok {e: Env} (he: ∀ b ∈ e,OkK b.2): ∀ {ts: List Tm} {cs: List K},(∀ t ∈ ts,OkK t.k) → vals e ts = some cs → ∀ c ∈ cs,OkK c
 | [],cs,_,h => by rw [vals] at h;cases h;exact fun _ h => by cases h
 | t:: ts,cs,ht,h => by
  rw [vals] at h
  obtain ⟨c,h1,h⟩:= Option.bind_eq_some_iff.1 h
  obtain ⟨cs',h2,rfl⟩:= Option.map_eq_some_iff.1 h
  intro x hx
  rcases List.mem_cons.1 hx with rfl | hx
  ·exact val_ok (ht t (List.mem_cons_self ..)) he h1
  ·exact vals_ok he (fun t' h' => ht t' (List.mem_cons_of_mem _ h')) h2 x hx
theorem name_ok {t: Tm} {e: Env} {s: Tx} (ht: OkK t.k) (he: ∀ b ∈ e,OkK b.2) (h: name t e = some s): s.length ≤ 1048576:= by
 unfold name at h
 obtain ⟨c,h1,h⟩:= Option.bind_eq_some_iff.1 h
 split at h
 ·cases h;exact (val_ok ht he h1).2.2
 ·cases h
theorem head_ok {r: Ru} {e: Env} {f: F} (hr: SmH r) (he: ∀ b ∈ e,OkK b.2) (h: head r e = some f): SmF f:= by
 unfold head fact at h
 obtain ⟨a,h1,h⟩:= Option.bind_eq_some_iff.1 h
 obtain ⟨b,h2,h⟩:= Option.bind_eq_some_iff.1 h
 obtain ⟨ks,h3,rfl⟩:= Option.map_eq_some_iff.1 h
 refine ⟨name_ok ?_ he h1,name_ok hr.home he h2,vals_ok he hr.args h3⟩
 unfold place
 split
 ·exact hr.home
 ·exact hr.to_
theorem ins_ok {w: Ml.Wd} {l: List Ru} {m: List F} {f: F} (hl: ∀ r ∈ l,SmH r) (hh: ∀ h ∈ w.homes,h.length ≤ 1048576) (hm: ∀ x ∈ m,SmF x) (h: Ml.Ins w l m f): SmF f:= by
 obtain ⟨r,hr,x,hx,e,hu,fs,h1,e2,h2,h3,_⟩:= h
 have he:= Ml.uni_vals (P:= OkK) (fun _ h => by cases h) (c:= nm x) ⟨by show (-9223372036854775808: Int) ≤ 0;omega,by show (0: Int) ≤ 9223372036854775807;omega,hh x hx⟩ hu
 exact head_ok (hl r hr) (lits_ok he (fun g hg => hm g (h1 g hg)) h2) h3
theorem step_ok {w: Ml.Wd} {l: List Ru} {m: List F} (hs: SS m) (hl: ∀ r ∈ l,SmH r) (hh: ∀ h ∈ w.homes,h.length ≤ 1048576) (hm: ∀ x ∈ m,SmF x): ∀ x ∈ Ml.step w l m,SmF x:= fun x hx => by
 rcases (Ml.mem_step hs).1 hx with h | h
 ·exact hm x h
 ·exact ins_ok hl hh hm h
end Go.Proofs.YtpdmmmdkpipmkaaGreatDoor
namespace Go.Proofs.YtpdmmmdkpipmkaaGreatDoor
open Go.RowKit Go.Lib Go.Shelf
attribute [local go_sem] Oper.semAt_some
structure ApI (w: World) (b: Nat) (w0: Ml.Wd) (l: List Ru) (m: List F) (pre: List F) (W: World): Prop where
 row: ∃ ys a c,W.heap[b]? = some (.cells #[.slice a (List.length ys) c] 32) ∧ W.ownsRow w.heap.size 37 4 (.slice a (List.length ys) c) (List.length ys) (fcells ys) ∧ EachK W ys ∧ ys.length ≤ 1954687338211 ∧ ys.map Fv.f = pre
 below: Below w.heap.size w W
end Go.Proofs.YtpdmmmdkpipmkaaGreatDoor
namespace Go.Proofs.YtpdmmmdkpipmkaaGreatDoor
open Go.RowKit Go.Sort
theorem found_iff {l: List F} (hs: SS l) (x: F) (i: Nat) (hi: i ≤ l.length) (h1: ∀ k (hk: k < l.length),k < i → cF l[k] x < 0) (h2: ∀ k (hk: k < l.length),i ≤ k → 0 ≤ cF l[k] x):
 hasF l x = (if h: i < l.length then decide (cF l[i] x = 0) else false):= by
 rw [Bool.eq_iff_iff,hasF_iff]
 constructor
 ·intro hx
  obtain ⟨m,hm,rfl⟩:= List.getElem_of_mem hx
  have h0:= cF_self l[m]
  have hmi: i ≤ m:= by
   rcases Nat.lt_or_ge m i with h | h
   ·have:= h1 m hm h;omega
   ·exact h
  have hlt: i < l.length:= by omega
  rw [dif_pos hlt,decide_eq_true_eq]
  rcases Nat.lt_or_eq_of_le hmi with h | h
  ·have h3:= List.pairwise_iff_getElem.1 hs i m hlt hm h
   have:= h2 i hlt (Nat.le_refl _)
   omega
  ·simp only [h];exact h0
 ·intro h
  split at h
  ·rename_i hlt
   rw [decide_eq_true_eq,cF_zero] at h
   rw [← h];exact List.getElem_mem hlt
  ·cases h
end Go.Proofs.YtpdmmmdkpipmkaaGreatDoor
namespace Go.Proofs.YtpdmmmdkpipmkaaGreatDoor
open Go.RowKit Go.Sort
def SPos (ys: List Fv) (f: F) (i: Nat): Prop:= i ≤ ys.length ∧ (∀ k (hk: k < ys.length),k < i → cF ys[k].f f < 0) ∧ ∀ k (hk: k < ys.length),i ≤ k → 0 ≤ cF ys[k].f f
theorem search2_at (a: Option Addr) (c: Nat) (ys: List Fv) (x: Fv) (w: World) (hl: Lies w a c ys) (hys: ∀ y ∈ ys,Fv.At w y) (hx: Fv.At w x) (hs: SS (ys.map Fv.f)):
 Calls Tryz.prog 101 #[.slice a ys.length c,x.val,.func (.func 94) #[] #[]] w fun e w' => (∃ i: Nat,e = .returned (.tuple #[.int .i64 (i: Int),.bool (hasF (ys.map Fv.f) x.f)]) ∧ SPos ys x.f i) ∧ Grew w w':= by
 have mixed: Tryz.prog.follows .mixedOrders = true:= by kernel_rfl
 have eg: ∀ args w,(callFunc 94 args).run Tryz.prog w = .ok (.enter 94 args) w:= enters_of Tryz.func94 (by kernel_rfl) rfl
 have hC:= fun (p: Fv) (W: World) (hp: Fv.At W p) (hq: Fv.At W x) => order_at p x W hp hq
 have few:= hl.few
 have hord: Hid (∀ i j (hi: i < ys.length) (hj: j < ys.length),i < j → cF ys[i].f ys[j].f < 0):= fun i j hi hj hij => by
  have:= List.pairwise_iff_getElem.1 hs i j (by simpa using hi) (by simpa using hj) hij
  simpa using this
 have hfin: Hid (∀ i,i ≤ ys.length → (∀ k (hk: k < ys.length),k < i → cF ys[k].f x.f < 0) → (∀ k (hk: k < ys.length),i ≤ k → 0 ≤ cF ys[k].f x.f) → hasF (ys.map Fv.f) x.f = (if h: i < ys.length then decide (cF ys[i].f x.f = 0) else false)):= fun i hi h1 h2 => by
  rw [found_iff hs x.f i (by simpa using hi) (fun k hk hki => by rw [List.getElem_map];exact h1 k (by simpa using hk) hki) (fun k hk hki => by rw [List.getElem_map];exact h2 k (by simpa using hk) hki)]
  by_cases h: i < ys.length
  ·rw [dif_pos (by simpa using h),dif_pos h,List.getElem_map]
  ·rw [dif_neg (by simpa using h),dif_neg h]
 generalize hasF (ys.map Fv.f) x.f = R at *
 clear hs
 obtain ⟨x1,x2,x3,xa,xc,xk⟩:= x
 go_enter Tryz.func101,Tryz.ntmps101
 go_wp2_with fail
 obtain ⟨w2,hw2⟩: ∃ w2,w2 = w.alloc (.cells #[str x1,str x2,str x3,.slice xa xk.length xc] 37):= ⟨_,rfl⟩
 have G2: Grew w w2:= by rw [hw2];exact (Grew.refl w).allocs _
 have H2: w2.heap[w.heap.size]? = some (.cells #[str x1,str x2,str x3,.slice xa xk.length xc] 37):= by rw [hw2];exact heap_alloc_new w _
 rw [← hw2]
 clear hw2
 have b0:= heap_cell H2 0;have b1:= heap_cell H2 1;have b2:= heap_cell H2 2;have b3:= heap_cell H2 3
 simp at b0 b1 b2 b3
 go_loopw [9,10,11] (fun v9 v10 _ wr => ∃ i j: Nat,v9 = .int .i64 (i: Int) ∧ v10 = .int .i64 (j: Int) ∧ i ≤ j ∧ j ≤ ys.length ∧ Hid (∀ k (hk: k < ys.length),k < i → cF ys[k].f (Fv.f ⟨x1,x2,x3,xa,xc,xk⟩) < 0) ∧ Hid (∀ k (hk: k < ys.length),j ≤ k → 0 ≤ cF ys[k].f (Fv.f ⟨x1,x2,x3,xa,xc,xk⟩)) ∧ Grew w2 wr) (fun v9 v10 _ _ => (RowKit.intOf v10).toNat - (RowKit.intOf v9).toNat)
 case atStart => exact ⟨0,ys.length,rfl,rfl,by omega,by omega,fun k _ h => absurd h (by omega),fun k hk h => absurd hk (by omega),Grew.refl _⟩
 case round =>
  obtain ⟨i,j,rfl,rfl,hij,hj,hlo,hhi,hg⟩:= hrel
  have hGw:= G2.trans hg
  have p0:= (hg.below.cell (p:= ⟨w.heap.size,0,none⟩) (cell_block b0)).trans b0
  have p1:= (hg.below.cell (p:= ⟨w.heap.size,1,none⟩) (cell_block b1)).trans b1
  have p2:= (hg.below.cell (p:= ⟨w.heap.size,2,none⟩) (cell_block b2)).trans b2
  have p3:= (hg.below.cell (p:= ⟨w.heap.size,3,none⟩) (cell_block b3)).trans b3
  have C0:= fun n os => cell_grown (cell_block p0) p0 n os
  have C1:= fun n os => cell_grown (cell_block p1) p1 n os
  have C2:= fun n os => cell_grown (cell_block p2) p2 n os
  have C3:= fun n os => cell_grown (cell_block p3) p3 n os
  clear b0 b1 b2 b3 p0 p1 p2 p3
  by_cases hlt: i < j
  ·have q1: (i: Int) < (j: Int):= by omega
   obtain ⟨h,hh⟩: ∃ h,h = (i + j) / 2:= ⟨_,rfl⟩
   have hh1: i ≤ h:= by omega
   have hh2: h < j:= by omega
   have qh: ((i: Int) + (j: Int)) / 2 = (h: Int):= by omega
   have hhl: h < ys.length:= by omega
   have q2: (h: Int) < (ys.length: Int):= by omega
   obtain ⟨P,O,rfl⟩:= hl.addr (Nat.lt_of_le_of_lt (Nat.zero_le _) hhl)
   obtain ⟨a1,a2,a3,a4⟩:= (hl.below hGw.below (Nat.le_refl _)).get h hhl
   have hn:= fun n os => hC (ys[h]'hhl) (grow (wr.drewN n) os) ((hys _ (List.getElem_mem hhl)).grew (hGw.trans (Grew.grow _ _ _))) (hx.grew (hGw.trans (Grew.grow _ _ _)))
   have hlo': Hid (cF (ys[h]'hhl).f (Fv.f ⟨x1,x2,x3,xa,xc,xk⟩) < 0 → ∀ k (hk: k < ys.length),k < h + 1 → cF ys[k].f (Fv.f ⟨x1,x2,x3,xa,xc,xk⟩) < 0):= fun h0 k hk hkh => by
    by_cases e: k = h
    ·subst e;exact h0
    ·exact pre_cF.lt_of_le_of_lt (Int.le_of_lt (hord.out k h hk hhl (by omega))) h0
   have hhi': Hid (¬ cF (ys[h]'hhl).f (Fv.f ⟨x1,x2,x3,xa,xc,xk⟩) < 0 → ∀ k (hk: k < ys.length),h ≤ k → 0 ≤ cF ys[k].f (Fv.f ⟨x1,x2,x3,xa,xc,xk⟩)):= fun h0 k hk hkh => by
    by_cases e: k = h
    ·subst e;omega
    ·have h1:= hord.out h k hhl hk (by omega)
     rcases Int.lt_or_le (cF ys[k].f (Fv.f ⟨x1,x2,x3,xa,xc,xk⟩)) 0 with h2 | h2
     ·exact absurd (pre_cF.lt_of_le_of_lt (Int.le_of_lt h1) h2) h0
     ·exact h2
   generalize (ys[h]'hhl) = p at *
   have A1:= fun n os => cell_grown (cell_block a1) a1 n os
   have A2:= fun n os => cell_grown (cell_block a2) a2 n os
   have A3:= fun n os => cell_grown (cell_block a3) a3 n os
   have A4:= fun n os => cell_grown (cell_block a4) a4 n os
   have Hh:= hideP hh
   clear hh hC a1 a2 a3 a4
   by_cases hr: cF p.f (Fv.f ⟨x1,x2,x3,xa,xc,xk⟩) < 0
   ·have hl2:= hideP (hlo'.out hr)
    generalize cF p.f (Fv.f ⟨x1,x2,x3,xa,xc,xk⟩) = r at hn hr
    go_wp2_with fail
    go_quiet_grown (first | (go_at_fn 94;refine Calls.grown_of (hn _ _)))
    go_wp2_with fail
    exact ⟨⟨h + 1,j,by simp,rfl,by omega,by omega,hl2,hhi,hg.trans (Grew.grow _ _ _)⟩,by simp [RowKit.intOf];omega⟩
   ·have hl2:= hideP (hhi'.out hr)
    generalize cF p.f (Fv.f ⟨x1,x2,x3,xa,xc,xk⟩) = r at hn hr
    go_wp2_with fail
    go_quiet_grown (first | (go_at_fn 94;refine Calls.grown_of (hn _ _)))
    go_wp2_with fail
    exact ⟨⟨i,h,rfl,rfl,by omega,by omega,hlo,hl2,hg.trans (Grew.grow _ _ _)⟩,by simp [RowKit.intOf];omega⟩
  ·have q1: ¬ (i: Int) < (j: Int):= by omega
   obtain rfl: i = j:= by omega
   have hR:= hfin.out i hj hlo.out hhi.out
   have POS: SPos ys (Fv.f ⟨x1,x2,x3,xa,xc,xk⟩) i:= ⟨hj,hlo.out,hhi.out⟩
   have HPOS:= hideP POS
   clear POS
   by_cases hil: i < ys.length
   ·rw [dif_pos hil] at hR
    have q2: (i: Int) < (ys.length: Int):= by omega
    obtain ⟨P,O,rfl⟩:= hl.addr (Nat.lt_of_le_of_lt (Nat.zero_le _) hil)
    obtain ⟨a1,a2,a3,a4⟩:= (hl.below hGw.below (Nat.le_refl _)).get i hil
    have hn:= fun n os => hC (ys[i]'hil) (grow (wr.drewN n) os) ((hys _ (List.getElem_mem hil)).grew (hGw.trans (Grew.grow _ _ _))) (hx.grew (hGw.trans (Grew.grow _ _ _)))
    generalize (ys[i]'hil) = p at *
    have A1:= fun n os => cell_grown (cell_block a1) a1 n os
    have A2:= fun n os => cell_grown (cell_block a2) a2 n os
    have A3:= fun n os => cell_grown (cell_block a3) a3 n os
    have A4:= fun n os => cell_grown (cell_block a4) a4 n os
    clear hC a1 a2 a3 a4 hlo hhi
    generalize cF p.f (Fv.f ⟨x1,x2,x3,xa,xc,xk⟩) = r at hn hR
    have HR:= hideP hR;clear hR
    go_wp2_with fail
    go_quiet_grown (first | (go_at_fn 94;refine Calls.grown_of (hn _ _)))
    go_wp2_with fail
    go_ret2
    exact ⟨⟨i,by rw [HR.out];rfl,HPOS.out⟩,hGw.trans (Grew.grow _ _ _)⟩
   ·rw [dif_neg hil] at hR
    have q2: ¬ (i: Int) < (ys.length: Int):= by omega
    have HR:= hideP hR
    clear hR hC C0 C1 C2 C3 hlo hhi hfin hord hys
    go_wp2_with fail
    go_big_region_o
    go_wp2_with fail
    go_ret2
    exact ⟨⟨i,by rw [HR.out];rfl,HPOS.out⟩,hGw.trans (Grew.drew _)⟩
theorem msearch_at (a: Option Addr) (c: Nat) (ys: List Fv) (x: Fv) (w: World) (hl: Lies w a c ys) (hys: ∀ y ∈ ys,Fv.At w y) (hx: Fv.At w x) (hs: SS (ys.map Fv.f)):
 Calls Tryz.prog 66 #[.slice a ys.length c,x.val] w fun e w' => (∃ i: Nat,e = .returned (.tuple #[.int .i64 (i: Int),.bool (hasF (ys.map Fv.f) x.f)]) ∧ SPos ys x.f i) ∧ Below w.heap.size w w':= by
 have A0:= fun o: Obj => below_alloc w o
 have T:= hideP (fun o => search2_at a c ys x (w.alloc o) (hl.below (A0 o) (Nat.le_refl _)) (fun y hy => Fv.At.below (hys y hy) (A0 o) (Nat.le_refl _)) (Fv.At.below hx (A0 o) (Nat.le_refl _)) hs)
 have HA:= hideP A0
 clear A0 hl hys hx hs
 obtain ⟨x1,x2,x3,xa,xc,xk⟩:= x
 go_enter Tryz.func66,Tryz.ntmps66
 go_wp2_with fail
 refine (T.out _).mono ?_
 rintro e w1 ⟨⟨i,rfl,hp⟩,hg⟩
 have HP:= hideP hp
 clear hp
 go_wp2_with fail
 go_ret2
 exact ⟨⟨i,rfl,HP.out⟩,Below.then (HA.out _) hg.below⟩
end Go.Proofs.YtpdmmmdkpipmkaaGreatDoor
