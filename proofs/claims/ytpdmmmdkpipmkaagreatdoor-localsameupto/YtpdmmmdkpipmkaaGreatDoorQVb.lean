/-
  Rows that lay there ahead of a call, or lie in blocks of their own type: what stands where blocks of other types turn.
-/
import Derived.Deep.RegionHeld3
import Derived.Test.YtpdmmmdkpipmkaaGreatDoorQE3
import Derived.Test.YtpdmmmdkpipmkaaGreatDoorQLe12
import Derived.Test.YtpdmmmdkpipmkaaGreatDoorQCp9
import Derived.Test.YtpdmmmdkpipmkaaGreatDoorQBt
set_option maxRecDepth 100000
set_option maxHeartbeats 4000000
namespace Go.Proofs.YtpdmmmdkpipmkaaGreatDoor
open Go.RowKit Go.Sort
structure RowO {α: Type} (D: Kd α) (m: Nat) (ty: TypeId) (w: World) (a: Option Addr) (cap: Nat) (xs: List α): Prop where
 row: Row D w a cap xs
 tag: ∀ ad,a = some ad → xs = [] ∨ ad.block < m ∨ ∃ cur: Array Value,w.heap[ad.block]? = some (.cells cur ty)
theorem RowT.o {α: Type} {D: Kd α} {ty: TypeId} {w: World} {a: Option Addr} {c: Nat} {xs: List α} (h: RowT D ty w a c xs) (m: Nat): RowO D m ty w a c xs:= ⟨h.row,fun ad ha => .inr (.inr (h.tag ad ha))⟩
theorem RowO.safe {α: Type} {D: Kd α} {m: Nat} {ty: TypeId} {w w': World} {a: Option Addr} {c: Nat} {xs: List α} (h: RowO D m ty w a c xs) (b: Below m w w') (s: Safe ty w w'): RowO D m ty w' a c xs:=
 ⟨⟨h.row.room,h.row.few,h.row.void,fun ad ha j u hu => by
  rw [← h.row.cells ad ha j u hu]
  refine World.cell?_of_block (w:= w) ?_
  rw [addr_add_block]
  rcases h.tag ad ha with rfl | hb | ⟨cur,hc⟩
  ·simp at hu
  ·exact b.block _ hb
  ·rw [s _ _ hc,hc]⟩,fun ad ha => by
  rcases h.tag ad ha with h0 | hb | ⟨cur,hc⟩
  ·exact .inl h0
  ·exact .inr (.inl hb)
  ·exact .inr (.inr ⟨cur,s _ _ hc⟩)⟩
def Lv.Ao (m: Nat) (w: World) (x: Lv): Prop:= RowO tK m 44 w x.a x.cap x.args
structure Rv.Ao (m: Nat) (w: World) (x: Rv): Prop where
 args: RowO tK m 44 w x.a x.cap x.args
 body: RowO lK m 52 w x.ba x.bcap x.body
 each: ∀ l ∈ x.body,Lv.Ao m w l
theorem Lv.Ao.aw {m: Nat} {w: World} {x: Lv} (h: Lv.Ao m w x): Lv.Aw w x:= RowO.row h
theorem Rv.Ao.aw {m: Nat} {w: World} {x: Rv} (h: Rv.Ao m w x): Rv.Aw w x:= ⟨h.args.row,h.body.row,fun l hl => Lv.Ao.aw (h.each l hl)⟩
theorem Lv.Ao.safe {m: Nat} {w w': World} {x: Lv} (h: Lv.Ao m w x) (b: Below m w w') (s: Safe 44 w w'): Lv.Ao m w' x:= RowO.safe h b s
structure Kq (m: Nat) (w w': World): Prop where
 low: Below m w w'
 tm: Safe 44 w w'
 lt: Safe 52 w w'
theorem Kq.refl (m: Nat) (w: World): Kq m w w:= ⟨Below.refl _ _,Safe.refl _ _,Safe.refl _ _⟩
theorem Kq.trans {m: Nat} {a b c: World} (x: Kq m a b) (y: Kq m b c): Kq m a c:= ⟨x.low.trans y.low,x.tm.trans y.tm,x.lt.trans y.lt⟩
theorem Kq.below {m: Nat} {w w': World} (h: Below w.heap.size w w') (hm: m ≤ w.heap.size): Kq m w w':= ⟨h.mono hm,Safe.below h,Safe.below h⟩
theorem Rv.Ao.safe {m: Nat} {w w': World} {x: Rv} (h: Rv.Ao m w x) (k: Kq m w w'): Rv.Ao m w' x:= ⟨h.args.safe k.low k.tm,h.body.safe k.low k.lt,fun l hl => (h.each l hl).safe k.low k.tm⟩
theorem Kq.rules {m base k n: Nat} {w w': World} {v: Value} {xs: List Value} (hown: w.ownsRow base 48 k v n xs) (hg: w.grownBy w' v.ownBlock) (hm: m ≤ base) (hb: base ≤ w.heap.size): Kq m w w':=
 ⟨(own_below hown hg hb).mono hm,Safe.grown hown hg (by decide),Safe.grown hown hg (by decide)⟩
theorem Kq.lits {m k n: Nat} {w1 w w': World} {v: Value} {xs: List Value} (x: Kq m w1 w) (hown: w.ownsRow w1.heap.size 52 k v n xs) (hg: w.grownBy w' v.ownBlock) (hm: m ≤ w1.heap.size) (hb: w1.heap.size ≤ w.heap.size): Kq m w1 w':= by
 have B:= own_below hown hg hb
 exact ⟨x.low.trans (B.mono hm),x.tm.trans (Safe.grown hown hg (by decide)),fun j cur hj => by
  rw [B.block j (heap_lt hj)];exact x.lt j cur hj⟩
theorem owns_lit {α: Type} (D: Kd α) (w: World) (ty: TypeId) (C: Array Value) (xs: List α) (h: C.toList = xs.flatMap D.enc) (hn: xs.length ≤ 1000): (w.alloc (.cells C ty)).ownsRow w.heap.size ty D.k (.slice (some ⟨w.heap.size,0,none⟩) xs.length xs.length) xs.length (xs.flatMap D.enc):=
 ⟨flat_len D.enc D.k D.len xs,.inr ⟨w.heap.size,xs.length,C,rfl,Nat.le_refl _,heap_alloc_new w _,Nat.le_refl _,by unfold maxLen;omega,by rw [← Array.length_toList,h,flat_len D.enc D.k D.len],by rw [h,List.take_of_length_le (by rw [flat_len D.enc D.k D.len];exact Nat.le_refl _)]⟩⟩
end Go.Proofs.YtpdmmmdkpipmkaaGreatDoor
namespace Go.Proofs.YtpdmmmdkpipmkaaGreatDoor
open Go.RowKit Go.Lib Go.Shelf
theorem indS_at (w: World) (a: Option Addr) (c: Nat) (N: List (List UInt8)) (s: List UInt8) (h: Row sK w a c N):
 Calls Tryz.prog 151 #[.slice a N.length c,str s] w fun e w' => ∃ i: Int,e = .returned (.int .i64 i) ∧ (0 ≤ i ↔ s ∈ N) ∧ w = w':= by
 have few:= h.few
 go_enter Tryz.func151,Tryz.ntmps151
 go_wp2_with fail
 go_loopw [8] (fun v wr => ∃ k: Nat,v = .int .i64 (k: Int) ∧ k ≤ N.length ∧ Hid (s ∉ N.take k) ∧ w = wr) (fun v _ => N.length - (RowKit.intOf v).toNat)
 case atStart => exact ⟨0,rfl,by omega,hideP (by simp),rfl⟩
 case round =>
  obtain ⟨k,rfl,hk,hno,rfl⟩:= hrel
  by_cases hlt: k < N.length
  ·have q0: (k: Int) < (N.length: Int):= by omega
   obtain ⟨b,o,rfl⟩:= h.addr (by omega)
   have c1:= h.text k hlt
   by_cases hq: s = N[k]
   ·have q1: (s == N[k]) = true:= by simpa using hq
    have hm:= hideP (show s ∈ N from hq ▸ List.getElem_mem hlt)
    clear hq
    go_wp2_with fail
    go_ret
    exact ⟨k,rfl,⟨fun _ => hm.out,fun _ => by omega⟩,rfl⟩
   ·have q1: (s == N[k]) = false:= by simpa using hq
    have HN: Hid (s ∉ N.take (k + 1)):= hideP (by
     rw [← List.take_append_getElem hlt]
     simp only [List.mem_append,List.mem_singleton,not_or]
     exact ⟨hno.out,hq⟩)
    clear hq
    go_wp2_with fail
    exact ⟨⟨k + 1,rfl,hlt,HN,by first | rfl | trivial⟩,by simp [RowKit.intOf];omega⟩
  ·have q0: ¬ (k: Int) < (N.length: Int):= by omega
   obtain rfl: k = N.length:= by omega
   have hno':= hno.out
   rw [List.take_length] at hno'
   have HN:= hideP hno'
   clear hno'
   go_wp2_with fail
   go_ret
   exact ⟨-1,rfl,⟨fun h => absurd h (by decide),fun h => absurd h HN.out⟩,rfl⟩
theorem contS_at (w: World) (a: Option Addr) (c: Nat) (N: List (List UInt8)) (s: List UInt8) (h: Row sK w a c N):
 Calls Tryz.prog 100 #[.slice a N.length c,str s] w fun e w' => e = .returned (.bool (decide (s ∈ N))) ∧ w = w':= by
 go_enter Tryz.func100,Tryz.ntmps100
 go_wp2_with fail
 refine (indS_at w a c N s h).mono ?_
 rintro _ w1 ⟨i,rfl,hi,rfl⟩
 have Hi:= hideP hi
 clear hi
 go_wp2_with fail
 go_ret
 refine ⟨ret_bool ?_,rfl⟩
 rw [Bool.eq_iff_iff]
 simpa using Hi.out
end Go.Proofs.YtpdmmmdkpipmkaaGreatDoor
namespace Go.Proofs.YtpdmmmdkpipmkaaGreatDoor
open Go.RowKit Go.Lib Go.Shelf
structure AddAt (base: Nat) (w: World) (bs bl bm: Nat) (L: List (List UInt8)): Prop where
 cs: w.heap[bs]? = some (.cells #[.map (some bm)] 178)
 cl: ∃ v,w.heap[bl]? = some (.cells #[v] 53) ∧ w.ownsRow base 9 sK.k v L.length (L.flatMap sK.enc)
 cm: SeenAt w bm L
 ls: base ≤ bs
 ll: base ≤ bl
 lm: base ≤ bm
theorem AddAt.next {base: Nat} {w w': World} {bs bl bm: Nat} {L: List (List UInt8)} (h: AddAt base w bs bl bm L) (hb: Below w.heap.size w w'): AddAt base w' bs bl bm L:= by
 obtain ⟨v,h1,h2⟩:= h.cl
 exact ⟨below_heap hb h.cs,⟨v,below_heap hb h1,ownsRow_keep h2 (Safe.below hb)⟩,h.cm.below hb h.cm.lt,h.ls,h.ll,h.lm⟩
def Kp3 (w w': World): Prop:= ∀ ty: TypeId,ty ≠ 178 → ty ≠ 53 → ty ≠ 9 → Safe ty w w'
theorem Kp3.below {w w': World} (h: Below w.heap.size w w'): Kp3 w w':= fun _ _ _ _ => Safe.below h
theorem Kp3.trans {a b c: World} (x: Kp3 a b) (y: Kp3 b c): Kp3 a c:= fun ty h1 h2 h3 => (x ty h1 h2 h3).trans (y ty h1 h2 h3)
theorem safe_map {ty: TypeId} {bm: Nat} {w w': World} {es: Array MapEntry} {clock: Nat} (h: But bm w w') (hm: w.heap[bm]? = some (.map es clock)): Safe ty w w':= fun k cur hk => h.heap (fun e => by subst e;rw [hm] at hk;cases hk) hk
theorem add_at (t: Tm) (base bs bl bm: Nat) (L: List (List UInt8)) (w: World) (h: AddAt base w bs bl bm L) (ht: t.v.length ≤ maxLen) (hL: L.length < 1000000):
 Calls Tryz.prog 132 #[tval t,ptr bs,ptr bl] w fun e w' => e = .returned (.tuple #[]) ∧ AddAt base w' bs bl bm (Ck.wv L t) ∧ Below base w w' ∧ Kp3 w w':= by
 obtain ⟨v,⟨nm,n,s⟩⟩:= t
 simp only at ht
 have hbase: base ≤ w.heap.size:= Nat.le_trans h.lm (Nat.le_of_lt h.cm.lt)
 have A1:= below_alloc w (.cells #[str v,.bool nm,.int .i64 n,str s] 44)
 have h1:= h.next A1
 generalize hW1: w.alloc (.cells #[str v,.bool nm,.int .i64 n,str s] 44) = W1 at A1 h1
 have A2:= below_alloc W1 (.cells #[] 179)
 have h2:= h1.next A2
 have B2:= Below.then A1 A2
 have c1: W1.cell? ⟨bs,0,none⟩ = some (.map (some bm)):= by rw [heap_cell h1.cs];rfl
 have lk:= h1.cm.look v ht
 have n1:= heap_alloc_new w (.cells #[str v,.bool nm,.int .i64 n,str s] 44)
 rw [hW1] at n1
 have n2:= below_heap A2 n1
 generalize hW2: W1.alloc (.cells #[] 179) = W2 at A2 h2 B2 n2
 have d0: W1.cell? ⟨w.heap.size,0,none⟩ = some (str v):= by rw [heap_cell n1];rfl
 have d2: W2.cell? ⟨w.heap.size,0,none⟩ = some (str v):= by rw [heap_cell n2];rfl
 by_cases hin: v ∈ L
 ·have hw: Hid (Ck.wv L ⟨v,⟨nm,n,s⟩⟩ = L):= by
   show Ck.wv L ⟨v,⟨nm,n,s⟩⟩ = L
   unfold Ck.wv;rw [if_pos (.inr hin)]
  rw [show decide (v ∈ L) = true by simpa using hin] at lk
  clear hin
  subst hW2 hW1
  go_enter Tryz.func132,Tryz.ntmps132
  go_wp2_with fail
  refine bodyPost_ret (results_none rfl _ _ _) rfl ?_
  exact ⟨rfl,by rw [hw.out];exact h2,B2.mono hbase,Kp3.below B2⟩
 ·rw [show decide (v ∈ L) = false by simpa using hin] at lk
  by_cases he: v = []
  ·have hw: Hid (Ck.wv L ⟨v,⟨nm,n,s⟩⟩ = L):= by
    show Ck.wv L ⟨v,⟨nm,n,s⟩⟩ = L
    unfold Ck.wv;rw [if_pos (.inl he)]
   have q: v.isEmpty = true:= by simpa using he
   clear hin he
   subst hW2 hW1
   go_enter Tryz.func132,Tryz.ntmps132
   go_wp2_with fail
   refine bodyPost_ret (results_none rfl _ _ _) rfl ?_
   exact ⟨rfl,by rw [hw.out];exact h2,B2.mono hbase,Kp3.below B2⟩
  ·have hw: Hid (Ck.wv L ⟨v,⟨nm,n,s⟩⟩ = L ++ [v]):= by
    show Ck.wv L ⟨v,⟨nm,n,s⟩⟩ = L ++ [v]
    unfold Ck.wv;rw [if_neg (by simp only;exact fun h => h.elim he hin)]
   have q: v.isEmpty = false:= by simpa using he
   clear hin he
   obtain ⟨w3,hput,s3,t3⟩:= h2.cm.put v ht hL
   obtain ⟨es,clock,hm2⟩:= h2.cm.map
   obtain ⟨u,l2,o2⟩:= h2.cl
   have K3: ∀ ty: TypeId,Safe ty W2 w3:= fun ty => safe_map t3 hm2
   have e3:= K3 _ _ _ h2.cs
   have l3:= K3 _ _ _ l2
   have o3:= ownsRow_keep o2 (K3 _)
   have n3:= K3 _ _ _ n2
   have cs2: W2.cell? ⟨bs,0,none⟩ = some (.map (some bm)):= by rw [heap_cell h2.cs];rfl
   have d3: w3.cell? ⟨w.heap.size,0,none⟩ = some (str v):= by rw [heap_cell n3];rfl
   have cl3: w3.cell? ⟨bl,0,none⟩ = some u:= by rw [heap_cell l3];rfl
   have A4:= below_alloc w3 (.cells #[str v] 9)
   have o4:= ownsRow_keep o3 (Safe.below A4: Safe 9 _ _)
   have R4: Row sK (w3.alloc (.cells #[str v] 9)) (some ⟨w3.heap.size,0,none⟩) 1 [v]:= row_new sK w3 _ _ v rfl
   have l4:= below_heap A4 l3
   have e4:= below_heap A4 e3
   have s4:= s3.below A4 s3.lt
   have hb3: base ≤ (w3.alloc (.cells #[str v] 9)).heap.size:= by have:= A4.size;have:= t3.size;have:= B2.size;omega
   subst hW2 hW1
   go_enter Tryz.func132,Tryz.ntmps132
   go_wp2_with (first
    | (at_builtin;refine wpList_append_rec sK _ rfl _ _ 53 9 rfl _ 16 Tryz.underlying53 Tryz.iS1 rfl (by decide) base u L [v] (some ⟨w3.heap.size,0,none⟩) 1 1 rfl o4 rfl rfl R4 hb3 (by simp only [List.length_cons,List.length_nil];omega) ?_;intro v5 w5 o5 g5;obtain ⟨a5,c5,rfl,r5,f5⟩:= own_row (D:= sK) (xs:= L ++ [v]) o5 (by simp only [List.length_append,List.length_cons,List.length_nil];omega);have l5:= Safe.grown o4 g5 (by decide) _ _ l4;have e5:= Safe.grown o4 g5 (by decide) _ _ e4)
    | (refine wpList_store_cel rfl 53 _ _ rfl bl 0 1 53 (.slice a5 (L ++ [v]).length c5) #[.slice a5 (L ++ [v]).length c5] rfl rfl l5 rfl (by decide) (by kernel_rfl) rfl rfl ?_;intro w6 l6 t6))
   have B5: Below base w w5:= ((B2.mono hbase).trans ((t3.lower h2.lm (by have:= B2.size;omega)))).trans ((A4.mono (by have:= t3.size;have:= B2.size;omega)).trans (own_below o4 g5 hb3))
   have hs5:= B5.size
   have s5: SeenAt w5 bm (L ++ [v]):= s4.block (g5.block bm s4.lt (fun e => by
    obtain ⟨es',ck',hm4⟩:= s4.map
    rcases o4.2 with ⟨h0,_⟩ | ⟨g',c',cur,hv,hgg,hh,_⟩
    ·rw [h0] at e;cases e
    ·rw [hv] at e
     have e': bm = g':= by cases e;rfl
     rw [e',hh] at hm4
     cases hm4))
   have K5: Kp3 w w5:= fun ty y1 y2 y3 => ((Safe.below B2).trans (K3 ty)).trans ((Safe.below A4).trans (Safe.grown o4 g5 y3))
   go_end0
   refine ⟨rfl, ?_,B5.trans (t6.lower h.ll (by omega)),K5.trans fun ty y1 y2 y3 => Safe.but t6 l5 y2⟩
   rw [hw.out]
   refine ⟨Safe.but t6 l5 (by decide) _ _ e5,⟨_,l6,ownsRow_keep o5 (Safe.but t6 l5 (by decide))⟩,s5.block ?_,h.ls,h.ll,h.lm⟩
   exact t6.block bm s5.lt (fun e => by
    obtain ⟨es',ck',hm5⟩:= s5.map
    rw [e,l5] at hm5
    cases hm5)
end Go.Proofs.YtpdmmmdkpipmkaaGreatDoor
