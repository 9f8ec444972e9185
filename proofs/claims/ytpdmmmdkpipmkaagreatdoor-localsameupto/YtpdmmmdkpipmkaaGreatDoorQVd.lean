/-
  The program's functions that ask one place of a rule: is a number there, has a predicate another size, is a variable free or out of range.
-/
import Derived.Test.YtpdmmmdkpipmkaaGreatDoorQVc
set_option maxRecDepth 100000
set_option maxHeartbeats 400000
namespace Go.Proofs.YtpdmmmdkpipmkaaGreatDoor
open Go.RowKit Go.Lib Go.Shelf
theorem outV_eq (N: List (List UInt8)) (t: Tm): Ck.outV N t = (!t.v.isEmpty && !decide (t.v ∈ N)):= by
 unfold Ck.outV
 rw [show N.contains t.v = decide (t.v ∈ N) by rw [Bool.eq_iff_iff];simp]
theorem lacks_at (a: Option Addr) (c: Nat) (N: List (List UInt8)) (t: Tm) (w: World) (h: Row sK w a c N):
 Calls Tryz.prog 126 #[.slice a N.length c,tval t] w fun e w' => e = .returned (.bool (Ck.outV N t)) ∧ Below w.heap.size w w':= by
 have HO:= hideP (outV_eq N t)
 obtain ⟨v,⟨nm,n,s⟩⟩:= t
 simp only at HO
 have A0:= below_alloc w (.cells #[str v,.bool nm,.int .i64 n,str s] 44)
 have T:= hideP (contS_at _ a c N v (h.below A0 (Nat.le_refl _)))
 cases hq: v.isEmpty with
 | true =>
  rw [hq] at HO
  go_enter Tryz.func126,Tryz.ntmps126
  go_wp2_with fail
  go_ret
  exact ⟨by rw [HO.out];rfl,A0⟩
 | false =>
  rw [hq] at HO
  generalize decide (v ∈ N) = d at *
  go_enter Tryz.func126,Tryz.ntmps126
  go_wp2_with fail
  refine T.out.mono ?_
  rintro e w1 ⟨rfl,rfl⟩
  go_wp2_with fail
  go_ret
  exact ⟨by rw [HO.out];rfl,A0⟩
theorem hasNumber_at (k: Int) (y: Lv) (w: World):
 Calls Tryz.prog 74 #[.int .i64 k,lval y] w fun e w' => e = .returned (.bool (y.by_.k.num || y.at_.k.num)) ∧ Below w.heap.size w w':= by
 obtain ⟨⟨v1,⟨a1,b1,c1⟩⟩,p,ad,cap,ts,⟨v2,⟨a2,b2,c2⟩⟩⟩:= y
 have A0:= below_alloc w (.cells #[str v1,.bool a1,.int .i64 b1,str c1,str p,.slice ad ts.length cap,str v2,.bool a2,.int .i64 b2,str c2] 52)
 cases a1 with
 | true =>
  go_enter Tryz.func74,Tryz.ntmps74
  go_wp2_with fail
  go_ret
  exact ⟨rfl,A0⟩
 | false =>
  go_enter Tryz.func74,Tryz.ntmps74
  go_wp2_with fail
  go_ret
  exact ⟨rfl,A0⟩
theorem Row.map {α: Type} {D: Kd α} {bm: Nat} {w w': World} {es: Array MapEntry} {clock: Nat} {a: Option Addr} {c: Nat} {xs: List α} (h: Row D w a c xs) (b: But bm w w') (hm: w.heap[bm]? = some (.map es clock)): Row D w' a c xs:=
 ⟨h.room,h.few,h.void,fun ad ha j u hu => by
  have hc:= h.cells ad ha j u hu
  rw [World.cell?_of_block (w:= w) (w':= w') (b.block _ (cell_block hc) (fun e => by simp [World.cell?,e,hm] at hc))]
  exact hc⟩
theorem Rv.Aw.map {bm: Nat} {w w': World} {es: Array MapEntry} {clock: Nat} {x: Rv} (h: Rv.Aw w x) (b: But bm w w') (hm: w.heap[bm]? = some (.map es clock)): Rv.Aw w' x:=
 ⟨h.args.map b hm,h.body.map b hm,fun l hl => Row.map (h.each l hl) b hm⟩
def FnAt (F: Nat) (bv: Array Value) (f: Ck.Fd) (bm: Nat) (w0: World): Prop:=
 ∀ (s: Ck.Seen) (k: Int) (y: Lv) (w: World),But bm w0 w → SizesAt w bm s → s.length ≤ 1000 → Lv.Aw w y → Ck.Small y.l → -1 ≤ k →
  Calls Tryz.prog F (#[.int .i64 k,lval y] ++ bv) w fun e w' => e = .returned (.bool (f s k y.l).1) ∧ SizesAt w' bm (f s k y.l).2 ∧ But bm w w'
theorem fn_N (bm: Nat) (w0: World): FnAt 74 #[] Ck.fN bm w0:= fun _ k y w _ hs _ _ _ _ =>
 (hasNumber_at k y w).mono fun _ _ h => ⟨h.1,hs.next h.2,But.of_below h.2⟩
theorem fn_A (bm p: Nat) (w0: World) (s0: Ck.Seen) (h0: SizesAt w0 bm s0) (hp: w0.heap[p]? = some (.cells #[.map (some bm)] 87)): FnAt 124 #[ptr p] Ck.fA bm w0:= fun s k y w hb hs hl _ hsm _ => by
 show Calls Tryz.prog 124 #[.int .i64 k,lval y,ptr p] w _
 obtain ⟨es,clock,hm0⟩:= h0.map
 have hp1:= safe_map (ty:= 87) hb hm0 _ _ hp
 clear hp hb hm0 h0
 have pl: y.pred.length ≤ maxLen:= Nat.le_trans hsm.pred (by decide)
 have al: y.args.length ≤ 4:= hsm.args
 have HF: Hid (Ck.fA s k y.l = ((Ck.odd s y.pred y.args.length).2,(Ck.odd s y.pred y.args.length).1)):= rfl
 clear hsm
 obtain ⟨⟨v1,⟨a1,b1,c1⟩⟩,pr,ad,cap,ts,⟨v2,⟨a2,b2,c2⟩⟩⟩:= y
 simp only at pl al HF
 have A0:= below_alloc w (.cells #[str v1,.bool a1,.int .i64 b1,str c1,str pr,.slice ad ts.length cap,str v2,.bool a2,.int .i64 b2,str c2] 52)
 have hs1:= hs.next A0
 have hp2:= below_heap A0 hp1
 have cp: (w.alloc (.cells #[str v1,.bool a1,.int .i64 b1,str c1,str pr,.slice ad ts.length cap,str v2,.bool a2,.int .i64 b2,str c2] 52)).cell? ⟨p,0,none⟩ = some (.map (some bm)):= by rw [heap_cell hp2];rfl
 have lk:= hs1.look pr pl
 cases hc: Ck.came s pr with
 | true =>
  rw [hc] at lk
  rw [Ck.odd_came hc] at HF
  have hne: ((ts.length: Int) != (Ck.fst s pr: Int)) = (Ck.fst s pr != ts.length):= by
   rw [Bool.eq_iff_iff];simp only [bne_iff_ne];omega
  have HN:= hideP hne
  clear hne hc
  go_enter Tryz.func124,Tryz.ntmps124
  go_wp2_with fail
  go_ret
  rw [HF.out]
  exact ⟨ret_bool HN.out,hs1,But.of_below A0⟩
 | false =>
  rw [hc] at lk
  rw [Ck.odd_new hc] at HF
  obtain ⟨w2,hput,s2,t2⟩:= hs1.put pr ts.length pl (by omega) (by omega) hc
  clear hc
  go_enter Tryz.func124,Tryz.ntmps124
  go_wp2_with fail
  go_ret
  rw [HF.out]
  exact ⟨rfl,s2,(But.of_below A0).trans t2⟩
theorem indexF_at (F: Nat) (bv: Value) (p: Tm → Bool) (w0 w: World) (hE: ∀ args w,(callFunc F args).run Tryz.prog w = .ok (.enter F args) w)
 (hF: ∀ t W,Below w0.heap.size w0 W → Calls Tryz.prog F #[tval t,bv] W fun e w' => e = .returned (.bool (p t)) ∧ Below W.heap.size W w') (a: Option Addr) (c: Nat) (ts: List Tm) (hb: Below w0.heap.size w0 w) (h: Row tK w0 a c ts):
 Calls Tryz.prog 171 #[.slice a ts.length c,.func (.func F) #[] #[bv]] w fun e w' => (∃ i: Int,e = .returned (.int .i64 i) ∧ decide (0 ≤ i) = ts.any p) ∧ Below w.heap.size w w':= by
 have iT: (Tryz.prog.info? 44).map (·.size) = some 4:= by kernel_rfl
 have few:= h.few
 have HF:= hideP hF
 clear hF
 go_enter Tryz.func171,Tryz.ntmps171
 go_wp2_with fail
 go_loopw [5,8] (fun _ v wr => ∃ k: Nat,v = .int .i64 (k: Int) ∧ k ≤ ts.length ∧ Hid ((ts.take k).any p = false) ∧ Below w.heap.size w wr) (fun _ v _ => ts.length - (RowKit.intOf v).toNat)
 case atStart => exact ⟨0,rfl,by omega,hideP (by simp),Below.refl _ _⟩
 case round =>
  obtain ⟨k,rfl,hk,hno,B⟩:= hrel
  have B0: Below w0.heap.size w0 wr:= Below.then hb B
  by_cases hlt: k < ts.length
  ·have q0: (k: Int) < (ts.length: Int):= by omega
   obtain ⟨P1,O1,rfl⟩:= h.addr (by omega)
   have r1: wr.rangeAt P1 (O1 + k * 4) (tv (ts[k]'hlt)):= (h.below B0 (Nat.le_refl _)).range k hlt
   have ST: Hid ((ts.take (k + 1)).any p = p (ts[k]'hlt)):= by
    show _ = _
    rw [List.take_succ_eq_append_getElem hlt,List.any_append,hno.out];simp
   have YE: Hid (p (ts[k]'hlt) = true → ts.any p = true):= fun h => List.any_eq_true.2 ⟨_,List.getElem_mem hlt,h⟩
   generalize (ts[k]'hlt) = t at *
   have iQ: (Tryz.prog.info? 44).map (·.size) = some (tv t).length:= iT
   have T:= hideP (HF.out t wr B0)
   cases hp: p t with
   | true =>
    rw [hp] at T
    have YE':= hideP (YE.out hp)
    clear hp YE
    go_wp2_with (refine wpList_load_mid rfl 44 _ rfl P1 (O1 + k * 4) rfl (tv t) _ r1 Tryz.underlying44 rfl iQ ?_)
    refine T.out.mono ?_
    rintro e w1 ⟨rfl,b1⟩
    go_wp2_with fail
    go_ret
    exact ⟨⟨k,rfl,by rw [YE'.out];simp⟩,Below.then B b1⟩
   | false =>
    rw [hp] at T ST
    clear hp YE
    go_wp2_with (refine wpList_load_mid rfl 44 _ rfl P1 (O1 + k * 4) rfl (tv t) _ r1 Tryz.underlying44 rfl iQ ?_)
    refine T.out.mono ?_
    rintro e w1 ⟨rfl,b1⟩
    go_wp2_with fail
    exact ⟨⟨k + 1,by go_num,hlt,ST,Below.then B b1⟩,by simp [RowKit.intOf];omega⟩
  ·have q0: ¬ (k: Int) < (ts.length: Int):= by omega
   have HN: Hid (ts.any p = false):= by
    have:= hno.out
    rwa [List.take_of_length_le (by omega)] at this
   go_wp2_with fail
   go_ret
   exact ⟨⟨-1,rfl,by rw [HN.out];rfl⟩,B⟩
theorem containsF_at (F: Nat) (bv: Value) (p: Tm → Bool) (w0 w: World) (hE: ∀ args w,(callFunc F args).run Tryz.prog w = .ok (.enter F args) w)
 (hF: ∀ t W,Below w0.heap.size w0 W → Calls Tryz.prog F #[tval t,bv] W fun e w' => e = .returned (.bool (p t)) ∧ Below W.heap.size W w') (a: Option Addr) (c: Nat) (ts: List Tm) (hb: Below w0.heap.size w0 w) (h: Row tK w0 a c ts):
 Calls Tryz.prog 130 #[.slice a ts.length c,.func (.func F) #[] #[bv]] w fun e w' => e = .returned (.bool (ts.any p)) ∧ Below w.heap.size w w':= by
 have T:= hideP (indexF_at F bv p w0 w hE hF a c ts hb h)
 clear hF
 generalize ts.any p = r at *
 go_enter Tryz.func130,Tryz.ntmps130
 go_wp2_with fail
 refine T.out.mono ?_
 rintro _ w1 ⟨⟨i,rfl,hi⟩,b1⟩
 have Hi:= hideP hi
 clear hi
 go_wp2_with fail
 go_ret
 exact ⟨ret_bool (by rw [← Hi.out]),b1⟩
end Go.Proofs.YtpdmmmdkpipmkaaGreatDoor
