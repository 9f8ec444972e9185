/-
  Two maps from texts: those that were seen; how many arguments predicates have.
-/
import Derived.Maps.OwnSet
import Derived.StringKeys
import Derived.Deep.LoopGhost
import Derived.OwnWalk
import Derived.Deep.Cut
import Derived.Lib.LaidTab
import Derived.LaidMore
import Derived.Stop.Joined
import Derived.Stop.LaidErr
import Derived.Test.YtpdmmmdkpipmkaaGreatDoorQLs9
import Derived.Test.YtpdmmmdkpipmkaaGreatDoorQCd
import Derived.Test.YtpdmmmdkpipmkaaGreatDoorQNu
import Derived.Test.YtpdmmmdkpipmkaaGreatDoorQSk
import Derived.Test.YtpdmmmdkpipmkaaGreatDoorQLd
import Derived.Test.YtpdmmmdkpipmkaaGreatDoorTie
set_option maxRecDepth 100000
set_option maxHeartbeats 4000000
namespace Go.Proofs.YtpdmmmdkpipmkaaGreatDoor
open Go.RowKit
open Go.Maps (Keyed)
theorem Tryz.lawSty: Keyed Tryz.prog 9:= Go.Maps.string_keyed Tryz.underlying9
theorem key_sty (s: List UInt8) (h: s.length ≤ maxLen): keyOf Tryz.prog 9 (str s) = some (.string s):= by
 have:= Go.WideMaps.keyOf_string_mk (P:= Tryz.prog) Tryz.underlying9 (s:= ⟨s.toArray⟩) (by simpa [ByteArray.size] using h)
 simpa using this
structure SeenAt (w: World) (bm: Nat) (L: List (List UInt8)): Prop where
 has: ∃ D: DataW Unit,w.ownsMap Tryz.prog 9 unitElem bm L.length D ∧ ∀ p: List UInt8,p.length ≤ maxLen → Maps.has D (.string p) = decide (p ∈ L)
theorem SeenAt.map {w: World} {bm: Nat} {L: List (List UInt8)} (h: SeenAt w bm L): ∃ es clock,w.heap[bm]? = some (.map es clock):= by
 obtain ⟨D,⟨es,clock,hb,_⟩,_⟩:= h.has
 exact ⟨es,clock,hb⟩
theorem SeenAt.block {w w': World} {bm: Nat} {L: List (List UInt8)} (h: SeenAt w bm L) (hb: w'.heap[bm]? = w.heap[bm]?): SeenAt w' bm L:= by
 obtain ⟨D,⟨es,clock,h1,h2⟩,h3⟩:= h.has
 exact ⟨D,⟨es,clock,hb.trans h1,h2⟩,h3⟩
theorem SeenAt.lt {w: World} {bm: Nat} {L: List (List UInt8)} (h: SeenAt w bm L): bm < w.heap.size:= by
 obtain ⟨es,clock,h⟩:= h.map
 exact heap_lt h
theorem SeenAt.below {w w': World} {bm B: Nat} {L: List (List UInt8)} (h: SeenAt w bm L) (hb: Below B w w') (hB: bm < B): SeenAt w' bm L:= h.block (hb.block bm hB)
theorem seen_new (w: World): SeenAt (w.alloc (.map #[] 0)) w.heap.size []:=
 ⟨.map [],World.ownsMap_made w _ _ _,fun p _ => by simp [Maps.has]⟩
theorem SeenAt.look {w: World} {bm: Nat} {L: List (List UInt8)} (h: SeenAt w bm L) (p: List UInt8) (hp: p.length ≤ maxLen):
 (Instr.lookup 178 (.map (some bm)) (str p) true).run Tryz.prog w = .ok (.tuple #[.agg #[],.bool (decide (p ∈ L))]) w:= by
 obtain ⟨D,ho,hd⟩:= h.has
 have hz: (zeroValue 179).run Tryz.prog w = .ok (.agg #[]) w:= by kernel_rfl
 obtain ⟨v,ps,hr,hv⟩:= ho.look_ok Tryz.lawSty Tryz.underlying178 hz (zd:= .agg []) (zp:= []) unitElem_mk (key_sty p hp)
 obtain ⟨rfl,_⟩:= unitElem_inv hv
 rw [hr,hd p hp]
theorem SeenAt.put {w: World} {bm: Nat} {L: List (List UInt8)} (h: SeenAt w bm L) (p: List UInt8) (hp: p.length ≤ maxLen) (hL: L.length < 1000000):
 ∃ w',(Instr.mapUpdate 178 (.map (some bm)) (str p) (.agg #[])).run Tryz.prog w = .ok () w' ∧ SeenAt w' bm (L ++ [p]) ∧ But bm w w':= by
 obtain ⟨D,ho,hd⟩:= h.has
 obtain ⟨w',hr,ho',hg⟩:= ho.update Tryz.lawSty Tryz.underlying178 (by unfold maxLen;omega) (key_sty p hp) unitElem_mk
 have hk: WideAt.IsKeyLit (.string p):= Tryz.lawSty.key (key_sty p hp)
 refine ⟨w',hr,⟨_,by simpa using ho',fun q hq => ?_⟩,⟨hg.os,hg.tape,hg.output,hg.size,fun k hk hn => hg.block k hk (by simpa using hn)⟩⟩
 by_cases e: q = p
 ·subst e
  rw [Maps.has_put_same ho.isMap hk];simp
 ·rw [Maps.has_put_other (fun he => e (by cases he;rfl)),hd q hq]
  simp [e]
def Ck.fst (s: Ck.Seen) (p: List UInt8): Nat:= match s.find? (fun x => x.1 == p) with | some x => x.2 | none => 0
def Ck.came (s: Ck.Seen) (p: List UInt8): Bool:= (s.find? (fun x => x.1 == p)).isSome
theorem Ck.odd_came {s: Ck.Seen} {p: List UInt8} {n: Nat} (h: Ck.came s p = true): Ck.odd s p n = (s,Ck.fst s p != n):= by
 unfold Ck.came at h
 unfold Ck.odd Ck.fst
 cases hx: s.find? (fun x => x.1 == p) with
 | none => rw [hx] at h;cases h
 | some x => rfl
theorem Ck.odd_new {s: Ck.Seen} {p: List UInt8} {n: Nat} (h: Ck.came s p = false): Ck.odd s p n = (s ++ [(p,n)],false):= by
 unfold Ck.came at h
 unfold Ck.odd
 cases hx: s.find? (fun x => x.1 == p) with
 | none => rfl
 | some x => rw [hx] at h;cases h
structure SizesAt (w: World) (bm: Nat) (s: Ck.Seen): Prop where
 has: ∃ D: DataW Unit,w.ownsMap Tryz.prog 9 (plainElem Tryz.prog 3) bm s.length D ∧ ∀ p: List UInt8,p.length ≤ maxLen → Maps.has D (.string p) = Ck.came s p ∧ D.atKey (.string p) (.lit (.int .i64 0)) = .lit (.int .i64 (Ck.fst s p: Int))
theorem SizesAt.map {w: World} {bm: Nat} {s: Ck.Seen} (h: SizesAt w bm s): ∃ es clock,w.heap[bm]? = some (.map es clock):= by
 obtain ⟨D,⟨es,clock,hb,_⟩,_⟩:= h.has
 exact ⟨es,clock,hb⟩
theorem SizesAt.block {w w': World} {bm: Nat} {s: Ck.Seen} (h: SizesAt w bm s) (hb: w'.heap[bm]? = w.heap[bm]?): SizesAt w' bm s:= by
 obtain ⟨D,⟨es,clock,h1,h2⟩,h3⟩:= h.has
 exact ⟨D,⟨es,clock,hb.trans h1,h2⟩,h3⟩
theorem SizesAt.lt {w: World} {bm: Nat} {s: Ck.Seen} (h: SizesAt w bm s): bm < w.heap.size:= by
 obtain ⟨es,clock,h⟩:= h.map
 exact heap_lt h
theorem SizesAt.below {w w': World} {bm B: Nat} {s: Ck.Seen} (h: SizesAt w bm s) (hb: Below B w w') (hB: bm < B): SizesAt w' bm s:= h.block (hb.block bm hB)
theorem SizesAt.next {w w': World} {bm: Nat} {s: Ck.Seen} (h: SizesAt w bm s) (hb: Below w.heap.size w w'): SizesAt w' bm s:= h.below hb h.lt
theorem sizes_new (w: World): SizesAt (w.alloc (.map #[] 0)) w.heap.size []:=
 ⟨.map [],World.ownsMap_made w _ _ _,fun p _ => by simp [Maps.has,Ck.came,Ck.fst,DataW.atKey]⟩
theorem SizesAt.look {w: World} {bm: Nat} {s: Ck.Seen} (h: SizesAt w bm s) (p: List UInt8) (hp: p.length ≤ maxLen):
 (Instr.lookup 87 (.map (some bm)) (str p) true).run Tryz.prog w = .ok (.tuple #[.int .i64 (Ck.fst s p: Int),.bool (Ck.came s p)]) w:= by
 obtain ⟨D,ho,hd⟩:= h.has
 have hz: (zeroValue 3).run Tryz.prog w = .ok (.int .i64 0) w:= by kernel_rfl
 obtain ⟨v,ps,hr,hv⟩:= ho.look_ok Tryz.lawSty Tryz.underlying87 hz (zd:= .lit (.int .i64 0)) (zp:= []) (plainElem_int Tryz.underlying3 (by decide)) (key_sty p hp)
 obtain ⟨c,rfl,hc,_⟩:= plainElem_int_inv Tryz.underlying3 hv
 rw [(hd p hp).2] at hc
 rw [hr,(hd p hp).1]
 simp only [Prod.mk.injEq,DataW.lit.injEq,Lit.int.injEq,true_and] at hc
 rw [hc.1]
theorem SizesAt.put {w: World} {bm: Nat} {s: Ck.Seen} (h: SizesAt w bm s) (p: List UInt8) (n: Nat) (hp: p.length ≤ maxLen) (hn: n ≤ 4398046510976) (hs: s.length < 1000000) (hc: Ck.came s p = false):
 ∃ w',(Instr.mapUpdate 87 (.map (some bm)) (str p) (.int .i64 (n: Int))).run Tryz.prog w = .ok () w' ∧ SizesAt w' bm (s ++ [(p,n)]) ∧ But bm w w':= by
 obtain ⟨D,ho,hd⟩:= h.has
 obtain ⟨w',hr,ho',hg⟩:= ho.update Tryz.lawSty Tryz.underlying87 (by unfold maxLen;omega) (key_sty p hp) (plainElem_int Tryz.underlying3 (a:= (n: Int)) (by simp [Lit.wf,IntKind.min,IntKind.max,IntKind.signed,IntKind.bits];omega))
 have hk: WideAt.IsKeyLit (.string p):= Tryz.lawSty.key (key_sty p hp)
 refine ⟨w',hr,⟨_,by simpa using ho',fun q hq => ?_⟩,⟨hg.os,hg.tape,hg.output,hg.size,fun k hk hn => hg.block k hk (by simpa using hn)⟩⟩
 by_cases e: q = p
 ·subst e
  rw [Maps.has_put_same ho.isMap hk,Maps.atKey_put_same ho.isMap hk]
  unfold Ck.came at hc
  have hc': s.find? (fun x => x.1 == q) = none:= by simpa using hc
  simp [Ck.came,Ck.fst,List.find?_append,hc']
 ·rw [Maps.has_put_other (fun he => e (by cases he;rfl)),Maps.atKey_put_other (fun he => e (by cases he;rfl)),(hd q hq).1,(hd q hq).2]
  have e': (p == q) = false:= by simpa using Ne.symm e
  simp [Ck.came,Ck.fst,List.find?_append,e']
end Go.Proofs.YtpdmmmdkpipmkaaGreatDoor
namespace Go.Proofs.YtpdmmmdkpipmkaaGreatDoor
open Go.RowKit Go.Lib Go.Shelf
theorem Tryz.iTok: (Tryz.prog.info? 121).map (fun i => (i.zero,i.size,i.bytes)) = some (some (.agg #[.int .i64 0,.string .empty,.int .i64 0,.int .i64 0]),4,40):= by kernel_rfl
theorem grown_belowT {w w': World} {base: Nat} {e: TypeId} {k n: Nat} {v: Value} {xs: List Value} (h: w.ownsRow base e k v n xs) (g: w.grownBy w' v.ownBlock) (hb: base ≤ w.heap.size): Below base w w':= by
 refine (Below.refl _ _).grown g hb fun j hj => ?_
 rcases h.2 with ⟨h0,_⟩ | ⟨gg,cap,cur,hv,hb,_⟩
 ·rw [h0] at hj;cases hj
 ·rw [hv] at hj;cases hj;exact hb
def TokAns (l: List UInt8) (w: World) (e: Ending) (w': World): Prop:=
 (∃ a c,e = .returned (.tuple #[.slice a (Lx.toks (Lx.ans l)).length c,.int .i64 (Lx.place (Lx.ans l): Int),.int .i64 (Lx.err (Lx.ans l))]) ∧ RowT kT 121 w' a c (Lx.toks (Lx.ans l)) ∧ ∀ ad,a = some ad → w.heap.size ≤ ad.block) ∧ Below w.heap.size w w'
theorem tokAns_err {l: List UInt8} {w w': World} {i: Nat} {k: Int} (h: Lx.ans l = .error (i,k)) (hb: Below w.heap.size w w'): TokAns l w (.returned (.tuple #[.slice none 0 0,.int .i64 (i: Int),.int .i64 k])) w':= by
 refine ⟨⟨none,0, ?_, ?_,fun _ h => by cases h⟩,hb⟩
 ·rw [h];rfl
 ·rw [h];exact RowT.nil _ _ _
theorem tokAns_ok {l: List UInt8} {w w': World} {v: Value} {n: Nat} {ys: List Lx.Tok} (h: Lx.ans l = .ok ys) (ho: w'.ownsRow w.heap.size 121 4 v n (ys.flatMap tokv)) (hf: ys.length ≤ 4096) (hb: Below w.heap.size w w'): TokAns l w (.returned (.tuple #[v,.int .i64 0,.int .i64 0])) w':= by
 obtain ⟨a,c,hv,hr,ha⟩:= own_row (D:= kT) ho (by omega)
 refine ⟨⟨a,c, ?_, ?_,ha⟩,hb⟩
 ·rw [h,hv];rfl
 ·rw [h];exact hr
theorem token_er {l: List UInt8} {k: Nat} (hr: l.length ≤ 281474976710656) (hi: k < l.length) {er: Int} (h: pres (Lx.one l k) = (pz,0,er)) (w: World) (hL: Laid w):
 Calls Tryz.prog 69 #[str l,.int .i64 (k: Int)] w fun e w' => e = .returned (.tuple #[.agg (tokv pz).toArray,.int .i64 0,.int .i64 er]) ∧ Below w.heap.size w w':= by
 have:= token_at l k w hr hi hL
 rw [h] at this
 exact this
theorem token_yes {l: List UInt8} {k: Nat} (hr: l.length ≤ 281474976710656) (hi: k < l.length) {t: Lx.Tok} {j: Nat} (h: pres (Lx.one l k) = (t,j,0)) (w: World) (hL: Laid w):
 Calls Tryz.prog 69 #[str l,.int .i64 (k: Int)] w fun e w' => e = .returned (.tuple #[.agg (tokv t).toArray,.int .i64 (j: Int),.int .i64 0]) ∧ Below w.heap.size w w':= by
 have:= token_at l k w hr hi hL
 rw [h] at this
 exact this
theorem ltokens_at (l: List UInt8) (w: World) (hr: l.length ≤ 281474976710656) (hL: Laid w):
 Calls Tryz.prog 39 #[str l] w (TokAns l w):= by
 have hsz:= str_size l
 by_cases hbig: 4096 < l.length
 ·have hb': (l.length: Int) > 4096:= by omega
  have ha: Lx.ans l = .error (0,3):= by unfold Lx.ans;rw [if_pos hbig]
  have HA:= hideP ha
  clear ha
  go_enter Tryz.func39,Tryz.ntmps39
  go_wp2_with fail
  go_ret3
  exact tokAns_err HA.out (Below.refl _ _)
 ·have hb': ¬ (l.length: Int) > 4096:= by omega
  have ha: Lx.ans l = Lx.tks l (Lx.skip l 0):= by unfold Lx.ans;rw [if_neg hbig]
  have HA:= hideP ha
  clear ha
  have S0:= hideP (fun w => lskip_at l 0 w hr (Nat.zero_le _))
  have sl:= Lx.skip_le (l:= l) (Nat.zero_le _)
  generalize Lx.skip l 0 = z at *
  go_enter Tryz.func39,Tryz.ntmps39
  go_wp2_with (go_at_call 68;refine (S0.out _).mono ?_;rintro e w1 ⟨rfl,rfl⟩)
  go_loopw [2,5] (fun v b wr => ∃ (ys: List Lx.Tok) (k: Nat),b = .int .i64 (k: Int) ∧ k ≤ l.length ∧ ys.length ≤ k ∧ wr.ownsRow w.heap.size 121 4 v ys.length (ys.flatMap tokv) ∧ Below w.heap.size w wr ∧ Lx.ans l = Lx.prep ys (Lx.tks l k)) (fun _ b _ => l.length - (Lib.intOf b).toNat)
  case atStart => exact ⟨[],z,rfl,sl,Nat.zero_le _,⟨rfl,.inl ⟨rfl,rfl⟩⟩,Below.refl _ _,by rw [HA.out,Lx.prep_nil]⟩
  case round =>
   obtain ⟨ys,k,rfl,hk,hys,hown,hbel,hans⟩:= hrel
   have HAN:= hideP hans
   clear hans
   rcases Nat.lt_or_ge k l.length with hlt | hge
   ·have hlt': (k: Int) < (l.length: Int):= by omega
    have Lr:= hL.below hbel
    have iN: (Tryz.prog.info? 121).map (·.size) = some 4:= by kernel_rfl
    by_cases hp: ∃ er,er ≠ 0 ∧ pres (Lx.one l k) = (pz,0,er) ∧ Lx.tks l k = .error (k,er)
    ·obtain ⟨er,her,hp,htk⟩:= hp
     have HE:= hideP (show Lx.ans l = .error (k,er) by rw [HAN.out,htk];rfl)
     have T:= hideP (token_er hr hlt hp)
     have her': (er != 0) = true:= by simpa using her
     clear HAN htk hp her
     go_wp2_with (first
      | (go_at_call 69;refine (T.out _ Lr).mono ?_;rintro e w1 ⟨rfl,b1⟩)
      | (refine wpList_store_all rfl 121 _ _ rfl w1.heap.size 4 _ 121 (tokv pz) rfl rfl (heap_alloc_new w1 _) rfl rfl iN rfl ?_;intro w3 V3 b3))
     go_ret3
     exact tokAns_err HE.out (hbel.trans ((Below.then b1 (below_tok b3)).mono hbel.size))
    ·obtain ⟨t,j,hp,htk,hkj,hj⟩: ∃ t j,pres (Lx.one l k) = (t,j,0) ∧ Lx.tks l k = Lx.cons t (Lx.tks l (Lx.skip l j)) ∧ k < j ∧ j ≤ l.length:= by
      cases h1: Lx.one l k with
      | none => exact absurd ⟨70,by decide,by rw [h1];rfl,Lx.tks_bad hlt h1⟩ hp
      | some r =>
       obtain ⟨t,j⟩:= r
       by_cases h32: 32 < t.text.length
       ·exact absurd ⟨71,by decide,by rw [h1,pres,if_pos h32],Lx.tks_long hlt h1 h32⟩ hp
       ·have hg:= Lx.one_gt hlt h1
        exact ⟨t,j,by rw [pres,if_neg h32],Lx.tks_cons hlt h1 h32,hg.1,hg.2⟩
     have HE:= hideP (show Lx.ans l = Lx.prep (ys ++ [t]) (Lx.tks l (Lx.skip l j)) by rw [HAN.out,htk,Lx.prep_cons])
     have T:= hideP (token_yes hr hlt hp)
     have S:= hideP (fun w => lskip_at l j w hr hj)
     have s1:= Lx.le_skip l j
     have s2:= Lx.skip_le hj
     generalize Lx.skip l j = j2 at *
     clear HAN htk hp
     have hfew: ys.length + [t].length ≤ 879609302220:= by simp only [List.length_cons,List.length_nil];omega
     go_wp2_with (first
      | (go_at_call 69;refine (T.out _ Lr).mono ?_;rintro e w1 ⟨rfl,b1⟩)
      | (go_at_call 68;refine (S.out _).mono ?_;rintro e w5 ⟨rfl,rfl⟩)
      | (refine wpList_store_all rfl 121 _ _ rfl w1.heap.size 4 _ 121 (tokv t) rfl rfl (heap_alloc_new w1 _) rfl rfl iN rfl ?_;intro w3 V3 b3;have B3:= Below.then b1 (below_tok b3);have O3:= ownsRow_keep hown (Safe.below (ty:= 121) (Below.then B3 (below_alloc w3 (.cells (tokv t).toArray 121))));have R3:= row_new kT w3 (tokv t).toArray 121 t rfl;have N3: w.heap.size ≤ (w3.alloc (.cells (tokv t).toArray 121)).heap.size:= Nat.le_trans hbel.size (Nat.le_trans B3.size (below_alloc w3 _).size))
      | (refine wpList_load_all rfl 121 _ rfl w1.heap.size 4 121 (tokv t) _ rfl V3 rfl Tryz.underlying121 rfl iN ?_)
      | (refine wpList_build_one rfl 78 121 _ rfl (tokv t) _ 4 40 rfl rfl (by decide) (by decide) Tryz.underlying78 Tryz.iTok ?_)
      | (at_builtin;refine wpList_append_rec kT _ rfl _ _ 78 121 rfl _ 40 Tryz.underlying78 Tryz.iTok rfl (by decide) w.heap.size u2 ys [t] (some ⟨w3.heap.size,0,none⟩) 1 1 rfl O3 rfl rfl R3 N3 hfew ?_;intro v4 w4 o4 g4))
     have B4: Below w.heap.size w w4:= (hbel.trans ((Below.then B3 (below_alloc w3 _)).mono hbel.size)).trans (grown_belowT O3 g4 N3)
     refine ⟨⟨ys ++ [t],j2,rfl,s2,by simp only [List.length_append,List.length_cons,List.length_nil];omega,o4,B4,HE.out⟩, ?_⟩
     simp only [Lib.intOf];omega
   ·have hge': ¬ (k: Int) < (l.length: Int):= by omega
    have HE:= hideP (show Lx.ans l = .ok ys by rw [HAN.out,Lx.tks_end hge];simp [Lx.prep])
    go_wp2_with fail
    go_ret3
    exact tokAns_ok HE.out hown (by omega) hbel
end Go.Proofs.YtpdmmmdkpipmkaaGreatDoor
namespace Go.Proofs.YtpdmmmdkpipmkaaGreatDoor
open Go.RowKit Go.Lib Go.Shelf
theorem ltokens_any (l: List UInt8) (w: World) (hL: Laid w): Calls Tryz.prog 39 #[str l] w (TokAns l w):= by
 by_cases hbig: 4096 < l.length
 ·have hsz:= str_size l
  have hb': (l.length: Int) > 4096:= by omega
  have ha: Lx.ans l = .error (0,3):= by unfold Lx.ans;rw [if_pos hbig]
  have HA:= hideP ha
  clear ha
  go_enter Tryz.func39,Tryz.ntmps39
  go_wp2_with fail
  go_ret3
  exact tokAns_err HA.out (Below.refl _ _)
 ·exact ltokens_at l w (by omega) hL
theorem isToken_at (l: List UInt8) (k: Int) (own: List UInt8) (w: World) (hL: Laid w):
 Calls Tryz.prog 201 #[str l,.int .i64 k,str own] w fun e w' => e = .returned (.bool (Sh.isTok l k own)) ∧ Below w.heap.size w w':= by
 have T:= hideP (ltokens_any l w hL)
 go_enter Tryz.func201,Tryz.ntmps201
 go_wp2_with fail
 refine T.out.mono ?_
 rintro e w1 ⟨⟨a1,c1,rfl,r1,_⟩,b1⟩
 clear T
 have HI: Hid (Sh.isTok l k own = match Lx.toks (Lx.ans l) with | [t] => (t.kind == k) && (t.text == own) | _ => false):= rfl
 generalize Lx.toks (Lx.ans l) = L at *
 generalize (Lx.place (Lx.ans l): Int) = p at *
 generalize Lx.err (Lx.ans l) = er at *
 have few:= r1.row.few
 match L with
 | [] =>
  simp only [List.length_nil] at *
  go_wp2_with fail
  go_ret
  exact ⟨ret_bool HI.out.symm,b1⟩
 | t:: u:: r =>
  simp only [List.length_cons] at *
  have q: (((r.length + 1 + 1: Nat): Int) == 1) = false:= by simp;omega
  go_wp2_with fail
  go_ret
  exact ⟨ret_bool HI.out.symm,b1⟩
 | [t] =>
  obtain ⟨P,O,rfl⟩:= r1.row.addr (by simp)
  have hroom:= r1.row.room
  have q:= r1.row.range 0 (by simp)
  have q0:= q 0 _ rfl
  have q1:= q 1 _ rfl
  simp only [List.length_cons,List.length_nil,List.getElem_cons_zero,Nat.zero_mul,Nat.add_zero] at q0 q1 hroom ⊢
  simp only [] at HI
  by_cases hk: t.kind = k
  ·have hk': (t.kind == k) = true:= by simpa using hk
   rw [hk',Bool.true_and] at HI
   clear hk
   go_wp2_with fail
   go_ret
   exact ⟨ret_bool HI.out.symm,b1⟩
  ·have hk': (t.kind == k) = false:= by simpa using hk
   rw [hk',Bool.false_and] at HI
   go_wp2_with fail
   go_ret
   exact ⟨ret_bool HI.out.symm,b1⟩
theorem isWord_at (s: List UInt8) (w: World) (hL: Laid w):
 Calls Tryz.prog 203 #[str s] w fun e w' => e = .returned (.bool (Sh.wordB s)) ∧ Below w.heap.size w w':= by
 have T:= hideP (isToken_at s 1 s w hL)
 rw [Sh.tok_word] at T
 have HW: Hid (Sh.wordB s = (Sh.namedB Lx.small s && !(((s == [115,97,121,115]) || (s == [116,111])) || (s == [97,116])))):= rfl
 by_cases h1: s = [115,97,121,115]
 ·subst h1
  go_enter Tryz.func203,Tryz.ntmps203
  go_wp2_with fail
  go_ret
  exact ⟨rfl,Below.refl _ _⟩
 by_cases h2: s = [116,111]
 ·subst h2
  go_enter Tryz.func203,Tryz.ntmps203
  go_wp2_with fail
  go_ret
  exact ⟨rfl,Below.refl _ _⟩
 by_cases h3: s = [97,116]
 ·subst h3
  go_enter Tryz.func203,Tryz.ntmps203
  go_wp2_with fail
  go_ret
  exact ⟨rfl,Below.refl _ _⟩
 have g1: (s == [115,97,121,115]) = false:= by simpa using h1
 have g2: (s == [116,111]) = false:= by simpa using h2
 have g3: (s == [97,116]) = false:= by simpa using h3
 have HW2: Hid (Sh.wordB s = Sh.namedB Lx.small s):= by
  show _ = _
  rw [HW.out,g1,g2,g3];simp
 clear HW h1 h2 h3
 go_enter Tryz.func203,Tryz.ntmps203
 go_wp2_with fail
 refine T.out.mono ?_
 rintro e w1 ⟨rfl,b1⟩
 go_wp2_with fail
 go_ret
 exact ⟨ret_bool HW2.out.symm,b1⟩
theorem str_add (a b: List UInt8): (⟨a.toArray⟩: ByteArray) ++ ⟨b.toArray⟩ = ⟨(a ++ b).toArray⟩:= by
 apply ByteArray.ext
 simp
theorem quoted_at (s: List UInt8) (w: World) (hs: s.length ≤ 32):
 Calls Tryz.prog 205 #[str s] w fun e w' => e = .returned (str (34:: (s ++ [34]))) ∧ w = w':= by
 have hsz:= str_size s
 have z1:= str_size (34:: s)
 have e1: (⟨#[34]⟩: ByteArray) ++ ⟨s.toArray⟩ = ⟨(34:: s).toArray⟩:= str_add [34] s
 have e2: (⟨(34:: s).toArray⟩: ByteArray) ++ ⟨#[34]⟩ = ⟨(34:: (s ++ [34])).toArray⟩:= str_add (34:: s) [34]
 have n1: (34:: s).length ≤ 33:= by simp;omega
 generalize 34:: s = s1 at *
 generalize 34:: (s ++ [34]) = s2 at *
 go_enter Tryz.func205,Tryz.ntmps205
 go_wp2_with fail
 go_ret
 exact ⟨rfl,rfl⟩
theorem canQuote_at (s: List UInt8) (w: World) (hL: Laid w):
 Calls Tryz.prog 202 #[str s] w fun e w' => e = .returned (.bool (Sh.plainB s)) ∧ Below w.heap.size w w':= by
 have hsz:= str_size s
 have HP: Hid (Sh.plainB s = (decide (1 ≤ s.length) && decide (s.length ≤ 32) && s.all Lx.plain)):= rfl
 by_cases h1: 1 ≤ s.length
 ·by_cases h2: s.length ≤ 32
  ·have q1: (s.length: Int) ≥ 1:= by omega
   have q2: (s.length: Int) ≤ 32:= by omega
   have T:= hideP (fun W h => isToken_at (34:: (s ++ [34])) 4 s W h)
   rw [Sh.tok_quote h2] at T
   have HP2: Hid (Sh.plainB s = s.all Lx.plain):= by
    show _ = _
    rw [HP.out];simp [h1,h2]
   have Q:= hideP (fun W => quoted_at s W h2)
   generalize 34:: (s ++ [34]) = s2 at *
   generalize s.all Lx.plain = r at *
   clear HP h1 h2
   go_enter Tryz.func202,Tryz.ntmps202
   go_wp2_with (first
    | (go_at_call 205;refine (Q.out _).mono ?_;rintro e w1 ⟨rfl,rfl⟩)
    | (go_at_call 201;refine (T.out _ hL).mono ?_;rintro e w2 ⟨rfl,b2⟩))
   go_ret
   exact ⟨ret_bool HP2.out.symm,b2⟩
  ·have q1: (s.length: Int) ≥ 1:= by omega
   have q2: ¬ (s.length: Int) ≤ 32:= by omega
   have HP2: Hid (Sh.plainB s = false):= by
    show _ = _
    rw [HP.out];simp [h2]
   clear HP
   go_enter Tryz.func202,Tryz.ntmps202
   go_wp2_with fail
   go_ret
   exact ⟨ret_bool HP2.out.symm,Below.refl _ _⟩
 ·have q1: ¬ (s.length: Int) ≥ 1:= by omega
  have HP2: Hid (Sh.plainB s = false):= by
   show _ = _
   rw [HP.out];simp [h1]
  clear HP
  go_enter Tryz.func202,Tryz.ntmps202
  go_wp2_with fail
  go_ret
  exact ⟨ret_bool HP2.out.symm,Below.refl _ _⟩
theorem same_zk (k: K): sameK k ⟨false,0,[]⟩ = Sh.zk k:= by
 obtain ⟨a,b,c⟩:= k
 cases a <;> cases c <;> simp [sameK,Sh.zk] <;> rfl
theorem same_none (t: Tm): sameT t ⟨[],⟨false,0,[]⟩⟩ = Sh.noneT t:= by
 obtain ⟨v,⟨a,b,c⟩⟩:= t
 cases v <;> cases a <;> cases c <;> simp [sameT,Sh.noneT,Sh.zk] <;> rfl
theorem isNone_at (t: Tm) (w: World): Calls Tryz.prog 204 #[tval t] w fun e w' => e = .returned (.bool (Sh.noneT t)) ∧ Below w.heap.size w w':= by
 have E:= fun W => eqTerm t ⟨[],⟨false,0,[]⟩⟩ W
 simp only [same_none] at E
 generalize Sh.noneT t = r at *
 obtain ⟨v,⟨a,b,c⟩⟩:= t
 go_enter Tryz.func204,Tryz.ntmps204
 go_wp2_with fail
 go_ret
 exact ⟨rfl,below_alloc _ _⟩
theorem canTerm_at (t: Tm) (w: World) (hL: Laid w): Calls Tryz.prog 162 #[tval t] w fun e w' => e = .returned (.bool (Sh.canT t)) ∧ Below w.heap.size w w':= by
 have HC:= hideP (Sh.canT_eq t)
 have E:= fun W => eqConst t.k ⟨false,0,[]⟩ 9998 W
 simp only [same_zk] at E
 obtain ⟨v,⟨a,b,c⟩⟩:= t
 simp only at E HC
 have A0:= below_alloc w (.cells #[str v,.bool a,.int .i64 b,str c] 44)
 have L0:= hL.below A0
 by_cases hv: v = []
 ·subst hv
  simp only [ne_eq,not_true_eq_false,if_false] at HC
  cases a
  ·simp only [Bool.false_eq_true,if_false] at HC
   have Q:= hideP (canQuote_at c _ L0)
   generalize Sh.plainB c = r at *
   by_cases hb: b = 0
   ·subst hb
    have q: ((0: Int) == 0) = true:= rfl
    go_enter Tryz.func162,Tryz.ntmps162
    go_wp2_with fail
    refine Q.out.mono ?_
    rintro e w2 ⟨rfl,b2⟩
    go_wp2_with fail
    go_ret
    exact ⟨ret_bool (by rw [HC.out];simp),Below.then A0 b2⟩
   ·have q: (b == 0) = false:= by simpa using hb
    go_enter Tryz.func162,Tryz.ntmps162
    go_wp2_with fail
    go_ret
    exact ⟨ret_bool (by rw [HC.out];simp [hb]),A0⟩
  ·simp only [if_true] at HC
   go_enter Tryz.func162,Tryz.ntmps162
   go_wp2_with fail
   go_ret
   exact ⟨ret_bool HC.out.symm,A0⟩
 ·have q: v.isEmpty = false:= by simpa using hv
  rw [if_pos hv] at HC
  generalize Sh.zk ⟨a,b,c⟩ = z at *
  have T:= hideP (isToken_at v 2 v _ L0)
  generalize Sh.isTok v 2 v = r at *
  clear hv
  cases z
  ·go_enter Tryz.func162,Tryz.ntmps162
   go_wp2_with fail
   go_ret
   exact ⟨ret_bool (by rw [HC.out];rfl),A0⟩
  ·go_enter Tryz.func162,Tryz.ntmps162
   go_wp2_with fail
   refine T.out.mono ?_
   rintro e w2 ⟨rfl,b2⟩
   go_wp2_with fail
   go_ret
   exact ⟨ret_bool (by rw [HC.out];rfl),Below.then A0 b2⟩
theorem canPlace_at (t: Tm) (w: World) (hL: Laid w): Calls Tryz.prog 164 #[tval t] w fun e w' => e = .returned (.bool (Sh.canM t)) ∧ Below w.heap.size w w':= by
 have HC: Hid (Sh.canM t = (Sh.noneT t || Sh.canT t)):= rfl
 have N:= hideP (fun W => isNone_at t W)
 have T:= hideP (fun W h => canTerm_at t W h)
 generalize Sh.noneT t = n at *
 generalize Sh.canT t = r at *
 generalize Sh.canM t = m at *
 obtain ⟨v,⟨a,b,c⟩⟩:= t
 have A0:= below_alloc w (.cells #[str v,.bool a,.int .i64 b,str c] 44)
 have H0:= heap_alloc_new w (.cells #[str v,.bool a,.int .i64 b,str c] 44)
 have L0:= hL.below A0
 go_enter Tryz.func164,Tryz.ntmps164
 go_wp2_with fail
 refine (N.out _).mono ?_
 rintro e w1 ⟨rfl,b1⟩
 have H1:= below_heap b1 H0
 have c0: w1.cell? ⟨w.heap.size,0,none⟩ = some (str v):= by rw [heap_cell H1];rfl
 have c1: w1.cell? ⟨w.heap.size,1,none⟩ = some (.bool a):= by rw [heap_cell H1];rfl
 have c2: w1.cell? ⟨w.heap.size,2,none⟩ = some (.int .i64 b):= by rw [heap_cell H1];rfl
 have c3: w1.cell? ⟨w.heap.size,3,none⟩ = some (str c):= by rw [heap_cell H1];rfl
 cases n
 ·go_wp2_with fail
  refine (T.out _ (L0.below b1)).mono ?_
  rintro e w2 ⟨rfl,b2⟩
  go_wp2_with fail
  go_ret
  exact ⟨ret_bool HC.out.symm,Below.then (Below.then A0 b1) b2⟩
 ·go_wp2_with fail
  go_ret
  exact ⟨ret_bool HC.out.symm,Below.then A0 b1⟩
end Go.Proofs.YtpdmmmdkpipmkaaGreatDoor
namespace Go.Proofs.YtpdmmmdkpipmkaaGreatDoor
open Go.RowKit Go.Lib Go.Shelf
theorem Tryz.iT4: (Tryz.prog.info? 44).map (·.size) = some 4:= by kernel_rfl
theorem Tryz.iL10: (Tryz.prog.info? 52).map (·.size) = some 10:= by kernel_rfl
theorem Tryz.iR11: (Tryz.prog.info? 48).map (·.size) = some 11:= by kernel_rfl
theorem lit_cells9 {W: World} {V: Nat} {T: TypeId} (x: Lv) (h: W.heap[V]? = some (.cells (lv x).toArray T)):
 W.cell? ⟨V,0,none⟩ = some (str x.by_.v) ∧ W.cell? ⟨V,1,none⟩ = some (.bool x.by_.k.num) ∧ W.cell? ⟨V,2,none⟩ = some (.int .i64 x.by_.k.n) ∧ W.cell? ⟨V,3,none⟩ = some (str x.by_.k.s) ∧ W.cell? ⟨V,4,none⟩ = some (str x.pred) ∧ W.cell? ⟨V,5,none⟩ = some (.slice x.a x.args.length x.cap) ∧ W.cell? ⟨V,6,none⟩ = some (str x.at_.v) ∧ W.cell? ⟨V,7,none⟩ = some (.bool x.at_.k.num) ∧ W.cell? ⟨V,8,none⟩ = some (.int .i64 x.at_.k.n) ∧ W.cell? ⟨V,9,none⟩ = some (str x.at_.k.s):= by
 refine ⟨?_, ?_, ?_, ?_, ?_, ?_, ?_, ?_, ?_, ?_⟩ <;> (rw [heap_cell h];rfl)
theorem rule_cells9 {W: World} {V: Nat} {T: TypeId} (x: Rv) (h: W.heap[V]? = some (.cells (rv x).toArray T)):
 W.cell? ⟨V,0,none⟩ = some (str x.home.v) ∧ W.cell? ⟨V,1,none⟩ = some (.bool x.home.k.num) ∧ W.cell? ⟨V,2,none⟩ = some (.int .i64 x.home.k.n) ∧ W.cell? ⟨V,3,none⟩ = some (str x.home.k.s) ∧ W.cell? ⟨V,4,none⟩ = some (str x.pred) ∧ W.cell? ⟨V,5,none⟩ = some (.slice x.a x.args.length x.cap) ∧ W.cell? ⟨V,6,none⟩ = some (str x.to_.v) ∧ W.cell? ⟨V,7,none⟩ = some (.bool x.to_.k.num) ∧ W.cell? ⟨V,8,none⟩ = some (.int .i64 x.to_.k.n) ∧ W.cell? ⟨V,9,none⟩ = some (str x.to_.k.s) ∧ W.cell? ⟨V,10,none⟩ = some (.slice x.ba x.body.length x.bcap):= by
 refine ⟨?_, ?_, ?_, ?_, ?_, ?_, ?_, ?_, ?_, ?_, ?_⟩ <;> (rw [heap_cell h];rfl)
theorem canAtom_at (p: List UInt8) (a: Option Addr) (c: Nat) (ts: List Tm) (w: World) (hL: Laid w) (hr: Row tK w a c ts):
 Calls Tryz.prog 163 #[str p,.slice a ts.length c] w fun e w' => e = .returned (.bool (Sh.canA p ts)) ∧ Below w.heap.size w w':= by
 have HC: Hid (Sh.canA p ts = (Sh.wordB p && decide (ts.length ≤ 4) && ts.all Sh.canT)):= rfl
 have W0:= hideP (isWord_at p w hL)
 have few:= hr.few
 generalize Sh.wordB p = wb at *
 go_enter Tryz.func163,Tryz.ntmps163
 go_wp2_with fail
 refine W0.out.mono ?_
 rintro e w1 ⟨rfl,b1⟩
 cases wb
 ·go_wp2_with fail
  go_ret
  exact ⟨ret_bool (by rw [HC.out];rfl),b1⟩
 by_cases h4: ts.length ≤ 4
 rotate_left
 ·have q: (ts.length: Int) > 4:= by omega
  have HC2: Hid (Sh.canA p ts = false):= by show _ = _;rw [HC.out];simp [h4]
  clear HC
  go_wp2_with fail
  go_ret
  exact ⟨ret_bool HC2.out.symm,b1⟩
 have q: ¬ (ts.length: Int) > 4:= by omega
 have HC2: Hid (Sh.canA p ts = ts.all Sh.canT):= by show _ = _;rw [HC.out];simp [h4]
 clear HC
 go_wp2_with fail
 go_loopw [6,17] (fun _ v wr => ∃ k: Nat,v = .int .i64 (k: Int) ∧ k ≤ ts.length ∧ Hid ((ts.take k).all Sh.canT = true) ∧ Below w.heap.size w wr) (fun _ v _ => ts.length - (Lib.intOf v).toNat)
 case atStart => exact ⟨0,rfl,Nat.zero_le _,rfl,b1⟩
 case round =>
  obtain ⟨k,rfl,hk,hall,hb⟩:= hrel
  by_cases hlt: k < ts.length
  ·have q2: (k: Int) < (ts.length: Int):= by omega
   obtain ⟨P1,O1,rfl⟩:= hr.addr (Nat.lt_of_le_of_lt (Nat.zero_le _) hlt)
   have r1: wr.rangeAt P1 (O1 + k * 4) (tv (ts[k]'hlt)):= (hr.below hb (Nat.le_refl _)).range k hlt
   have hst: Hid (Sh.canT (ts[k]'hlt) = true → (ts.take (k + 1)).all Sh.canT = true):= fun h => by
    rw [List.take_succ_eq_append_getElem hlt,List.all_append,hall.out];simp [h]
   have hno: Hid (Sh.canT (ts[k]'hlt) = false → ts.all Sh.canT = false):= fun h => by
    rw [List.all_eq_false];exact ⟨_,List.getElem_mem hlt,by rw [h];decide⟩
   generalize (ts[k]'hlt) = t at *
   have T:= hideP (fun W h => canTerm_at t W h)
   generalize Sh.canT t = ct at *
   have iP: (Tryz.prog.info? 44).map (·.size) = some (tv t).length:= Tryz.iT4
   cases ct
   ·have hno':= hideP (hno.out rfl)
    clear hno hst
    go_wp2_with (first
     | (refine wpList_load_mid rfl 44 _ rfl P1 (O1 + k * 4) rfl (tv t) _ r1 Tryz.underlying44 rfl iP ?_)
     | (refine wpList_store_all rfl 44 _ _ rfl wr.heap.size 4 _ 44 (tv t) rfl rfl (heap_alloc_new wr _) rfl rfl Tryz.iT4 rfl ?_;intro w2 H2 d2;have B2:= below_tok d2)
     | (refine wpList_load_all rfl 44 _ rfl wr.heap.size 4 44 (tv t) _ rfl H2 rfl Tryz.underlying44 rfl Tryz.iT4 ?_)
     | (go_at_call 162;refine (T.out w2 ((hL.below hb).below B2)).mono ?_;rintro e w3 ⟨rfl,b3⟩))
    go_ret
    exact ⟨ret_bool (by rw [HC2.out,hno'.out]),hb.trans ((Below.then B2 b3).mono hb.size)⟩
   ·have hst':= hideP (hst.out rfl)
    clear hno hst
    go_wp2_with (first
     | (refine wpList_load_mid rfl 44 _ rfl P1 (O1 + k * 4) rfl (tv t) _ r1 Tryz.underlying44 rfl iP ?_)
     | (refine wpList_store_all rfl 44 _ _ rfl wr.heap.size 4 _ 44 (tv t) rfl rfl (heap_alloc_new wr _) rfl rfl Tryz.iT4 rfl ?_;intro w2 H2 d2;have B2:= below_tok d2)
     | (refine wpList_load_all rfl 44 _ rfl wr.heap.size 4 44 (tv t) _ rfl H2 rfl Tryz.underlying44 rfl Tryz.iT4 ?_)
     | (go_at_call 162;refine (T.out w2 ((hL.below hb).below B2)).mono ?_;rintro e w3 ⟨rfl,b3⟩))
    exact ⟨⟨k + 1,by go_num,by omega,hst'.out,hb.trans ((Below.then B2 b3).mono hb.size)⟩,by simp [Lib.intOf];omega⟩
  ·have q2: ¬ (k: Int) < (ts.length: Int):= by omega
   have hfin: Hid (ts.all Sh.canT = true):= by
    have:= hall.out
    rwa [List.take_of_length_le (by omega)] at this
   go_wp2_with fail
   go_ret
   exact ⟨ret_bool (by rw [HC2.out,hfin.out]),hb⟩
theorem canRule_at (x: Rv) (w: World) (hL: Laid w) (hx: Rv.Aw w x):
 Calls Tryz.prog 121 #[rval x] w fun e w' => e = .returned (.bool (Sh.canR x.r)) ∧ Below w.heap.size w w':= by
 have HC: Hid (Sh.canR x.r = (Sh.canT x.home && Sh.canA x.pred x.args && Sh.canM x.to_ && decide (1 ≤ (x.body.map Lv.l).length) && decide ((x.body.map Lv.l).length ≤ 4) && (x.body.map Lv.l).all Sh.canL)):= rfl
 obtain ⟨hx1,hx2,hx3⟩:= hx
 have A0:= below_alloc w (.cells (rv x).toArray 48)
 have H0:= heap_alloc_new w (.cells (rv x).toArray 48)
 have L0:= hL.below A0
 have T1:= hideP (canTerm_at x.home _ L0)
 have T2:= hideP (fun W h (b: Below w.heap.size w W) => canAtom_at x.pred x.a x.cap x.args W h (hx1.below b (Nat.le_refl _)))
 have T3:= hideP (fun W h => canPlace_at x.to_ W h)
 have few:= hx2.few
 generalize Sh.canT x.home = s1 at *
 generalize Sh.canA x.pred x.args = s2 at *
 generalize Sh.canM x.to_ = s3 at *
 go_enter Tryz.func121,Tryz.ntmps121
 go_wp2_with fail
 refine T1.out.mono ?_
 rintro e w1 ⟨rfl,b1⟩
 have H1:= below_heap b1 H0
 have B1:= Below.then A0 b1
 cases s1
 ·go_wp2_with fail
  go_ret
  exact ⟨ret_bool HC.out.symm,B1⟩
 obtain ⟨c0,c1,c2,c3,c4,c5,c6,c7,c8,c9,c10⟩:= rule_cells9 x H1
 go_wp2_with fail
 refine (T2.out w1 (L0.below b1) B1).mono ?_
 rintro e w2 ⟨rfl,b2⟩
 have H2:= below_heap b2 H1
 have B2:= Below.then B1 b2
 clear c0 c1 c2 c3 c4 c5 c6 c7 c8 c9 c10
 cases s2
 ·go_wp2_with fail
  go_ret
  exact ⟨ret_bool HC.out.symm,B2⟩
 obtain ⟨c0,c1,c2,c3,c4,c5,c6,c7,c8,c9,c10⟩:= rule_cells9 x H2
 go_wp2_with fail
 refine (T3.out w2 (hL.below B2)).mono ?_
 rintro e w3 ⟨rfl,b3⟩
 have H3:= below_heap b3 H2
 have B3:= Below.then B2 b3
 clear c0 c1 c2 c3 c4 c5 c6 c7 c8 c9 c10 T1 T2 T3 H0 H1 H2 b1 b2 b3 B1 B2 A0 L0
 cases s3
 ·go_wp2_with fail
  go_ret
  exact ⟨ret_bool HC.out.symm,B3⟩
 obtain ⟨c0,c1,c2,c3,c4,c5,c6,c7,c8,c9,c10⟩:= rule_cells9 x H3
 clear c0 c1 c2 c3 c4 c5 c6 c7 c8 c9
 have hml: (x.body.map Lv.l).length = x.body.length:= List.length_map ..
 by_cases g1: 1 ≤ x.body.length
 rotate_left
 ·have q: (x.body.length: Int) < 1:= by omega
  have HC2: Hid (Sh.canR x.r = false):= by show _ = _;rw [HC.out,hml];simp [g1]
  clear HC
  go_wp2_with fail
  go_ret
  exact ⟨ret_bool HC2.out.symm,B3⟩
 by_cases g2: x.body.length ≤ 4
 rotate_left
 ·have q: ¬ (x.body.length: Int) < 1:= by omega
  have q': (x.body.length: Int) > 4:= by omega
  have HC2: Hid (Sh.canR x.r = false):= by show _ = _;rw [HC.out,hml];simp [g2]
  clear HC
  go_wp2_with fail
  go_ret
  exact ⟨ret_bool HC2.out.symm,B3⟩
 have q: ¬ (x.body.length: Int) < 1:= by omega
 have q': ¬ (x.body.length: Int) > 4:= by omega
 have HC2: Hid (Sh.canR x.r = (x.body.map Lv.l).all Sh.canL):= by show _ = _;rw [HC.out,hml];simp [g1,g2]
 clear HC hml
 generalize x.body = ls at *
 generalize x.ba = ba at *
 generalize x.bcap = bc at *
 go_wp2_with fail
 go_loopw [4,36] (fun _ v wr => ∃ k: Nat,v = .int .i64 (k: Int) ∧ k ≤ ls.length ∧ Hid (((ls.take k).map Lv.l).all Sh.canL = true) ∧ Below w.heap.size w wr) (fun _ v _ => ls.length - (Lib.intOf v).toNat)
 case atStart => exact ⟨0,rfl,Nat.zero_le _,rfl,B3⟩
 case round =>
  obtain ⟨k,rfl,hk,hall,hb⟩:= hrel
  by_cases hlt: k < ls.length
  ·have q2: (k: Int) < (ls.length: Int):= by omega
   obtain ⟨P1,O1,rfl⟩:= hx2.addr (Nat.lt_of_le_of_lt (Nat.zero_le _) hlt)
   have r1: wr.rangeAt P1 (O1 + k * 10) (lv (ls[k]'hlt)):= (hx2.below hb (Nat.le_refl _)).range k hlt
   have aP: Row tK w (ls[k]'hlt).a (ls[k]'hlt).cap (ls[k]'hlt).args:= hx3 _ (List.getElem_mem hlt)
   have hst: Hid (Sh.canL (ls[k]'hlt).l = true → ((ls.take (k + 1)).map Lv.l).all Sh.canL = true):= fun h => by
    rw [List.take_succ_eq_append_getElem hlt,List.map_append,List.all_append,hall.out];simp [h]
   have hno: Hid (Sh.canL (ls[k]'hlt).l = false → (ls.map Lv.l).all Sh.canL = false):= fun h => by
    rw [List.all_eq_false];exact ⟨_,List.mem_map_of_mem (List.getElem_mem hlt),by rw [h];decide⟩
   clear hall
   generalize (ls[k]'hlt) = y at *
   have HL: Hid (Sh.canL y.l = (Sh.canM y.by_ && Sh.canA y.pred y.args && Sh.canM y.at_)):= rfl
   have T1:= hideP (fun W h => canPlace_at y.by_ W h)
   have T2:= hideP (fun W h (b: Below w.heap.size w W) => canAtom_at y.pred y.a y.cap y.args W h (aP.below b (Nat.le_refl _)))
   have T3:= hideP (fun W h => canPlace_at y.at_ W h)
   generalize Sh.canM y.by_ = s1 at *
   generalize Sh.canA y.pred y.args = s2 at *
   generalize Sh.canM y.at_ = s3 at *
   have iP: (Tryz.prog.info? 52).map (·.size) = some (lv y).length:= Tryz.iL10
   go_upto_region 8 with (first
    | (refine wpList_load_mid rfl 52 _ rfl P1 (O1 + k * 10) rfl (lv y) _ r1 Tryz.underlying52 rfl iP ?_)
    | (refine wpList_store_all rfl 52 _ _ rfl wr.heap.size 10 _ 52 (lv y) rfl rfl (heap_alloc_new wr _) rfl rfl Tryz.iL10 rfl ?_;intro w4 H4 d4;have B4:= hb.trans ((below_tok d4).mono hb.size)))
   clear d4
   obtain ⟨c0,c1,c2,c3,c4,c5,c6,c7,c8,c9⟩:= lit_cells9 y H4
   go_wp2_with fail
   refine (T1.out w4 (hL.below B4)).mono ?_
   rintro e w5 ⟨rfl,b5⟩
   have H5:= below_heap b5 H4
   have B5:= Below.then B4 b5
   clear c0 c1 c2 c3 c4 c5 c6 c7 c8 c9
   cases s1
   ·go_wp2_with fail
    go_ret
    exact ⟨ret_bool (by rw [HC2.out,hno.out HL.out]),B5⟩
   obtain ⟨c0,c1,c2,c3,c4,c5,c6,c7,c8,c9⟩:= lit_cells9 y H5
   go_wp2_with fail
   refine (T2.out w5 (hL.below B5) B5).mono ?_
   rintro e w6 ⟨rfl,b6⟩
   have H6:= below_heap b6 H5
   have B6:= Below.then B5 b6
   clear c0 c1 c2 c3 c4 c5 c6 c7 c8 c9
   cases s2
   ·go_wp2_with fail
    go_ret
    exact ⟨ret_bool (by rw [HC2.out,hno.out HL.out]),B6⟩
   obtain ⟨c0,c1,c2,c3,c4,c5,c6,c7,c8,c9⟩:= lit_cells9 y H6
   go_wp2_with fail
   refine (T3.out w6 (hL.below B6)).mono ?_
   rintro e w7 ⟨rfl,b7⟩
   have B7:= Below.then B6 b7
   clear c0 c1 c2 c3 c4 c5 c6 c7 c8 c9
   cases s3
   ·go_wp2_with fail
    go_ret
    exact ⟨ret_bool (by rw [HC2.out,hno.out HL.out]),B7⟩
   ·go_wp2_with fail
    exact ⟨⟨k + 1,by go_num,by omega,hst.out HL.out,B7⟩,by simp [Lib.intOf];omega⟩
  ·have q2: ¬ (k: Int) < (ls.length: Int):= by omega
   have hfin: Hid ((ls.map Lv.l).all Sh.canL = true):= by
    have:= hall.out
    rwa [List.take_of_length_le (by omega)] at this
   go_wp2_with fail
   go_ret
   exact ⟨ret_bool (by rw [HC2.out,hfin.out]),hb⟩
end Go.Proofs.YtpdmmmdkpipmkaaGreatDoor
namespace Go.Proofs.YtpdmmmdkpipmkaaGreatDoor
open Go.RowKit Go.Lib Go.Shelf
structure LIn (w: World) (ra: Option Addr) (rc: Nat) (rs: List Rv) (ha: Option Addr) (hc: Nat) (hs: List (List UInt8)) (na: Option Addr) (nc: Nat) (ns: List (List UInt8)): Prop where
 rules: Rws w ra rc rs
 smr: ∀ r ∈ rs,SmR r
 smh: ∀ r ∈ rs.map Rv.r,SmH r
 homes: Row sK w ha hc hs
 hl: ∀ h ∈ hs,h.length ≤ 1048576
 names: Row sK w na nc ns
 tab: TabB w.heap.size w
theorem LIn.below {w w': World} {ra: Option Addr} {rc: Nat} {rs: List Rv} {ha: Option Addr} {hc: Nat} {hs: List (List UInt8)} {na: Option Addr} {nc: Nat} {ns: List (List UInt8)} (h: LIn w ra rc rs ha hc hs na nc ns) (hb: Below w.heap.size w w'): LIn w' ra rc rs ha hc hs na nc ns:=
 ⟨h.rules.below hb,h.smr,h.smh,h.homes.below hb (Nat.le_refl _),h.hl,h.names.below hb (Nat.le_refl _),h.tab.now hb hb.size⟩
theorem LIn.ain {w: World} {ra: Option Addr} {rc: Nat} {rs: List Rv} {ha: Option Addr} {hc: Nat} {hs: List (List UInt8)} {na: Option Addr} {nc: Nat} {ns: List (List UInt8)} {fa: Option Addr} {fc: Nat} {zs: List Fv} (h: LIn w ra rc rs ha hc hs na nc ns) (hf: Fts w fa fc zs) (hz: ∀ z ∈ zs,SmF z.f) (zl: zs.length ≤ 1000000) (few: Ml.Few ⟨hs,ns⟩ (rs.map Rv.r) (zs.map Fv.f)): AIn w ra rc rs ha hc hs na nc ns fa fc zs:=
 ⟨h.rules,h.smr,h.homes,h.hl,h.names,hf,hz,h.tab,zl,few⟩
structure FsAt (w: World) (a: Option Addr) (c: Nat) (ys: List Fv): Prop where
 lies: Lies w a c ys
 each: EachK w ys
theorem FsAt.below {w w': World} {a: Option Addr} {c: Nat} {ys: List Fv} (h: FsAt w a c ys) (hb: Below w.heap.size w w'): FsAt w' a c ys:= ⟨h.lies.below hb (Nat.le_refl _),h.each.safe (Safe.below hb)⟩
theorem FsAt.fts {w: World} {a: Option Addr} {c: Nat} {ys: List Fv} (h: FsAt w a c ys): Fts w a c ys:= ⟨liesRow h.lies,fun z hz => row_args (h.each z hz).row⟩
def errOf (o: Option (List F)): Int:= if o.isSome then 0 else 150
theorem next_of {d: Ml.Wd} {l: List Ru} {m n: List F} {o: Option (List F)} (h: Ml.LstF d l m o) (hs: SS m) (h4: m.length ≤ 400) (g: GrAns d l m n): (n.length = m.length ∧ o = some m) ∨ (n.length ≠ m.length ∧ m.length < n.length ∧ Ml.LstF d l n o):= by
 rcases g.2 with rfl | ⟨g1,g2⟩
 ·rcases h.next h4 with ⟨h1,h2⟩ | ⟨h1,h2⟩
  ·exact .inl ⟨by rw [h1],h2⟩
  ·have:= Ml.step_more hs h1
   exact .inr ⟨by omega,this,h2⟩
 ·have hl:= Ml.sub_len g.1 g2
  rcases h.next h4 with ⟨h1,h2⟩ | ⟨h1,h2⟩
  ·rw [h1] at hl;omega
  ·rw [h2.none_of (by omega)]
   exact .inr ⟨by omega,by omega,.full g1⟩
theorem mleast_at (ra: Option Addr) (rc: Nat) (rs: List Rv) (ha: Option Addr) (hc: Nat) (hs: List (List UInt8)) (na: Option Addr) (nc: Nat) (ns: List (List UInt8)) (fa: Option Addr) (fc: Nat) (zs: List Fv) (o: Option (List F)) (w: World)
 (hi: LIn w ra rc rs ha hc hs na nc ns) (hl: Lies w fa fc zs) (hz: ∀ z ∈ zs,Fv.At w z) (hsm: ∀ z ∈ zs,SmF z.f) (hL: Ml.LstF ⟨hs,ns⟩ (rs.map Rv.r) (sortF (zs.map Fv.f)) o):
 Calls Tryz.prog 24 #[wdv ha hc hs na nc ns,.slice ra rs.length rc,.slice fa zs.length fc] w fun e w' => (∃ ys a c,e = .returned (.tuple #[.slice a (List.length ys) c,.int .i64 (errOf o)]) ∧ FsAt w' a c ys ∧ ys.map Fv.f = o.getD []) ∧ Below w.heap.size w w':= by
 have A1:= below_alloc w (.cells #[.slice ha hs.length hc,.slice na ns.length nc] 60)
 have H1:= heap_alloc_new w (.cells #[.slice ha hs.length hc,.slice na ns.length nc] 60)
 have T1:= hideP (sorted_at fa fc zs (w.alloc (.cells #[.slice ha hs.length hc,.slice na ns.length nc] 60)) (hl.below A1 (Nat.le_refl _)) (fun z h => (hz z h).below A1 (Nat.le_refl _)))
 have HI:= hideP hi
 have HL:= hideP hL
 have HSM:= hideP hsm
 clear hi hl hz hsm hL
 go_enter Tryz.func24,Tryz.ntmps24
 go_wp2_with fail
 refine T1.out.mono ?_
 rintro e w2 ⟨a2,c2,us,rfl,OF2,EA2,hs2,B2⟩
 have B12:= Below.then A1 B2
 have H2:= below_heap B2 H1
 have F2: FsAt w2 a2 c2 us:= ⟨OF2.lies,fun z h => ⟨args_row (EA2 z h).1,(EA2 z h).2.2.2⟩⟩
 have L2: Hid (Ml.LstF ⟨hs,ns⟩ (rs.map Rv.r) (us.map Fv.f) o):= by show Ml.LstF _ _ _ _;rw [hs2];exact HL.out
 have SS2: Hid (SS (us.map Fv.f)):= by show SS _;rw [hs2];exact sortF_SS _
 have SM2: Hid (∀ x ∈ us.map Fv.f,SmF x):= fun x hx => by
  rw [hs2,mem_sortF] at hx
  obtain ⟨z,h1,rfl⟩:= List.mem_map.1 hx
  exact HSM.out z h1
 clear T1 H1 OF2 EA2 hs2 HL HSM
 generalize hS: w.heap.size = S at *
 go_wp2_with fail
 go_loopw [8,9] (fun v8 _ wr => ∃ (ys: List Fv) (a: Option Addr) (c: Nat),v8 = .slice a (List.length ys) c ∧ ys.length ≤ 1954687338211 ∧ FsAt wr a c ys ∧ Hid (Ml.LstF ⟨hs,ns⟩ (rs.map Rv.r) (ys.map Fv.f) o) ∧ Hid (SS (ys.map Fv.f)) ∧ Hid (∀ x ∈ ys.map Fv.f,SmF x) ∧ wr.heap[S]? = some (.cells #[.slice ha hs.length hc,.slice na ns.length nc] 60) ∧ Below S w wr) (fun v8 _ _ => match v8 with
  | .slice _ n _ => 401 - n
  | _ => 0)
 case atStart => exact ⟨us,a2,c2,rfl,F2.lies.few,F2,L2,SS2,SM2,H2,B12⟩
 case round =>
  obtain ⟨ys,a,c,rfl,few,FA,HL1,HS1,HM1,HB,BB⟩:= hrel
  have g0: wr.cell? ⟨S,0,none⟩ = some (.slice ha hs.length hc):= by rw [heap_cell HB];rfl
  have g1: wr.cell? ⟨S,1,none⟩ = some (.slice na ns.length nc):= by rw [heap_cell HB];rfl
  have BW: Below w.heap.size w wr:= by rw [hS];exact BB
  by_cases h4: ys.length ≤ 400
  ·have q4: (List.length ys: Int) ≤ 400:= by omega
   have lm: (ys.map Fv.f).length ≤ 400:= by rw [List.length_map];exact h4
   have TG:= hideP (grown_at ra rc rs ha hc hs na nc ns a c ys wr ((HI.out.below BW).ain FA.fts (fun z h => HM1.out _ (List.mem_map_of_mem h)) (by omega) (HL1.out.few lm)) FA.lies FA.each HS1.out h4)
   have LM:= hideP lm
   clear lm
   go_wp2_with fail
   refine TG.out.mono ?_
   rintro e w5 ⟨⟨ns5,a5,c5,rfl,OF5,EK5,GA⟩,B5⟩
   have NX:= next_of HL1.out HS1.out LM.out GA
   rw [List.length_map,List.length_map] at NX
   have SMn: Hid (∀ x ∈ ns5.map Fv.f,SmF x):= fun x hx => by
    have hst:= step_ok (w:= ⟨hs,ns⟩) HS1.out HI.out.smh HI.out.hl HM1.out
    rcases GA.2 with e | ⟨_,e⟩
    ·rw [e] at hx;exact hst x hx
    ·exact hst x (e x hx)
   have SSn:= hideP GA.1
   have FA5:= FA.below B5
   have HB5:= below_heap B5 HB
   have BB5: Below S w w5:= BB.trans (B5.mono (by rw [← hS];exact BB.size))
   have few5:= OF5.few
   clear TG GA g0 g1
   rcases NX with ⟨n1,n2⟩ | ⟨n1,n2,n3⟩
   ·have q5: ((List.length ns5: Int) == (List.length ys: Int)) = true:= by rw [beq_iff_eq];omega
    have HO:= hideP n2
    clear n1 n2
    go_wp2_with fail
    go_ret2
    exact ⟨⟨ys,a,c,by rw [HO.out];rfl,FA5,by rw [HO.out];rfl⟩,by first | exact BB5 | (rw [hS];exact BB5)⟩
   ·have q5: ((List.length ns5: Int) == (List.length ys: Int)) = false:= by rw [beq_eq_false_iff_ne];omega
    have HN:= hideP n3
    clear n1 n3
    go_wp2_with fail
    exact ⟨⟨ns5,a5,c5,rfl,few5,⟨OF5.lies,EK5⟩,HN,SSn,SMn,HB5,BB5⟩,by simp;omega⟩
  ·have q4: ¬ (List.length ys: Int) ≤ 400:= by omega
   have HO:= hideP (HL1.out.none_of (by rw [List.length_map];omega))
   go_wp2_with fail
   go_ret2
   exact ⟨⟨[],none,0,by rw [HO.out];rfl,⟨Lies.nil _,(fun _ h => by cases h)⟩,by rw [HO.out];rfl⟩,BB⟩
end Go.Proofs.YtpdmmmdkpipmkaaGreatDoor
namespace Go.Proofs.YtpdmmmdkpipmkaaGreatDoor
open Go.ChangeShapes Go.WideShapes Go.ChangeAt Go.RowKit
abbrev laid2: List (String × DataW Unit):= [("math/bits.deBruijn32tab",Rows.laid_math_bits_deBruijn32tab),("math/bits.deBruijn64tab",Rows.laid_math_bits_deBruijn64tab),("internal/strconv.uint64pow10",Rows.laid_internal_strconv_uint64pow10),("strconv.ErrRange",Rows.laid_strconv_ErrRange),("strconv.ErrSyntax",Rows.laid_strconv_ErrSyntax)]
theorem Tryz.tTab: (Tryz.prog.globals[1]?).map (·.type) = some 282:= by kernel_rfl
theorem Tryz.cells64: Tryz.prog.cellsOf 231 = 1:= by kernel_rfl
theorem Tryz.cellsTab: Tryz.prog.cellsOf 282 = 20:= by kernel_rfl
theorem Tryz.gSyn: Tryz.prog.globalNamed "strconv.ErrSyntax" = some 2:= by kernel_rfl
theorem Tryz.gRng: Tryz.prog.globalNamed "strconv.ErrRange" = some 3:= by kernel_rfl
theorem Tryz.tSyn: (Tryz.prog.globals[2]?).map (·.type) = some 205:= by kernel_rfl
theorem Tryz.tRng: (Tryz.prog.globals[3]?).map (·.type) = some 205:= by kernel_rfl
theorem Tryz.cellsEs: Tryz.prog.cellsOf 305 = 1:= by kernel_rfl
theorem Tryz.cellsStr: Tryz.prog.cellsOf 9 = 1:= by kernel_rfl
theorem Tryz.star: "*" ++ "errors.errorString" = "*errors.errorString" := by decide
theorem Tryz.rowEs (u: TypeId) (h: Tryz.prog.typeName? 3 u = some "*errors.errorString"): u = 303:=
 typeName_ptr_named (nm:= "errors.errorString") (by rw [Tryz.star];kernel_rfl) (by kernel_rfl) (by decide) u (by rw [Tryz.star];exact h)
theorem var_cell {P: Program} {W: World} {n: String} {g: Nat} {v: Value} (hg: P.globalNamed n = some g) (h: W.var? P n = some #[v]): W.cell? ⟨g,0,none⟩ = some v:= by
 have:= World.var?_cell hg h 0
 simpa using this
theorem laid_of {W: World} (h: laidMetH Tryz.prog laid2 W): Laid W:= by
 have h0: laidMet Tryz.prog laid2 W:= h
 have h1:= laidMet.tail (laidMet.tail h0)
 have h2:= laidMet.tail h1
 have h3:= laidMet.tail h2
 have t:= Lib.tabIs_of_head (zs:= Lib.pow10Tab) Tryz.gTab Tryz.tTab Tryz.underlying282 Tryz.underlying231 Tryz.cells64 Tryz.cellsTab h1
 obtain ⟨a1,s1,v1,_⟩:= laid_sentinel h2 Tryz.gRng Tryz.tRng Tryz.underlying205 Tryz.rowEs Tryz.underlying303 Tryz.underlying305 rfl rfl Tryz.underlying9 Tryz.cellsEs Tryz.cellsStr
 obtain ⟨a2,s2,v2,_⟩:= laid_sentinel h3 Tryz.gSyn Tryz.tSyn Tryz.underlying205 Tryz.rowEs Tryz.underlying303 Tryz.underlying305 rfl rfl Tryz.underlying9 Tryz.cellsEs Tryz.cellsStr
 exact ⟨t,⟨_,_,var_cell Tryz.gSyn v2⟩,⟨_,_,var_cell Tryz.gRng v1⟩⟩
theorem door_met (os: Os) (args: Array Value): laidMetH Tryz.prog laid2 ((World.doorLaid Tryz.prog 62 os).forCall (fun _ _ => 0) ⟨#[],args,[]⟩).memory:=
 laidMetH_of_parts3 (fuel:= 8) (laidMet_of_run' 8 (by kernel_rfl) (by kernel_rfl)) (by kernel_rfl) (by kernel_rfl)
end Go.Proofs.YtpdmmmdkpipmkaaGreatDoor
