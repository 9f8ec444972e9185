/-
  A slice literal of one record.
-/
import Derived.Great.BuildSlice
import Derived.Test.YtpdmmmdkpipmkaaGreatDoorQLb
import Derived.Test.YtpdmmmdkpipmkaaGreatDoorQE3
set_option maxRecDepth 100000
set_option maxHeartbeats 2000000
namespace Go.Proofs.YtpdmmmdkpipmkaaGreatDoor
open Go.RowKit Go.Sort
theorem fold_splice: ∀ (vs: List Value) (o: Nat) (C: Array Value),(vs.zipIdx o).foldl (fun cs x => cs.setIfInBounds (0 + x.2) x.1) C = splice C o vs
 | [],_,_ => rfl
 | v:: r,o,C => by
  rw [List.zipIdx_cons,List.foldl_cons,splice,← fold_splice r (o + 1)]
  simp
theorem wpList_build_one {P: Program} {ops: Array Oper} {rest: List Oper} {o: Oper} {a: Act} {w: World} {Q: Exit → Act → World → Prop} (hg: o.guard = none) (t e: TypeId) (x: Operand) (ho: o.op = .buildSlice t 1 #[(0,x)])
 (vs: List Value) (z: Value) (k bytes: Nat) (hx: a.eval x = .agg vs.toArray) (hk: vs.length = k) (hk0: 0 < k) (hk1: k ≤ 1000)
 (hu: P.underlying t = some (.slice e)) (hi: (P.info? e).map (fun i => (i.zero,i.size,i.bytes)) = some (some z,k,bytes))
 (h: wpList P ops Q rest (a.put o.dst (.slice (some ⟨w.heap.size,0,none⟩) 1 1)) (w.alloc (.cells vs.toArray e))): wpList P ops Q (o:: rest) a w:= by
 obtain ⟨i0,h0,h1,h2,h3⟩:= info_parts hi
 refine wpList_buildSlice hg t e 1 _ ho _ i0 z hu h0 h1 (by rw [h2];omega) (by rw [h2];omega) ?_ h
 rw [h2]
 generalize hC: (Array.range (1 * k)).map (z.cells[· % z.cells.size]!) = C
 have hs: C.size = k:= by rw [← hC];simp
 have e1: ((#[(0,x)]: Array (Nat × Operand)).map fun (i,x) => (i,a.eval x)).toList = [(0,.agg vs.toArray)]:= by simp [hx]
 rw [e1]
 have hc: (Value.agg vs.toArray).cells = vs.toArray:= rfl
 unfold Instr.fill
 simp only [hc,List.size_toArray,hk]
 rw [if_neg (by simp [hs])]
 unfold Instr.fill
 have hz: vs.toArray.zipIdx = (vs.zipIdx 0).toArray:= by simp
 rw [hz]
 simp only [List.foldl_toArray']
 have:= fold_splice vs 0 C
 simp only [Nat.zero_mul] at *
 rw [show (fun (cs: Array Value) (x: Value × Nat) => match x with | (c,j) => cs.setIfInBounds (0 + j) c) = fun cs x => cs.setIfInBounds (0 + x.2) x.1 from rfl]
 rw [this,splice_all C vs (by omega)]
end Go.Proofs.YtpdmmmdkpipmkaaGreatDoor
namespace Go.Proofs.YtpdmmmdkpipmkaaGreatDoor
open Go.RowKit Go.Lib Go.Shelf
theorem rnone11_at (t: Tm) (w: World): Calls Tryz.prog 89 #[tval t] w fun e w' => e = .returned (.bool (Mt.nul t)) ∧ Below w.heap.size w w':= by
 have E:= fun W => eqTerm t ⟨[],⟨false,0,[]⟩⟩ W
 simp only [same_nul] at E
 generalize Mt.nul t = r at *
 obtain ⟨v,⟨a,b,c⟩⟩:= t
 go_enter Tryz.func89,Tryz.ntmps89
 go_wp2_with fail
 go_ret
 exact ⟨rfl,below_alloc _ _⟩
theorem rName_at (s: List UInt8) (w: World): Calls Tryz.prog 60 #[str s] w fun e w' => e = .returned (kval (Mt.nm s)) ∧ Below w.heap.size w w':= by
 have H0:= heap_alloc_new w (.cells #[.bool false,.int .i64 0,.string { data:= #[] }] 42)
 have iK: (Tryz.prog.info? 42).map (·.size) = some 3:= by kernel_rfl
 go_enter Tryz.func60,Tryz.ntmps60
 go_wp2_with (refine wpList_store_all rfl 42 _ _ rfl w.heap.size 3 _ 42 (kv (Mt.nm s)) rfl rfl H0 rfl rfl iK rfl ?_;intro w1 H1 b1)
 exact bodyPost_ret (results_cell rfl rfl H1 Tryz.underlying42 rfl iK) rfl ⟨rfl,below_tok b1⟩
theorem val_nul {t: Tm} (L: Mt.Env) (h: Mt.nul t = true): valK t L = k0 ∧ valB t L = false:= by
 unfold valK valB Mt.val
 rw [if_pos h]
 exact ⟨rfl,rfl⟩
theorem rvalue_at (t: Tm) (a: Option Addr) (c: Nat) (L: List Bd) (w: World) (h: Row bK w a c L):
 Calls Tryz.prog 88 #[tval t,.slice a L.length c] w fun e w' => e = .returned (.tuple #[kval (valK t L),.bool (valB t L)]) ∧ Below w.heap.size w w':= by
 have iK: (Tryz.prog.info? 42).map (·.size) = some 3:= by kernel_rfl
 have few:= h.few
 have N:= hideP (fun W => rnone11_at t W)
 have V1:= hideP (fun h1 => val_nul (t:= t) L h1)
 have V2:= hideP (fun h1 => val_const (t:= t) L h1)
 have V3:= hideP (fun h1 => val_var (t:= t) L h1)
 generalize valK t L = kk at *
 generalize valB t L = bb at *
 generalize hn: Mt.nul t = q at *
 clear hn
 obtain ⟨v,⟨x,n,s⟩⟩:= t
 simp only at V2 V3
 obtain ⟨h0,h1,A0⟩:= boxes2 w (.cells #[str v,.bool x,.int .i64 n,str s] 44) (.cells #[.bool false,.int .i64 0,.string { data:= #[] }] 42)
 go_enter Tryz.func88,Tryz.ntmps88
 go_wp2_with fail
 refine (N.out _).mono ?_
 rintro e w1 ⟨rfl,b1⟩
 have g0:= below_heap b1 h0
 have g1:= below_heap b1 h1
 have B:= Below.then A0 b1
 have hs2:= heap_lt g1
 clear h0 h1 A0 b1 N
 cases q with
 | true =>
  obtain ⟨rfl,rfl⟩:= V1.out rfl
  go_wp2_with (refine wpList_store_all rfl 42 _ _ rfl (w.heap.size + 1) 3 _ 42 (kv k0) rfl rfl g1 rfl rfl iK rfl ?_;intro w2 H2 b2)
  exact bodyPost_ret (results_c1 rfl rfl H2 Tryz.underlying42 rfl iK) rfl ⟨rfl,B.trans (b2.lower (by omega) (by omega))⟩
 | false =>
  have c0: w1.cell? ⟨w.heap.size,0,none⟩ = some (str v):= by rw [heap_cell g0];rfl
  by_cases hv: v = []
  ·obtain ⟨rfl,rfl⟩:= V2.out hv
   have q0: v.isEmpty = true:= by simpa using hv
   have r2: w1.rangeAt w.heap.size 1 (kv ⟨x,n,s⟩):= World.rangeAt_of_block g0 1 3
   clear V1 V2 V3 hv
   go_wp2_with (first | (refine wpList_load_mid rfl 42 _ rfl w.heap.size 1 rfl (kv ⟨x,n,s⟩) _ r2 Tryz.underlying42 rfl iK ?_) | (refine wpList_store_all rfl 42 _ _ rfl (w.heap.size + 1) 3 _ 42 (kv ⟨x,n,s⟩) rfl rfl g1 rfl rfl iK rfl ?_;intro w2 H2 b2))
   exact bodyPost_ret (results_c1 rfl rfl H2 Tryz.underlying42 rfl iK) rfl ⟨rfl,B.trans (b2.lower (by omega) (by omega))⟩
  ·have VV:= hideP (V3.out hv)
   have q0: v.isEmpty = false:= by simpa using hv
   clear V1 V2 V3 hv
   go_wp2_with fail
   go_loopw [6] (fun u wr => ∃ k: Nat,u = .int .i64 (k: Int) ∧ k ≤ L.length ∧ Hid (Mt.get v (L.take k) = none) ∧ Below w1.heap.size w1 wr) (fun u _ => L.length - (RowKit.intOf u).toNat)
   case atStart => exact ⟨0,rfl,by omega,hideP (by simp [Mt.get]),Below.refl _ _⟩
   case round =>
    obtain ⟨k,rfl,hk,hno,B1⟩:= hrel
    have d0: wr.cell? ⟨w.heap.size,0,none⟩ = some (str v):= by rw [B1.cell (cell_block c0)];exact c0
    have G1:= below_heap B1 g1
    have BB:= Below.then B B1
    by_cases hlt: k < L.length
    ·have q1: (k: Int) < (L.length: Int):= by omega
     obtain ⟨P1,O1,rfl⟩:= h.addr (by omega)
     have r1:= (h.below BB (Nat.le_refl _)).range k hlt
     have e0: wr.cell? ⟨P1,O1 + k * 4,none⟩ = some (str (L[k]'hlt).1):= r1 0 _ rfl
     have YE: Hid ((L[k]'hlt).1 = v → Mt.get v L = some (L[k]'hlt).2):= fun h1 => get_hit hlt hno.out h1
     have NO: Hid ((L[k]'hlt).1 ≠ v → Mt.get v (L.take (k + 1)) = none):= fun h1 => get_miss hlt hno.out h1
     have r2: wr.rangeAt P1 (O1 + k * 4 + 1) (kv (L[k]'hlt).2):= fun j u hu => by
      have hj: j < 3:= (List.getElem?_eq_some_iff.1 hu).1
      rw [Nat.add_assoc]
      refine r1 (1 + j) u ?_
      match j,hj with
      | 0,_ => exact hu
      | 1,_ => exact hu
      | 2,_ => exact hu
     clear r1
     generalize (L[k]'hlt) = b at *
     obtain ⟨b1,b2⟩:= b
     simp only at e0 YE NO r2
     by_cases he: b1 = v
     ·have q2: (b1 == v) = true:= by simpa using he
      have Y:= YE.out he
      obtain ⟨z1,z2⟩:= VV.out
      rw [Y] at z1 z2
      simp only [Option.getD_some,Option.isSome_some] at z1 z2
      subst z1 z2
      clear he YE NO VV Y hno
      go_wp2_with fail
      go_quiet (fail)
      have D:= below_drewN (Below.refl wr.heap.size wr) nq
      have r3: (wr.drewN nq).rangeAt P1 (O1 + k * 4 + 1) (kv kk):= fun j u hu => by
       have:= r2 j u hu
       rw [D.cell (cell_block this)];exact this
      have G2:= below_heap D G1
      have hz:= heap_lt G2
      have BD:= Below.then BB D
      generalize wr.drewN nq = w5 at *
      have iQ: (Tryz.prog.info? 42).map (·.size) = some (kv kk).length:= iK
      clear r2 G1 D BB d0 e0
      go_wp2_with (first | (refine wpList_load_mid rfl 42 _ rfl P1 (O1 + k * 4 + 1) rfl (kv kk) _ r3 Tryz.underlying42 rfl iQ ?_) | (refine wpList_store_all rfl 42 _ _ rfl (w.heap.size + 1) 3 _ 42 (kv kk) rfl rfl G2 rfl rfl iK rfl ?_;intro w6 H6 b6))
      exact bodyPost_ret (results_c1 rfl rfl H6 Tryz.underlying42 rfl iK) rfl ⟨rfl,BD.trans (b6.lower (by omega) (by omega))⟩
     ·have q2: (b1 == v) = false:= by simpa using he
      have Y:= hideP (NO.out he)
      clear he YE NO hno
      go_wp2_with fail
      go_quiet (fail)
      go_wp2_with fail
      exact ⟨⟨k + 1,by go_num,by omega,Y,Below.then B1 (below_drewN (Below.refl _ _) nq)⟩,by simp [RowKit.intOf];omega⟩
    ·have q1: ¬ (k: Int) < (L.length: Int):= by omega
     rw [List.take_of_length_le (by omega)] at hno
     obtain ⟨z1,z2⟩:= VV.out
     rw [hno.out] at z1 z2
     simp only [Option.getD_none,Option.isSome_none] at z1 z2
     subst z1 z2
     have hz:= heap_lt G1
     clear VV hno
     go_wp2_with (refine wpList_store_all rfl 42 _ _ rfl (w.heap.size + 1) 3 _ 42 (kv k0) rfl rfl G1 rfl rfl iK rfl ?_;intro w6 H6 b6)
     exact bodyPost_ret (results_c1 rfl rfl H6 Tryz.underlying42 rfl iK) rfl ⟨rfl,BB.trans (b6.lower (by omega) (by omega))⟩
end Go.Proofs.YtpdmmmdkpipmkaaGreatDoor
namespace Go.Proofs.YtpdmmmdkpipmkaaGreatDoor
open Go.RowKit Go.Lib Go.Shelf
def uniE (t: Tm) (k: K) (L: Mt.Env): Mt.Env:= (Mt.uni t k L).getD []
def uniB (t: Tm) (k: K) (L: Mt.Env): Bool:= (Mt.uni t k L).isSome
theorem uniE_len (t: Tm) (k: K) (L: Mt.Env): (uniE t k L).length ≤ L.length + 1:= by
 unfold uniE
 cases h: Mt.uni t k L with
 | none => simp
 | some e => exact Mt.uni_len h
theorem uni_cases (t: Tm) (k: K) (L: Mt.Env):
 (∃ v,valK t L = v ∧ valB t L = true ∧ sameK v k = true ∧ uniE t k L = L ∧ uniB t k L = true) ∨ (∃ v,valK t L = v ∧ valB t L = true ∧ sameK v k = false ∧ uniE t k L = [] ∧ uniB t k L = false) ∨
 (valK t L = k0 ∧ valB t L = false ∧ Mt.nul t = true ∧ uniE t k L = [] ∧ uniB t k L = false) ∨ (valK t L = k0 ∧ valB t L = false ∧ Mt.nul t = false ∧ uniE t k L = L ++ [(t.v,k)] ∧ uniB t k L = true):= by
 unfold valK valB uniE uniB Mt.uni
 cases hv: Mt.val t L with
 | some v =>
  simp only
  cases hs: sameK v k with
  | true =>
   have: Mt.eqK v k = true:= hs
   exact .inl ⟨v,rfl,rfl,hs,by rw [if_pos this];rfl,by rw [if_pos this];rfl⟩
  | false =>
   have: ¬ Mt.eqK v k = true:= by rw [show Mt.eqK v k = false from hs];decide
   exact .inr (.inl ⟨v,rfl,rfl,hs,by rw [if_neg this];rfl,by rw [if_neg this];rfl⟩)
 | none =>
  simp only
  cases hn: Mt.nul t with
  | true => exact .inr (.inr (.inl ⟨rfl,rfl,rfl,rfl,rfl⟩))
  | false => exact .inr (.inr (.inr ⟨rfl,rfl,rfl,rfl,rfl⟩))
theorem munify_at (t: Tm) (k: K) (base: Nat) (a: Option Addr) (c: Nat) (L: List Bd) (w: World) (hE: EnvAt base w (.slice a L.length c) L) (hb: base ≤ w.heap.size) (hf: L.length ≤ 1000000):
 Calls Tryz.prog 188 #[tval t,kval k,.slice a L.length c] w fun e w' => (∃ a' c',e = .returned (.tuple #[.slice a' (uniE t k L).length c',.bool (uniB t k L)]) ∧ EnvAt base w' (.slice a' (uniE t k L).length c') (uniE t k L)) ∧ Below base w w' ∧ ∀ ty: TypeId,ty ≠ 143 → Safe ty w w':= by
 have iK: (Tryz.prog.info? 42).map (·.size) = some 3:= by kernel_rfl
 have CS:= hideP (uni_cases t k L)
 have R:= (hE.row' (by omega)).2
 have N:= hideP (fun W => mnone_at t W)
 have EQ:= hideP (fun v W => eqConst v k 9998 W)
 have BX:= boxes2 w (.cells (tv t).toArray 44) (.cells (kv k).toArray 42)
 have T:= hideP (mvalue_at t a c L _ (R.below BX.2.2 (Nat.le_refl _)))
 generalize hE1: uniE t k L = E1 at *
 generalize hB1: uniB t k L = B1 at *
 have HB:= hideP BX
 clear BX hE1 hB1
 obtain ⟨v,⟨x,n,s⟩⟩:= t
 obtain ⟨x',n',s'⟩:= k
 go_enter Tryz.func188,Tryz.ntmps188
 go_wp2_with fail
 refine T.out.mono ?_
 rintro e w1 ⟨rfl,b1⟩
 obtain ⟨h1,h2,h3⟩:= HB.out
 have B:= Below.then h3 b1
 have g1:= below_heap b1 h1
 have g2:= below_heap b1 h2
 have hE2:= hE.then B hb
 have hb1: base ≤ w1.heap.size:= Nat.le_trans hb B.size
 clear h1 h2 h3 b1 T HB R hE
 rcases CS.out with ⟨u,e1,e2,e3,rfl,rfl⟩ | ⟨u,e1,e2,e3,rfl,rfl⟩ | ⟨e1,e2,e3,rfl,rfl⟩ | ⟨e1,e2,e3,rfl,rfl⟩
 ·rw [e1,e2]
  have Q:= EQ.out u
  rw [e3] at Q
  clear CS e1 e2 e3 EQ N
  obtain ⟨y,m,z⟩:= u
  simp only at Q
  have H1:= heap_alloc_new w1 (.cells #[.bool false,.int .i64 0,.string { data:= #[] }] 42)
  have A1:= below_alloc w1 (.cells #[.bool false,.int .i64 0,.string { data:= #[] }] 42)
  have G2:= below_heap A1 g2
  have G1:= below_heap A1 g1
  have hn2:= heap_lt g2
  go_wp2_with (refine wpList_store_all rfl 42 _ _ rfl w1.heap.size 3 _ 42 (kv ⟨y,m,z⟩) rfl rfl H1 rfl rfl iK rfl ?_;intro w2 H2 b2;have J2:= b2.heap (by omega) G2;have c0: w2.cell? ⟨w1.heap.size,0,none⟩ = some (.bool y):= (by rw [heap_cell H2];rfl);have c1: w2.cell? ⟨w1.heap.size,1,none⟩ = some (.int .i64 m):= (by rw [heap_cell H2];rfl);have c2: w2.cell? ⟨w1.heap.size,2,none⟩ = some (str z):= (by rw [heap_cell H2];rfl);have d0: w2.cell? ⟨w.heap.size + 1,0,none⟩ = some (.bool x'):= (by rw [heap_cell J2];rfl);have d1: w2.cell? ⟨w.heap.size + 1,1,none⟩ = some (.int .i64 n'):= (by rw [heap_cell J2];rfl);have d2: w2.cell? ⟨w.heap.size + 1,2,none⟩ = some (str s'):= (by rw [heap_cell J2];rfl))
  go_ret2
  have T2:= below_tok b2
  have X:= Below.then B T2
  exact ⟨⟨a,c,rfl,hE2.then T2 hb1⟩,X.mono hb,fun _ _ => Safe.below X⟩
 ·rw [e1,e2]
  have Q:= EQ.out u
  rw [e3] at Q
  clear CS e1 e2 e3 EQ N
  obtain ⟨y,m,z⟩:= u
  simp only at Q
  have H1:= heap_alloc_new w1 (.cells #[.bool false,.int .i64 0,.string { data:= #[] }] 42)
  have A1:= below_alloc w1 (.cells #[.bool false,.int .i64 0,.string { data:= #[] }] 42)
  have G2:= below_heap A1 g2
  have G1:= below_heap A1 g1
  have hn2:= heap_lt g2
  go_wp2_with (refine wpList_store_all rfl 42 _ _ rfl w1.heap.size 3 _ 42 (kv ⟨y,m,z⟩) rfl rfl H1 rfl rfl iK rfl ?_;intro w2 H2 b2;have J2:= b2.heap (by omega) G2;have c0: w2.cell? ⟨w1.heap.size,0,none⟩ = some (.bool y):= (by rw [heap_cell H2];rfl);have c1: w2.cell? ⟨w1.heap.size,1,none⟩ = some (.int .i64 m):= (by rw [heap_cell H2];rfl);have c2: w2.cell? ⟨w1.heap.size,2,none⟩ = some (str z):= (by rw [heap_cell H2];rfl);have d0: w2.cell? ⟨w.heap.size + 1,0,none⟩ = some (.bool x'):= (by rw [heap_cell J2];rfl);have d1: w2.cell? ⟨w.heap.size + 1,1,none⟩ = some (.int .i64 n'):= (by rw [heap_cell J2];rfl);have d2: w2.cell? ⟨w.heap.size + 1,2,none⟩ = some (str s'):= (by rw [heap_cell J2];rfl))
  go_ret2
  have T2:= below_tok b2
  have X:= Below.then B T2
  exact ⟨⟨none,0,rfl,EnvAt.nil _ _⟩,X.mono hb,fun _ _ => Safe.below X⟩
 ·rw [e1,e2]
  rw [e3] at N
  clear CS e1 e2 e3 EQ
  have H1:= heap_alloc_new w1 (.cells #[.bool false,.int .i64 0,.string { data:= #[] }] 42)
  have A1:= below_alloc w1 (.cells #[.bool false,.int .i64 0,.string { data:= #[] }] 42)
  have G2:= below_heap A1 g2
  have G1:= below_heap A1 g1
  have hn2:= heap_lt g2
  go_wp2_with (refine wpList_store_all rfl 42 _ _ rfl w1.heap.size 3 _ 42 (kv k0) rfl rfl H1 rfl rfl iK rfl ?_;intro w2 H2 b2;have J2:= b2.heap (by omega) G2;have J1:= b2.heap (by omega) G1;have c0: w2.cell? ⟨w.heap.size,0,none⟩ = some (str v):= (by rw [heap_cell J1];rfl);have c1: w2.cell? ⟨w.heap.size,1,none⟩ = some (.bool x):= (by rw [heap_cell J1];rfl);have c2: w2.cell? ⟨w.heap.size,2,none⟩ = some (.int .i64 n):= (by rw [heap_cell J1];rfl);have c3: w2.cell? ⟨w.heap.size,3,none⟩ = some (str s):= (by rw [heap_cell J1];rfl);have T2:= below_tok b2)
  refine (N.out w2).mono ?_
  rintro e w3 ⟨rfl,b3⟩
  have X:= Below.then (Below.then B T2) b3
  go_wp2_with fail
  go_ret2
  exact ⟨⟨none,0,rfl,EnvAt.nil _ _⟩,X.mono hb,fun _ _ => Safe.below X⟩
 ·rw [e1,e2]
  rw [e3] at N
  clear CS e1 e2 e3 EQ
  have H1:= heap_alloc_new w1 (.cells #[.bool false,.int .i64 0,.string { data:= #[] }] 42)
  have A1:= below_alloc w1 (.cells #[.bool false,.int .i64 0,.string { data:= #[] }] 42)
  have G2:= below_heap A1 g2
  have G1:= below_heap A1 g1
  have hn2:= heap_lt g2
  go_wp2_with (refine wpList_store_all rfl 42 _ _ rfl w1.heap.size 3 _ 42 (kv k0) rfl rfl H1 rfl rfl iK rfl ?_;intro w2 H2 b2;have J2:= b2.heap (by omega) G2;have J1:= b2.heap (by omega) G1;have c0: w2.cell? ⟨w.heap.size,0,none⟩ = some (str v):= (by rw [heap_cell J1];rfl);have c1: w2.cell? ⟨w.heap.size,1,none⟩ = some (.bool x):= (by rw [heap_cell J1];rfl);have c2: w2.cell? ⟨w.heap.size,2,none⟩ = some (.int .i64 n):= (by rw [heap_cell J1];rfl);have c3: w2.cell? ⟨w.heap.size,3,none⟩ = some (str s):= (by rw [heap_cell J1];rfl);have T2:= below_tok b2)
  refine (N.out w2).mono ?_
  rintro e w3 ⟨rfl,b3⟩
  have X:= Below.then (Below.then B T2) b3
  have hE3:= (hE2.then T2 hb1).then b3 (Nat.le_trans hb1 T2.size)
  have I2:= below_heap b3 J2
  have I1:= below_heap b3 J1
  have hb3: base ≤ w3.heap.size:= Nat.le_trans hb X.size
  clear c0 c1 c2 c3 J1 J2 T2 b3 H2 b2 G1 G2 A1 H1 hE2 N B g1 g2 hn2
  have r0: w3.cell? ⟨w.heap.size,0,none⟩ = some (str v):= (by rw [heap_cell I1];rfl)
  have d0: w3.cell? ⟨w.heap.size + 1,0,none⟩ = some (.bool x'):= (by rw [heap_cell I2];rfl)
  have d1: w3.cell? ⟨w.heap.size + 1,1,none⟩ = some (.int .i64 n'):= (by rw [heap_cell I2];rfl)
  have d2: w3.cell? ⟨w.heap.size + 1,2,none⟩ = some (str s'):= (by rw [heap_cell I2];rfl)
  have A4:= below_alloc w3 (.cells #[str v,.bool x',.int .i64 n',str s'] 143)
  have hE4:= hE3.then A4 hb3
  have R4: Row bK (w3.alloc (.cells #[str v,.bool x',.int .i64 n',str s'] 143)) (some ⟨w3.heap.size,0,none⟩) 1 [(v,⟨x',n',s'⟩)]:= row_new bK w3 _ _ (v,⟨x',n',s'⟩) rfl
  go_wp2_with (at_builtin;refine wpList_append_env _ rfl _ _ rfl base a c L (v,⟨x',n',s'⟩) ⟨w3.heap.size,0,none⟩ rfl hE4 rfl R4 (Nat.le_trans hb3 A4.size) hf ?_;intro a5 c5 w5 E5 B5 S5)
  go_ret2
  exact ⟨⟨a5,c5,by rw [List.length_append];rfl,E5⟩,((Below.then X A4).mono hb).trans B5,fun ty hty => (Safe.below (Below.then X A4)).trans (S5 ty hty)⟩
end Go.Proofs.YtpdmmmdkpipmkaaGreatDoor
namespace Go.Proofs.YtpdmmmdkpipmkaaGreatDoor
open Go.RowKit Go.Lib Go.Shelf
def litE (home: Tm) (l: Lt) (f: F) (L: Mt.Env): Mt.Env:= (Mt.lit home l f L).getD []
def litB (home: Tm) (l: Lt) (f: F) (L: Mt.Env): Bool:= (Mt.lit home l f L).isSome
theorem litE_len (home: Tm) (l: Lt) (f: F) (L: Mt.Env): (litE home l f L).length ≤ L.length + (l.args.length + 2):= by
 unfold litE
 cases h: Mt.lit home l f L with
 | none => simp
 | some e => exact Mt.lit_len h
theorem lit_of_none {home: Tm} {l: Lt} {f: F} {L: Mt.Env} (h: Mt.lit home l f L = none): litE home l f L = [] ∧ litB home l f L = false:= by unfold litE litB;rw [h];exact ⟨rfl,rfl⟩
theorem lit_of_some {home: Tm} {l: Lt} {f: F} {L e: Mt.Env} (h: Mt.lit home l f L = some e): litE home l f L = e ∧ litB home l f L = true:= by unfold litE litB;rw [h];exact ⟨rfl,rfl⟩
theorem uni_two (t: Tm) (k: K) (L: Mt.Env): (Mt.uni t k L = none ∧ uniE t k L = [] ∧ uniB t k L = false) ∨ (∃ e,Mt.uni t k L = some e ∧ uniE t k L = e ∧ uniB t k L = true ∧ e.length ≤ L.length + 1):= by
 unfold uniE uniB
 cases h: Mt.uni t k L with
 | none => exact .inl ⟨rfl,rfl,rfl⟩
 | some e => exact .inr ⟨e,rfl,rfl,rfl,Mt.uni_len h⟩
theorem lv_cells {w: World} {b: Nat} {y: Lv} (H: w.heap[b]? = some (.cells (lv y).toArray 52)):
 w.cell? ⟨b,0,none⟩ = some (str y.by_.v) ∧ w.cell? ⟨b,1,none⟩ = some (.bool y.by_.k.num) ∧ w.cell? ⟨b,2,none⟩ = some (.int .i64 y.by_.k.n) ∧ w.cell? ⟨b,3,none⟩ = some (str y.by_.k.s) ∧ w.cell? ⟨b,5,none⟩ = some (.slice y.a y.args.length y.cap):= by
 refine ⟨?_, ?_, ?_, ?_, ?_⟩ <;> (rw [heap_cell H];rfl)
theorem tv_cells {w: World} {b: Nat} {t: Tm} {T: TypeId} (H: w.heap[b]? = some (.cells (tv t).toArray T)):
 w.cell? ⟨b,0,none⟩ = some (str t.v) ∧ w.cell? ⟨b,1,none⟩ = some (.bool t.k.num) ∧ w.cell? ⟨b,2,none⟩ = some (.int .i64 t.k.n) ∧ w.cell? ⟨b,3,none⟩ = some (str t.k.s):= by
 refine ⟨?_, ?_, ?_, ?_⟩ <;> (rw [heap_cell H];rfl)
theorem fv_cells {w: World} {b: Nat} {x: Fv} (H: w.heap[b]? = some (.cells (fv x).toArray 37)):
 w.cell? ⟨b,0,none⟩ = some (str x.at_) ∧ w.cell? ⟨b,1,none⟩ = some (str x.by_) ∧ w.cell? ⟨b,2,none⟩ = some (str x.pred) ∧ w.cell? ⟨b,3,none⟩ = some (.slice x.a x.ks.length x.cap):= by
 refine ⟨?_, ?_, ?_, ?_⟩ <;> (rw [heap_cell H];rfl)
structure Bx3 (base S: Nat) (home: Tm) (y: Lv) (x: Fv) (w wc: World): Prop where
 below: Below base w wc
 size: S ≤ wc.heap.size
 h0: wc.heap[S]? = some (.cells (tv home).toArray 44)
 h1: wc.heap[S + 1]? = some (.cells (lv y).toArray 52)
 h2: wc.heap[S + 2]? = some (.cells (fv x).toArray 37)
theorem Bx3.next {base S: Nat} {home: Tm} {y: Lv} {x: Fv} {w wc wd: World} (h: Bx3 base S home y x w wc) (b: Below base wc wd) (s: ∀ ty: TypeId,ty ≠ 143 → Safe ty wc wd): Bx3 base S home y x w wd:=
 ⟨h.below.trans b,Nat.le_trans h.size b.size,s _ (by decide) _ _ h.h0,s _ (by decide) _ _ h.h1,s _ (by decide) _ _ h.h2⟩
theorem Bx3.then {base S: Nat} {home: Tm} {y: Lv} {x: Fv} {w wc wd: World} (h: Bx3 base S home y x w wc) (b: Below wc.heap.size wc wd) (hb: base ≤ wc.heap.size): Bx3 base S home y x w wd:= h.next (b.mono hb) (fun _ _ => Safe.below b)
theorem mliteral_at (home: Tm) (y: Lv) (x: Fv) (base: Nat) (a: Option Addr) (c: Nat) (L: List Bd) (w: World) (hE: EnvAt base w (.slice a L.length c) L) (hb: base ≤ w.heap.size) (hf: L.length + y.args.length ≤ 900000) (hy: ∀ W,Below base w W → Lv.Aw W y) (hx: ∀ W,Below base w W → Fv.At W x):
 Calls Tryz.prog 245 #[tval home,lval y,x.val,.slice a L.length c] w fun e w' => (∃ a' c',e = .returned (.tuple #[.slice a' (litE home y.l x.f L).length c',.bool (litB home y.l x.f L)]) ∧ EnvAt base w' (.slice a' (litE home y.l x.f L).length c') (litE home y.l x.f L)) ∧ Below base w w' ∧ ∀ ty: TypeId,ty ≠ 143 → Safe ty w w':= by
 have iT: (Tryz.prog.info? 44).map (·.size) = some 4:= by kernel_rfl
 have hyf:= Row.few (show Row tK w y.a y.cap y.args from hy w (Below.refl _ _))
 have hxf:= ArgsAt.few (show ArgsAt w x.a x.cap x.ks from hx w (Below.refl _ _))
 obtain ⟨h0,h1,h2,A0⟩:= boxes3 w (.cells (tv home).toArray 44) (.cells (lv y).toArray 52) (.cells (fv x).toArray 37)
 by_cases hc: y.pred = x.pred ∧ y.args.length = x.ks.length
 rotate_left
 ·obtain ⟨z1,z2⟩:= lit_of_none (Mt.lit_no (home:= home) (l:= y.l) (f:= x.f) (e:= L) hc)
  rw [z1,z2]
  by_cases hp: y.pred = x.pred
  ·have q1: (y.pred == x.pred) = true:= by simpa using hp
   have q2: ((y.args.length: Int) != (x.ks.length: Int)) = true:= by
    rw [bne_iff_ne];intro h;exact hc ⟨hp,by omega⟩
   clear hp hc hy hx
   go_enter Tryz.func245,Tryz.ntmps245
   go_wp2_with fail
   go_ret2
   exact ⟨⟨none,0,rfl,EnvAt.nil _ _⟩,A0.mono hb,fun _ _ => Safe.below A0⟩
  ·have q1: (y.pred == x.pred) = false:= by simpa using hp
   clear hp hc hy hx
   go_enter Tryz.func245,Tryz.ntmps245
   go_wp2_with fail
   go_ret2
   exact ⟨⟨none,0,rfl,EnvAt.nil _ _⟩,A0.mono hb,fun _ _ => Safe.below A0⟩
 ·obtain ⟨hp,hl⟩:= hc
  have q1: (y.pred == x.pred) = true:= by simpa using hp
  have q2: ((y.args.length: Int) != (x.ks.length: Int)) = false:= by simp;omega
  have LY:= hideP (fun h => Mt.lit_one_no (home:= home) (l:= y.l) (f:= x.f) (e:= L) hp hl h)
  have LS:= hideP (fun e1 h => Mt.lit_one (home:= home) (l:= y.l) (f:= x.f) (e:= L) (e1:= e1) hp hl h)
  have hl':= hideP hl
  have TE:= hideP (fun W => meither_at y.at_ home W)
  have X0: Bx3 base w.heap.size home y x w _:= ⟨A0.mono hb,A0.size,h0,h1,h2⟩
  have r6: (((w.alloc (.cells (tv home).toArray 44)).alloc (.cells (lv y).toArray 52)).alloc (.cells (fv x).toArray 37)).rangeAt (w.heap.size + 1) 6 (tv y.at_):= World.rangeAt_of_block h1 6 4
  have hE0:= hE.then A0 hb
  clear hp hl h0 h1 h2 hE
  go_enter Tryz.func245,Tryz.ntmps245
  go_wp2_with (first | (refine wpList_load_mid rfl 44 _ rfl (w.heap.size + 1) 6 rfl (tv y.at_) _ r6 Tryz.underlying44 rfl iT ?_) | (refine wpList_load_all rfl 44 _ rfl w.heap.size 4 44 (tv home) _ rfl X0.h0 rfl Tryz.underlying44 rfl iT ?_))
  refine (TE.out _).mono ?_
  rintro e w1 ⟨rfl,b1⟩
  have s0: base ≤ w1.heap.size:= Nat.le_trans hb (Below.then A0 b1).size
  have X1:= X0.then b1 (Nat.le_trans hb A0.size)
  have hE1:= hE0.then b1 (Nat.le_trans hb A0.size)
  have T1:= Below.then A0 b1
  clear X0 hE0 b1 r6 TE A0
  have HA: Hid (Mt.at1 home y.l = Mt.place home y.at_):= rfl
  have HB: Hid (Mt.by2 home y.l = Mt.place (Mt.place home y.at_) y.by_):= rfl
  generalize Mt.place home y.at_ = aT at *
  rw [HA.out] at LY LS
  have H1:= heap_alloc_new w1 (.cells #[.string { data:= #[] },.bool false,.int .i64 0,.string { data:= #[] }] 44)
  have SF1: ∀ ty: TypeId,Safe ty w w1:= fun _ => Safe.below T1
  have hS2:= heap_lt X1.h2
  go_wp2_with (refine wpList_store_all rfl 44 _ _ rfl w1.heap.size 4 _ 44 (tv aT) rfl rfl H1 rfl rfl iT rfl ?_;intro w2 H2 b2;have T2:= below_tok b2)
  have X2:= X1.then T2 s0
  have hE2:= hE1.then T2 s0
  have SF2: ∀ ty: TypeId,Safe ty w w2:= fun ty => (SF1 ty).trans (Safe.below T2)
  have s2: base ≤ w2.heap.size:= Nat.le_trans s0 T2.size
  have hS3: w.heap.size + 2 < w1.heap.size:= hS2
  generalize hR: w1.heap.size = R at *
  clear hR H1 X1 hE1 SF1 b2 T2 T1 s0 hS2
  have gD:= (Below.refl w2.heap.size w2).drew
  have X2d:= X2.then gD s2
  have hE2d:= hE2.then gD s2
  have H2d:= below_heap gD H2
  have s2d: base ≤ w2.drew.heap.size:= Nat.le_trans s2 gD.size
  have K2: ∀ W,W.heap[R]? = some (.cells (tv aT).toArray 44) → Bx3 base w.heap.size home y x w W → (W.cell? ⟨R,0,none⟩ = some (str aT.v) ∧ W.cell? ⟨R,1,none⟩ = some (.bool aT.k.num) ∧ W.cell? ⟨R,2,none⟩ = some (.int .i64 aT.k.n) ∧ W.cell? ⟨R,3,none⟩ = some (str aT.k.s) ∧ W.cell? ⟨w.heap.size + 2,0,none⟩ = some (str x.at_)):= fun W h1 h2 => by
   obtain ⟨c1,c2,c3,c4⟩:= tv_cells h1
   exact ⟨c1,c2,c3,c4,(fv_cells h2.h2).1⟩
  have HK2:= hideP K2
  clear K2
  have TT:= hideP (fun W => mtext_at x.at_ W)
  have TU:= hideP (fun W h1 h2 => munify_at aT (Mt.nm x.at_) base a c L W h1 h2 (by omega))
  go_region_held3 (fun W => W.cell? ⟨R,0,none⟩ = some (str aT.v) ∧ W.cell? ⟨R,1,none⟩ = some (.bool aT.k.num) ∧ W.cell? ⟨R,2,none⟩ = some (.int .i64 aT.k.n) ∧ W.cell? ⟨R,3,none⟩ = some (str aT.k.s) ∧ W.cell? ⟨w.heap.size + 2,0,none⟩ = some (str x.at_)) (first | exact HK2.out _ H4 X4 | exact HK2.out _ H3 X3 | exact HK2.out _ H2d X2d) (first
   | (go_at_call 231;refine (TT.out _).mono ?_;rintro e w3 ⟨rfl,b3⟩;have X3:= X2d.then b3 s2d;have H3:= below_heap b3 H2d;have E3:= hE2d.then b3 s2d;have s3:= Nat.le_trans s2d b3.size;have SF3: ∀ ty: TypeId,Safe ty w w3:= fun ty => (SF2 ty).trans ((Safe.below gD).trans (Safe.below b3)))
   | (go_at_call 188;refine (TU.out _ E3 s3).mono ?_;rintro e w4 ⟨⟨a4,c4,rfl,E4⟩,b4,k4⟩;have X4:= X3.next b4 k4;have H4:= k4 44 (by decide) _ _ H3;have SF4: ∀ ty: TypeId,ty ≠ 143 → Safe ty w w4:= fun ty hn => (SF3 ty).trans (k4 ty hn)))
  have s4: base ≤ w4.heap.size:= Nat.le_trans hb X4.below.size
  clear hE2 hE2d TU TT HK2 gD X2 X2d H2 H2d X3 H3 E3 SF2 SF3 s2 s2d s3 b3 b4 k4
  rcases uni_two aT (Mt.nm x.at_) L with ⟨u1,u2,u3⟩ | ⟨e1,u1,u2,u3,u4⟩
  ·rw [u2] at E4 ⊢
   rw [u3]
   obtain ⟨z1,z2⟩:= lit_of_none (LY.out u1)
   have Z1:= hideP z1
   have Z2:= hideP z2
   clear u1 u2 u3 z1 z2 LY LS
   simp only [List.length_nil] at E4 ⊢
   go_wp2_with fail
   go_loopw [3,11,12] (fun v3 v11 _ wr => v3 = .slice a4 0 c4 ∧ v11 = .bool false ∧ w4 = wr) (fun _ _ _ _ => 0)
   case atStart => exact ⟨rfl,rfl,rfl⟩
   case round =>
    obtain ⟨rfl,rfl,rfl⟩:= hrel
    go_wp2_with fail
    go_ret2
    rw [Z1.out,Z2.out]
    exact ⟨⟨a4,c4,rfl,E4⟩,X4.below,SF4⟩
  ·rw [u2] at E4 ⊢
   rw [u3]
   have L1: Hid (Mt.lit home y.l x.f L = (Mt.uni (Mt.by2 home y.l) (Mt.nm x.by_) e1).bind fun e2 => Mt.unis y.args x.ks e2):= LS.out e1 u1
   rw [HB.out] at L1
   clear u1 u2 u3 LY LS
   have gD:= (Below.refl w4.heap.size w4).drew
   have X4d:= X4.then gD s4
   have E4d:= E4.then gD s4
   have H4d:= below_heap gD H4
   have s4d: base ≤ w4.drew.heap.size:= Nat.le_trans s4 gD.size
   have K2: ∀ W,W.heap[R]? = some (.cells (tv aT).toArray 44) → Bx3 base w.heap.size home y x w W → (W.cell? ⟨R,0,none⟩ = some (str aT.v) ∧ W.cell? ⟨R,1,none⟩ = some (.bool aT.k.num) ∧ W.cell? ⟨R,2,none⟩ = some (.int .i64 aT.k.n) ∧ W.cell? ⟨R,3,none⟩ = some (str aT.k.s) ∧ W.cell? ⟨w.heap.size + 2,1,none⟩ = some (str x.by_) ∧ W.cell? ⟨w.heap.size + 1,0,none⟩ = some (str y.by_.v) ∧ W.cell? ⟨w.heap.size + 1,1,none⟩ = some (.bool y.by_.k.num) ∧ W.cell? ⟨w.heap.size + 1,2,none⟩ = some (.int .i64 y.by_.k.n) ∧ W.cell? ⟨w.heap.size + 1,3,none⟩ = some (str y.by_.k.s)):= fun W h1 h2 => by
    obtain ⟨c1,c2,c3,c4⟩:= tv_cells h1
    obtain ⟨d1,d2,d3,d4,_⟩:= lv_cells h2.h1
    exact ⟨c1,c2,c3,c4,(fv_cells h2.h2).2.1,d1,d2,d3,d4⟩
   have HK2:= hideP K2
   clear K2
   have TE:= hideP (fun W => meither_at y.by_ aT W)
   have TT:= hideP (fun W => mtext_at x.by_ W)
   generalize Mt.place aT y.by_ = bT at *
   have TU:= hideP (fun W h1 h2 => munify_at bT (Mt.nm x.by_) base a4 c4 e1 W h1 h2 (by omega))
   go_wp2_with fail
   go_region_held3 (fun W => W.cell? ⟨R,0,none⟩ = some (str aT.v) ∧ W.cell? ⟨R,1,none⟩ = some (.bool aT.k.num) ∧ W.cell? ⟨R,2,none⟩ = some (.int .i64 aT.k.n) ∧ W.cell? ⟨R,3,none⟩ = some (str aT.k.s) ∧ W.cell? ⟨w.heap.size + 2,1,none⟩ = some (str x.by_) ∧ W.cell? ⟨w.heap.size + 1,0,none⟩ = some (str y.by_.v) ∧ W.cell? ⟨w.heap.size + 1,1,none⟩ = some (.bool y.by_.k.num) ∧ W.cell? ⟨w.heap.size + 1,2,none⟩ = some (.int .i64 y.by_.k.n) ∧ W.cell? ⟨w.heap.size + 1,3,none⟩ = some (str y.by_.k.s)) (first | exact HK2.out _ H7 X7 | exact HK2.out _ H6 X6 | exact HK2.out _ H5 X5 | exact HK2.out _ H4d X4d) (first
    | (go_at_call 150;refine (TE.out _).mono ?_;rintro e w5 ⟨rfl,b5⟩;have X5:= X4d.then b5 s4d;have H5:= below_heap b5 H4d;have E5:= E4d.then b5 s4d;have s5:= Nat.le_trans s4d b5.size;have SF5: ∀ ty: TypeId,ty ≠ 143 → Safe ty w w5:= fun ty hn => (SF4 ty hn).trans ((Safe.below gD).trans (Safe.below b5)))
    | (go_at_call 231;refine (TT.out _).mono ?_;rintro e w6 ⟨rfl,b6⟩;have X6:= X5.then b6 s5;have H6:= below_heap b6 H5;have E6:= E5.then b6 s5;have s6:= Nat.le_trans s5 b6.size;have SF6: ∀ ty: TypeId,ty ≠ 143 → Safe ty w w6:= fun ty hn => (SF5 ty hn).trans (Safe.below b6))
    | (go_at_call 188;refine (TU.out _ E6 s6).mono ?_;rintro e w7 ⟨⟨a7,c7,rfl,E7⟩,b7,k7⟩;have X7:= X6.next b7 k7;have H7:= k7 44 (by decide) _ _ H6;have SF7: ∀ ty: TypeId,ty ≠ 143 → Safe ty w w7:= fun ty hn => (SF6 ty hn).trans (k7 ty hn)))
   have s7: base ≤ w7.heap.size:= Nat.le_trans hb X7.below.size
   clear E4d TU TT TE HK2 gD X4 X4d H4 H4d H7 X5 H5 E5 X6 H6 E6 SF4 SF5 SF6 s4 s4d s5 s6 b5 b6 b7 k7 E4
   rcases uni_two bT (Mt.nm x.by_) e1 with ⟨u1,u2,u3⟩ | ⟨e2,u1,u2,u3,u5⟩
   ·rw [u2] at E7 ⊢
    rw [u3]
    have z0:= L1.out
    rw [u1] at z0
    obtain ⟨z1,z2⟩:= lit_of_none z0
    have Z1:= hideP z1
    have Z2:= hideP z2
    clear u1 u2 u3 z0 z1 z2 L1
    simp only [List.length_nil] at E7 ⊢
    go_wp2_with fail
    go_loopw [3,11,12] (fun v3 v11 _ wr => v3 = .slice a7 0 c7 ∧ v11 = .bool false ∧ w7 = wr) (fun _ _ _ _ => 0)
    case atStart => exact ⟨rfl,rfl,rfl⟩
    case round =>
     obtain ⟨rfl,rfl,rfl⟩:= hrel
     go_wp2_with fail
     go_ret2
     rw [Z1.out,Z2.out]
     exact ⟨⟨a7,c7,rfl,E7⟩,X7.below,SF7⟩
   ·rw [u2] at E7 ⊢
    rw [u3]
    have L2:= L1.out
    rw [u1] at L2
    have L3: Hid (Mt.lit home y.l x.f L = Mt.unis (y.args.drop 0) (x.ks.drop 0) e2):= L2
    clear u1 u2 u3 L1 L2
    go_wp2_with fail
    go_loopw [3,11,12] (fun v3 v11 v12 wr => ∃ (i: Nat) (M: List Bd) (ok: Bool) (a': Option Addr) (c': Nat),v3 = .slice a' M.length c' ∧ v11 = .bool ok ∧ v12 = .int .i64 (i: Int) ∧ i ≤ y.args.length ∧ M.length ≤ L.length + 2 + i ∧ EnvAt base wr (.slice a' M.length c') M ∧ Bx3 base w.heap.size home y x w wr ∧ (∀ ty: TypeId,ty ≠ 143 → Safe ty w wr) ∧ Hid ((ok = true → Mt.lit home y.l x.f L = Mt.unis (y.args.drop i) (x.ks.drop i) M) ∧ (ok = false → M = [] ∧ Mt.lit home y.l x.f L = none))) (fun _ _ v12 _ => y.args.length - (RowKit.intOf v12).toNat)
    case atStart => exact ⟨0,e2,true,a7,c7,rfl,rfl,rfl,Nat.zero_le _,by omega,E7,X7,SF7,fun _ => L3.out,fun h => by cases h⟩
    case round =>
     obtain ⟨i,M,ok,a',c',rfl,rfl,rfl,hi,hM,E,X,SF,HL⟩:= hrel
     have cl:= (lv_cells X.h1).2.2.2.2
     cases ok with
     | false =>
      obtain ⟨rfl,z0⟩:= HL.out.2 rfl
      obtain ⟨z1,z2⟩:= lit_of_none z0
      have Z1:= hideP z1
      have Z2:= hideP z2
      clear z0 z1 z2
      simp only [List.length_nil] at E ⊢
      go_wp2_with fail
      go_ret2
      rw [Z1.out,Z2.out]
      exact ⟨⟨a',c',rfl,E⟩,X.below,SF⟩
     | true =>
      by_cases hlt: i < y.args.length
      ·have q3: (i: Int) < (y.args.length: Int):= by omega
       have hlt': i < x.ks.length:= by have:= hl'.out;omega
       have q4: (i: Int) < (x.ks.length: Int):= by omega
       have ST:= HL.out.1 rfl
       rw [Mt.unis_step hlt hlt'] at ST
       have HST:= hideP ST
       clear ST HL
       have hY:= hy wr X.below
       have hX:= hx wr X.below
       have hlt0: 0 < y.args.length:= Nat.lt_of_le_of_lt (Nat.zero_le _) hlt
       obtain ⟨P1,O1,hP⟩:= Row.addr (show Row tK wr y.a y.cap y.args from hY) hlt0
       obtain ⟨P2,O2,hQ⟩:= ArgsAt.addr (show ArgsAt wr x.a x.cap x.ks from hX) (by omega)
       have s8: base ≤ wr.heap.size:= Nat.le_trans hb X.below.size
       have gD:= (Below.refl wr.heap.size wr).drew
       have Xd:= X.then gD s8
       have Ed:= E.then gD s8
       have s8d: base ≤ wr.drew.heap.size:= Nat.le_trans s8 gD.size
       have K2: ∀ W,Bx3 base w.heap.size home y x w W → (W.cell? ⟨w.heap.size + 1,5,none⟩ = some (.slice (some ⟨P1,O1,none⟩) y.args.length y.cap) ∧ W.cell? ⟨P1,O1 + i * 4,none⟩ = some (str (y.args[i]'hlt).v) ∧ W.cell? ⟨P1,O1 + i * 4 + 1,none⟩ = some (.bool (y.args[i]'hlt).k.num) ∧ W.cell? ⟨P1,O1 + i * 4 + 2,none⟩ = some (.int .i64 (y.args[i]'hlt).k.n) ∧ W.cell? ⟨P1,O1 + i * 4 + 3,none⟩ = some (str (y.args[i]'hlt).k.s) ∧ W.cell? ⟨w.heap.size + 2,3,none⟩ = some (.slice (some ⟨P2,O2,none⟩) x.ks.length x.cap) ∧ W.cell? ⟨P2,O2 + i * 3,none⟩ = some (.bool (x.ks[i]'hlt').num) ∧ W.cell? ⟨P2,O2 + i * 3 + 1,none⟩ = some (.int .i64 (x.ks[i]'hlt').n) ∧ W.cell? ⟨P2,O2 + i * 3 + 2,none⟩ = some (str (x.ks[i]'hlt').s)):= fun W h2 => by
        have d5:= (lv_cells h2.h1).2.2.2.2
        have d3:= (fv_cells h2.h2).2.2.2
        have r1: Row tK W y.a y.cap y.args:= hy W h2.below
        have r2: ArgsAt W x.a x.cap x.ks:= hx W h2.below
        rw [hP] at d5 r1
        rw [hQ] at d3 r2
        have r3:= r1.range i hlt
        obtain ⟨m1,m2,m3⟩:= r2.get i hlt'
        exact ⟨d5,r3 0 _ rfl,r3 1 _ rfl,r3 2 _ rfl,r3 3 _ rfl,d3,m1,m2,m3⟩
       have HK2:= hideP K2
       rw [hP] at cl
       clear K2 hY hX hP hQ
       generalize (y.args[i]'hlt) = tt at *
       generalize (x.ks[i]'hlt') = kk at *
       have TU:= hideP (fun W h1 h2 => munify_at tt kk base a' c' M W h1 h2 (by omega))
       go_wp2_with fail
       go_region_held3 (fun W => W.cell? ⟨w.heap.size + 1,5,none⟩ = some (.slice (some ⟨P1,O1,none⟩) y.args.length y.cap) ∧ W.cell? ⟨P1,O1 + i * 4,none⟩ = some (str tt.v) ∧ W.cell? ⟨P1,O1 + i * 4 + 1,none⟩ = some (.bool tt.k.num) ∧ W.cell? ⟨P1,O1 + i * 4 + 2,none⟩ = some (.int .i64 tt.k.n) ∧ W.cell? ⟨P1,O1 + i * 4 + 3,none⟩ = some (str tt.k.s) ∧ W.cell? ⟨w.heap.size + 2,3,none⟩ = some (.slice (some ⟨P2,O2,none⟩) x.ks.length x.cap) ∧ W.cell? ⟨P2,O2 + i * 3,none⟩ = some (.bool kk.num) ∧ W.cell? ⟨P2,O2 + i * 3 + 1,none⟩ = some (.int .i64 kk.n) ∧ W.cell? ⟨P2,O2 + i * 3 + 2,none⟩ = some (str kk.s)) (first | exact HK2.out _ X9 | exact HK2.out _ Xd) (first
        | (go_at_call 188;refine (TU.out _ Ed s8d).mono ?_;rintro e w9 ⟨⟨a9,c9,rfl,E9⟩,b9,k9⟩;have X9:= Xd.next b9 k9;have SF9: ∀ ty: TypeId,ty ≠ 143 → Safe ty w w9:= fun ty hn => (SF ty hn).trans ((Safe.below gD).trans (k9 ty hn))))
       have UT:= hideP (uni_two tt kk M)
       have UL:= uniE_len tt kk M
       generalize hue: uniE tt kk M = M' at *
       generalize hub: uniB tt kk M = ok' at *
       clear hue hub
       go_wp2_with fail
       refine ⟨⟨i + 1,M',ok',a9,c9,rfl,rfl,by go_num,by omega,by omega,E9,X9,SF9,fun h => ?_,fun h => ?_⟩,by simp [RowKit.intOf];omega⟩
       ·rcases UT.out with ⟨u1,u2,u3⟩ | ⟨e1,u1,u2,u3,_⟩
        ·rw [u3] at h;cases h
        ·subst u2
         rw [HST.out,u1];rfl
       ·rcases UT.out with ⟨u1,u2,u3⟩ | ⟨e1,u1,u2,u3,_⟩
        ·exact ⟨u2,by rw [HST.out,u1];rfl⟩
        ·rw [u3] at h;cases h
      ·have q3: ¬ (i: Int) < (y.args.length: Int):= by omega
       have z0:= HL.out.1 rfl
       rw [Mt.unis_done (by omega) (by have:= hl'.out;omega)] at z0
       obtain ⟨z1,z2⟩:= lit_of_some z0
       have Z1:= hideP z1
       have Z2:= hideP z2
       clear z0 z1 z2
       go_wp2_with fail
       go_ret2
       rw [Z1.out,Z2.out]
       exact ⟨⟨a',c',rfl,E⟩,X.below,SF⟩
end Go.Proofs.YtpdmmmdkpipmkaaGreatDoor
namespace Go.Proofs.YtpdmmmdkpipmkaaGreatDoor
open Go.RowKit Go.Lib Go.Shelf
def nmS (t: Tm) (L: Mt.Env): List UInt8:= (Mt.name t L).getD []
def nmB (t: Tm) (L: Mt.Env): Bool:= (Mt.name t L).isSome
theorem name_cases (t: Tm) (L: Mt.Env): (valB t L = false ∧ nmS t L = [] ∧ nmB t L = false) ∨ (valB t L = true ∧ sameK (valK t L) (Mt.nm (valK t L).s) = false ∧ nmS t L = [] ∧ nmB t L = false) ∨ (valB t L = true ∧ sameK (valK t L) (Mt.nm (valK t L).s) = true ∧ nmS t L = (valK t L).s ∧ nmB t L = true):= by
 unfold valB valK nmS nmB Mt.name
 cases h: Mt.val t L with
 | none => exact .inl ⟨rfl,rfl,rfl⟩
 | some c =>
  simp only [Option.bind_some,Option.getD_some,Option.isSome_some]
  cases hs: sameK c (Mt.nm c.s) with
  | false =>
   have: ¬ Mt.eqK c (Mt.nm c.s) = true:= by rw [show Mt.eqK c (Mt.nm c.s) = false from hs];decide
   rw [if_neg this]
   exact .inr (.inl (by simp))
  | true =>
   have: Mt.eqK c (Mt.nm c.s) = true:= hs
   rw [if_pos this]
   exact .inr (.inr (by simp))
theorem kvc_cells {w: World} {b: Nat} {k: K} (H: w.heap[b]? = some (.cells (kv k).toArray 42)): w.cell? ⟨b,0,none⟩ = some (.bool k.num) ∧ w.cell? ⟨b,1,none⟩ = some (.int .i64 k.n) ∧ w.cell? ⟨b,2,none⟩ = some (str k.s):= by
 refine ⟨?_, ?_, ?_⟩ <;> (rw [heap_cell H];rfl)
theorem mname_at (t: Tm) (a: Option Addr) (c: Nat) (L: List Bd) (w: World) (h: Row bK w a c L):
 Calls Tryz.prog 195 #[tval t,.slice a L.length c] w fun e w' => e = .returned (.tuple #[str (nmS t L),.bool (nmB t L)]) ∧ Below w.heap.size w w':= by
 have iK: (Tryz.prog.info? 42).map (·.size) = some 3:= by kernel_rfl
 have CS:= hideP (name_cases t L)
 have EQ:= hideP (fun u W => eqConst u (Mt.nm u.s) 9998 W)
 have A0:= below_alloc w (.cells (tv t).toArray 44)
 have T:= hideP (mvalue_at t a c L _ (h.below A0 (Nat.le_refl _)))
 generalize valK t L = kk at *
 generalize valB t L = bb at *
 generalize nmS t L = ns at *
 generalize nmB t L = nb at *
 obtain ⟨v,⟨x,n,s⟩⟩:= t
 go_enter Tryz.func195,Tryz.ntmps195
 go_wp2_with fail
 refine T.out.mono ?_
 rintro e w1 ⟨rfl,b1⟩
 have B1:= Below.then A0 b1
 have H1:= heap_alloc_new w1 (.cells #[.bool false,.int .i64 0,.string { data:= #[] }] 42)
 clear T A0 b1
 go_wp2_with (refine wpList_store_all rfl 42 _ _ rfl w1.heap.size 3 _ 42 (kv kk) rfl rfl H1 rfl rfl iK rfl ?_;intro w2 H2 b2;have T2:= below_tok b2)
 have B2:= Below.then B1 T2
 generalize hR: w1.heap.size = R at *
 clear hR H1 b2 B1 T2
 have gD:= (Below.refl w2.heap.size w2).drew
 have H2d:= below_heap gD H2
 have B2d:= Below.then B2 gD
 rcases CS.out with ⟨e1,e2,e3⟩ | ⟨e1,e0,e2,e3⟩ | ⟨e1,e0,e2,e3⟩
 ·subst e1 e2 e3
  clear CS EQ
  go_quiet (fail)
  go_wp2_with fail
  go_ret2
  exact ⟨rfl,Below.then B2 (below_drewN (Below.refl _ _) nq)⟩
 ·have Q:= EQ.out kk
  rw [e0] at Q
  subst e1 e2 e3
  obtain ⟨x1,x2,x3⟩:= kk
  simp only at Q
  have TT:= hideP (fun W => mtext_at x3 W)
  clear CS EQ e0
  go_region_held3 (fun W => W.cell? ⟨R,0,none⟩ = some (.bool x1) ∧ W.cell? ⟨R,1,none⟩ = some (.int .i64 x2) ∧ W.cell? ⟨R,2,none⟩ = some (str x3)) (first | exact kvc_cells H3 | exact kvc_cells H2d) (first
   | (go_at_call 231;refine (TT.out _).mono ?_;rintro e w3 ⟨rfl,b3⟩;have H3:= below_heap b3 H2d;have B3:= Below.then B2d b3))
  go_wp2_with fail
  go_ret2
  exact ⟨rfl,B3⟩
 ·have Q:= EQ.out kk
  rw [e0] at Q
  subst e1 e2 e3
  obtain ⟨x1,x2,x3⟩:= kk
  simp only at Q
  have TT:= hideP (fun W => mtext_at x3 W)
  clear CS EQ e0
  go_region_held3 (fun W => W.cell? ⟨R,0,none⟩ = some (.bool x1) ∧ W.cell? ⟨R,1,none⟩ = some (.int .i64 x2) ∧ W.cell? ⟨R,2,none⟩ = some (str x3)) (first | exact kvc_cells H3 | exact kvc_cells H2d) (first
   | (go_at_call 231;refine (TT.out _).mono ?_;rintro e w3 ⟨rfl,b3⟩;have H3:= below_heap b3 H2d;have B3:= Below.then B2d b3))
  obtain ⟨_,_,c2⟩:= kvc_cells H3
  simp only at c2
  go_wp2_with fail
  go_ret2
  exact ⟨rfl,B3⟩
theorem rname_at (t: Tm) (a: Option Addr) (c: Nat) (L: List Bd) (w: World) (h: Row bK w a c L):
 Calls Tryz.prog 137 #[tval t,.slice a L.length c] w fun e w' => e = .returned (.tuple #[str (nmS t L),.bool (nmB t L)]) ∧ Below w.heap.size w w':= by
 have iK: (Tryz.prog.info? 42).map (·.size) = some 3:= by kernel_rfl
 have CS:= hideP (name_cases t L)
 have EQ:= hideP (fun u W => eqConst u (Mt.nm u.s) 9998 W)
 have A0:= below_alloc w (.cells (tv t).toArray 44)
 have T:= hideP (rvalue_at t a c L _ (h.below A0 (Nat.le_refl _)))
 generalize valK t L = kk at *
 generalize valB t L = bb at *
 generalize nmS t L = ns at *
 generalize nmB t L = nb at *
 obtain ⟨v,⟨x,n,s⟩⟩:= t
 go_enter Tryz.func137,Tryz.ntmps137
 go_wp2_with fail
 refine T.out.mono ?_
 rintro e w1 ⟨rfl,b1⟩
 have B1:= Below.then A0 b1
 have H1:= heap_alloc_new w1 (.cells #[.bool false,.int .i64 0,.string { data:= #[] }] 42)
 clear T A0 b1
 go_wp2_with (refine wpList_store_all rfl 42 _ _ rfl w1.heap.size 3 _ 42 (kv kk) rfl rfl H1 rfl rfl iK rfl ?_;intro w2 H2 b2;have T2:= below_tok b2)
 have B2:= Below.then B1 T2
 generalize hR: w1.heap.size = R at *
 clear hR H1 b2 B1 T2
 have gD:= (Below.refl w2.heap.size w2).drew
 have H2d:= below_heap gD H2
 have B2d:= Below.then B2 gD
 rcases CS.out with ⟨e1,e2,e3⟩ | ⟨e1,e0,e2,e3⟩ | ⟨e1,e0,e2,e3⟩
 ·subst e1 e2 e3
  clear CS EQ
  go_quiet (fail)
  go_wp2_with fail
  go_ret2
  exact ⟨rfl,Below.then B2 (below_drewN (Below.refl _ _) nq)⟩
 ·have Q:= EQ.out kk
  rw [e0] at Q
  subst e1 e2 e3
  obtain ⟨x1,x2,x3⟩:= kk
  simp only at Q
  have TT:= hideP (fun W => rName_at x3 W)
  clear CS EQ e0
  go_region_held3 (fun W => W.cell? ⟨R,0,none⟩ = some (.bool x1) ∧ W.cell? ⟨R,1,none⟩ = some (.int .i64 x2) ∧ W.cell? ⟨R,2,none⟩ = some (str x3)) (first | exact kvc_cells H3 | exact kvc_cells H2d) (first
   | (go_at_call 60;refine (TT.out _).mono ?_;rintro e w3 ⟨rfl,b3⟩;have H3:= below_heap b3 H2d;have B3:= Below.then B2d b3))
  go_wp2_with fail
  go_ret2
  exact ⟨rfl,B3⟩
 ·have Q:= EQ.out kk
  rw [e0] at Q
  subst e1 e2 e3
  obtain ⟨x1,x2,x3⟩:= kk
  simp only at Q
  have TT:= hideP (fun W => rName_at x3 W)
  clear CS EQ e0
  go_region_held3 (fun W => W.cell? ⟨R,0,none⟩ = some (.bool x1) ∧ W.cell? ⟨R,1,none⟩ = some (.int .i64 x2) ∧ W.cell? ⟨R,2,none⟩ = some (str x3)) (first | exact kvc_cells H3 | exact kvc_cells H2d) (first
   | (go_at_call 60;refine (TT.out _).mono ?_;rintro e w3 ⟨rfl,b3⟩;have H3:= below_heap b3 H2d;have B3:= Below.then B2d b3))
  obtain ⟨_,_,c2⟩:= kvc_cells H3
  simp only at c2
  go_wp2_with fail
  go_ret2
  exact ⟨rfl,B3⟩
end Go.Proofs.YtpdmmmdkpipmkaaGreatDoor
namespace Go.Proofs.YtpdmmmdkpipmkaaGreatDoor
open Go.RowKit Go.Lib Go.Shelf
def f0: F:= ⟨[],[],[],[]⟩
theorem Tryz.iKk: (Tryz.prog.info? 42).map (fun i => (i.zero,i.size,i.bytes)) = some (some (.agg #[.bool false,.int .i64 0,.string .empty]),kK.k,32):= by kernel_rfl
theorem Tryz.iK3: (Tryz.prog.info? 42).map (fun i => (i.zero,i.size,i.bytes)) = some (some (.agg #[.bool false,.int .i64 0,.string .empty]),3,32):= by kernel_rfl
def OwnK (base: Nat) (w: World) (v: Value) (ks: List K): Prop:= w.ownsRow base 42 kK.k v ks.length (ks.flatMap kK.enc)
theorem fact_no {a b: Tm} (p: List UInt8) (ts: List Tm) {L: Mt.Env} (h: nmB a L = false ∨ nmB b L = false): Mt.fact a b p ts L = none:= by
 unfold nmB at h
 unfold Mt.fact
 rcases h with h | h
 ·cases hx: Mt.name a L with
  | none => rfl
  | some s => rw [hx] at h;cases h
 ·cases hx: Mt.name b L with
  | none => cases Mt.name a L <;> rfl
  | some s => rw [hx] at h;cases h
theorem fact_yes {a b: Tm} (p: List UInt8) (ts: List Tm) {L: Mt.Env} (h1: nmB a L = true) (h2: nmB b L = true): Mt.fact a b p ts L = (Mt.vals L ts).map fun ks => ⟨nmS a L,nmS b L,p,ks⟩:= by
 unfold nmB at h1 h2
 unfold Mt.fact nmS
 cases hx: Mt.name a L with
 | none => rw [hx] at h1;cases h1
 | some s =>
  cases hy: Mt.name b L with
  | none => rw [hy] at h2;cases h2
  | some s' => rfl
theorem val_two (t: Tm) (L: Mt.Env): (Mt.val t L = none ∧ valB t L = false) ∨ (∃ k,Mt.val t L = some k ∧ valK t L = k ∧ valB t L = true):= by
 unfold valB valK
 cases Mt.val t L with
 | none => exact .inl ⟨rfl,rfl⟩
 | some k => exact .inr ⟨k,rfl,rfl,rfl⟩
def FactAns (e: Ending) (w: World) (o: Option F): Prop:= ∃ z: Fv,e = .returned (.tuple #[z.val,.bool o.isSome]) ∧ RowT kK 42 w z.a z.cap z.ks ∧ z.f = o.getD f0
theorem FactAns.no {w: World} {o: Option F} (h: o = none): FactAns (.returned (.tuple #[nof.val,.bool false])) w o:= ⟨nof,by rw [h];rfl,RowT.nil _ _ _,by rw [h];rfl⟩
theorem msaid_at (ta tb: Tm) (p: List UInt8) (aa: Option Addr) (ac: Nat) (ts: List Tm) (a: Option Addr) (c: Nat) (L: List Bd) (w: World) (ht: Row tK w aa ac ts) (h: Row bK w a c L) (hf: ts.length ≤ 900000):
 Calls Tryz.prog 149 #[tval ta,tval tb,str p,.slice aa ts.length ac,.slice a L.length c] w fun e w' => FactAns e w' (Mt.fact ta tb p ts L) ∧ Below w.heap.size w w':= by
 have iK: (Tryz.prog.info? 42).map (·.size) = some 3:= by kernel_rfl
 have iT: (Tryz.prog.info? 44).map (·.size) = some 4:= by kernel_rfl
 have iF: (Tryz.prog.info? 37).map (·.size) = some 4:= by kernel_rfl
 have iA: (Tryz.prog.info? 35).map (·.size) = some 1:= by kernel_rfl
 have FN:= hideP (fun h1 => fact_no (a:= ta) (b:= tb) p ts (L:= L) h1)
 have FY:= hideP (fun h1 h2 => fact_yes (a:= ta) (b:= tb) p ts (L:= L) h1 h2)
 obtain ⟨h0,h1,h2,A0⟩:= boxes3 w (.cells (tv ta).toArray 44) (.cells (tv tb).toArray 44) (.cells #[.string { data:= #[] },.string { data:= #[] },.string { data:= #[] },.slice none 0 0] 37)
 have T1:= hideP (mname_at ta a c L _ (h.below A0 (Nat.le_refl _)))
 generalize hFF: Mt.fact ta tb p ts L = FF at *
 clear hFF
 go_enter Tryz.func149,Tryz.ntmps149
 go_wp2_with (refine wpList_load_all rfl 44 _ rfl w.heap.size 4 44 (tv ta) _ rfl h0 rfl Tryz.underlying44 rfl iT ?_)
 refine T1.out.mono ?_
 rintro e w1 ⟨rfl,b1⟩
 have B1:= Below.then A0 b1
 have g1:= below_heap b1 h1
 have g2:= below_heap b1 h2
 clear T1 b1 h0 h1 h2 A0
 go_wp2_with (refine wpList_load_all rfl 44 _ rfl (w.heap.size + 1) 4 44 (tv tb) _ rfl g1 rfl Tryz.underlying44 rfl iT ?_)
 refine (mname_at tb a c L w1 (h.below B1 (Nat.le_refl _))).mono ?_
 rintro e w2 ⟨rfl,b2⟩
 have B2:= Below.then B1 b2
 have H2:= below_heap b2 g2
 have n2:= heap_lt H2
 clear b2 g1 g2 B1
 cases q1: nmB ta L with
 | false =>
  have Z:= hideP (FN.out (.inl q1))
  clear FN FY q1
  go_wp2_with (refine wpList_store_all rfl 37 _ _ rfl (w.heap.size + 1 + 1) 4 _ 37 (fv nof) rfl rfl H2 rfl rfl iF rfl ?_;intro w3 H3 b3)
  exact bodyPost_ret (results_c1 rfl rfl H3 Tryz.underlying37 rfl iF) rfl ⟨FactAns.no Z.out,B2.trans (b3.lower (by omega) (by omega))⟩
 | true =>
  cases q2: nmB tb L with
  | false =>
   have Z:= hideP (FN.out (.inr q2))
   clear FN FY q1 q2
   go_wp2_with (refine wpList_store_all rfl 37 _ _ rfl (w.heap.size + 1 + 1) 4 _ 37 (fv nof) rfl rfl H2 rfl rfl iF rfl ?_;intro w3 H3 b3)
   exact bodyPost_ret (results_c1 rfl rfl H3 Tryz.underlying37 rfl iF) rfl ⟨FactAns.no Z.out,B2.trans (b3.lower (by omega) (by omega))⟩
  | true =>
   have Z:= hideP (FY.out q1 q2)
   clear FN FY q1 q2
   generalize nmS ta L = na at *
   generalize nmS tb L = nb at *
   have A3:= below_alloc w2 (.cells #[.string { data:= #[] },.string { data:= #[] },.string { data:= #[] },.slice none 0 0] 37)
   have N3:= heap_alloc_new w2 (.cells #[.string { data:= #[] },.string { data:= #[] },.string { data:= #[] },.slice none 0 0] 37)
   have H2a:= below_heap A3 H2
   go_wp2_with (refine wpList_store_all rfl 37 _ _ rfl w2.heap.size 4 _ 37 (fv ⟨na,nb,p,none,0,[]⟩) rfl rfl N3 rfl rfl iF rfl ?_;intro w3 H3 b3;have T3:= below_tok b3)
   have B3:= Below.then B2 T3
   have G2:= below_heap T3 H2
   have s2: w.heap.size ≤ w2.heap.size:= B2.size
   have s3: w2.heap.size < w3.heap.size:= heap_lt H3
   generalize hR: w2.heap.size = R at *
   clear hR N3 A3 b3 T3 H2 H2a B2
   go_loopw [18,19,20,46] (fun _ _ _ v46 wr => ∃ (i: Nat) (ks: List K) (u: Option Addr) (cu: Nat),v46 = .int .i64 (i: Int) ∧ i ≤ ts.length ∧ Hid (ks.length = i) ∧ wr.heap[R]? = some (.cells (fv ⟨na,nb,p,u,cu,ks⟩).toArray 37) ∧ wr.heap[w.heap.size + 1 + 1]? = some (.cells #[.string { data:= #[] },.string { data:= #[] },.string { data:= #[] },.slice none 0 0] 37) ∧ OwnK w3.heap.size wr (.slice u ks.length cu) ks ∧ Below w.heap.size w wr ∧ w3.heap.size ≤ wr.heap.size ∧ Hid (Mt.vals L ts = (Mt.vals L (ts.drop i)).map fun cs => ks ++ cs)) (fun _ _ _ v46 _ => ts.length - (RowKit.intOf v46).toNat)
   case atStart => exact ⟨0,[],none,0,rfl,Nat.zero_le _,rfl,H3,G2,World.ownsRow_nil _ _ _ _,B3,Nat.le_refl _,by show _ = _;rw [List.drop_zero];cases Mt.vals L ts <;> simp⟩
   case round =>
    obtain ⟨i,ks,u,cu,rfl,hi,hk,HR,HS,OK,B,sr,HV⟩:= hrel
    by_cases hlt: i < ts.length
    ·have q3: (i: Int) < (ts.length: Int):= by omega
     obtain ⟨P1,O1,rfl⟩:= ht.addr (Nat.lt_of_le_of_lt (Nat.zero_le _) hlt)
     have r1: wr.rangeAt P1 (O1 + i * 4) (tv (ts[i]'hlt)):= (ht.below B (Nat.le_refl _)).range i hlt
     have ST:= HV.out
     rw [Mt.vals_step hlt] at ST
     have HST:= hideP ST
     clear ST HV
     generalize (ts[i]'hlt) = t at *
     have iQ: (Tryz.prog.info? 44).map (·.size) = some (tv t).length:= iT
     have N4:= heap_alloc_new wr (.cells #[.string { data:= #[] },.bool false,.int .i64 0,.string { data:= #[] }] 44)
     have r2: (wr.alloc (.cells #[.string { data:= #[] },.bool false,.int .i64 0,.string { data:= #[] }] 44)).rangeAt P1 (O1 + i * 4) (tv t):= fun j v hv => by
      have:= r1 j v hv
      rw [(below_alloc wr _).cell (cell_block this)];exact this
     go_wp2_with (first | (refine wpList_load_mid rfl 44 _ rfl P1 (O1 + i * 4) rfl (tv t) _ r1 Tryz.underlying44 rfl iQ ?_) | (refine wpList_load_mid rfl 44 _ rfl P1 (O1 + i * 4) rfl (tv t) _ r2 Tryz.underlying44 rfl iQ ?_) | (refine wpList_store_all rfl 44 _ _ rfl wr.heap.size 4 _ 44 (tv t) rfl rfl N4 rfl rfl iT rfl ?_;intro w4 H4 b4;have T4:= below_tok b4) | (refine wpList_load_all rfl 44 _ rfl wr.heap.size 4 44 (tv t) _ rfl H4 rfl Tryz.underlying44 rfl iT ?_))
     have B4:= Below.then B T4
     refine (mvalue_at t a c L w4 (h.below B4 (Nat.le_refl _))).mono ?_
     rintro e w5 ⟨rfl,b5⟩
     have T5:= Below.then T4 b5
     have B5:= Below.then B T5
     have HR5:= below_heap T5 HR
     have HS5:= below_heap T5 HS
     have OK5: OwnK w3.heap.size w5 (.slice u ks.length cu) ks:= ownsRow_keep OK (Safe.below T5: Safe 42 _ _)
     have s5: w3.heap.size ≤ w5.heap.size:= Nat.le_trans sr T5.size
     have n5:= heap_lt HR5
     have n6:= heap_lt HS5
     clear HR HS OK B T4 b5 T5 b4 B4 N4 r1 r2
     have N6:= heap_alloc_new w5 (.cells #[.bool false,.int .i64 0,.string { data:= #[] }] 42)
     rcases val_two t L with ⟨u1,u2⟩ | ⟨kk,u1,u2,u3⟩
     ·have z0:= HST.out
      rw [u1] at z0
      have Z1:= Z.out
      rw [z0] at Z1
      have Z2:= hideP Z1
      rw [u2]
      clear u1 u2 z0 Z1 HST Z
      generalize valK t L = vk at *
      go_wp2_with (first | (refine wpList_store_all rfl 42 _ _ rfl w5.heap.size 3 _ 42 (kv vk) rfl rfl N6 rfl rfl iK rfl ?_;intro w6 H6 b6;have T6:= below_tok b6;have HS6:= below_heap T6 HS5) | (refine wpList_store_all rfl 37 _ _ rfl (w.heap.size + 1 + 1) 4 _ 37 (fv nof) rfl rfl HS6 rfl rfl iF rfl ?_;intro w7 H7 b7))
      have B6:= Below.then B5 T6
      exact bodyPost_ret (results_c1 rfl rfl H7 Tryz.underlying37 rfl iF) rfl ⟨FactAns.no Z2.out,B6.trans (b7.lower (by omega) B6.size)⟩
     ·have z0:= HST.out
      rw [u1] at z0
      have Z1:= hideP (Mt.gather (acc:= ks) (c:= kk) z0)
      rw [u2,u3]
      clear u1 u2 u3 z0 HST
      have s6': R < w5.heap.size:= n5
      go_wp2_with (first | (refine wpList_store_all rfl 42 _ _ rfl w5.heap.size 3 _ 42 (kv kk) rfl rfl N6 rfl rfl iK rfl ?_;intro w6 H6 b6;have T6:= below_tok b6;have HR6:= below_heap T6 HR5;have c3:= (fv_cells HR6).2.2.2;have A7:= below_alloc w6 (.cells (kv kk).toArray 42);have o6:= ownsRow_keep OK5 (Safe.below T6: Safe 42 _ _);have o7:= ownsRow_keep o6 (Safe.below A7: Safe 42 _ _);have R7: Row kK (w6.alloc (.cells (kv kk).toArray 42)) (some ⟨w6.heap.size,0,none⟩) 1 [kk]:= row_new kK w6 _ _ kk rfl;have hb7:= Nat.le_trans (Nat.le_trans s5 T6.size) A7.size) | (refine wpList_load_all rfl 42 _ rfl w5.heap.size 3 42 (kv kk) _ rfl H6 rfl Tryz.underlying42 rfl iK ?_) | (refine wpList_build_one rfl 35 42 _ rfl (kv kk) _ 3 32 rfl rfl (by decide) (by decide) Tryz.underlying35 Tryz.iK3 ?_) | (at_builtin;refine wpList_append_rec kK _ rfl _ _ 35 42 rfl _ 32 Tryz.underlying35 Tryz.iKk rfl (by decide) w3.heap.size (.slice u ks.length cu) ks [kk] (some ⟨w6.heap.size,0,none⟩) 1 1 rfl o7 rfl rfl R7 hb7 (by have:= hk.out;simp only [List.length_cons,List.length_nil];omega) ?_;intro v8 w8 o8 g8;obtain ⟨u8,c8,rfl,R8,_⟩:= own_row (D:= kK) (xs:= ks ++ [kk]) o8 (by have:= hk.out;simp only [List.length_append,List.length_cons,List.length_nil];omega);have HR8:= Safe.grown (ty:= 37) o7 g8 (by decide) _ _ (below_heap A7 HR6);have HS8:= Safe.grown (ty:= 37) o7 g8 (by decide) _ _ (below_heap A7 (below_heap T6 HS5));have B8: Below w.heap.size w w8:= (Below.then (Below.then B5 T6) A7).trans ((own_below o7 g8 hb7).mono B3.size)) | (refine wpList_store_cel rfl 35 _ _ rfl R 3 4 37 (.slice u8 (ks.length + 1) c8) #[str na,str nb,str p,.slice u8 (ks.length + 1) c8] rfl rfl HR8 rfl (by omega) iA rfl rfl ?_;intro w9 H9 b9))
      have e9: (fv ⟨na,nb,p,u8,c8,ks ++ [kk]⟩).toArray = #[str na,str nb,str p,.slice u8 (ks.length + 1) c8]:= by simp [fv]
      rw [← e9] at H9
      have n8:= heap_lt HR8
      exact ⟨⟨i + 1,ks ++ [kk],u8,c8,by go_num,by omega,by show _ = _;rw [List.length_append,hk.out];rfl,H9,b9.heap (by omega) HS8,ownsRow_keep o8 (Safe.but b9 HR8 (by decide)),B8.trans (b9.lower (by omega) B8.size),Nat.le_trans hb7 (Nat.le_trans g8.size b9.size),Z1⟩,by simp [RowKit.intOf];omega⟩
    ·have q3: ¬ (i: Int) < (ts.length: Int):= by omega
     have z0:= HV.out
     rw [Mt.vals_done (by omega)] at z0
     have z1:= Mt.gathered z0
     have Z1:= Z.out
     rw [z1] at Z1
     have Z2:= hideP Z1
     have klen:= hk.out
     obtain ⟨u',c',e',RK,_⟩:= own_row (D:= kK) OK (by omega)
     cases e'
     clear z0 z1 Z1 Z HV OK
     have n5:= heap_lt HS
     go_wp2_with (first | (refine wpList_load_all rfl 37 _ rfl R 4 37 (fv ⟨na,nb,p,u,cu,ks⟩) _ rfl HR rfl Tryz.underlying37 rfl iF ?_) | (refine wpList_store_all rfl 37 _ _ rfl (w.heap.size + 1 + 1) 4 _ 37 (fv ⟨na,nb,p,u,cu,ks⟩) rfl rfl HS rfl rfl iF rfl ?_;intro w7 H7 b7))
     exact bodyPost_ret (results_c1 rfl rfl H7 Tryz.underlying37 rfl iF) rfl ⟨⟨⟨na,nb,p,u,cu,ks⟩,by rw [Z2.out];rfl,RK.safe (Safe.but b7 HS (by decide)),by rw [Z2.out];rfl⟩,B.trans (b7.lower (by omega) B.size)⟩
end Go.Proofs.YtpdmmmdkpipmkaaGreatDoor
