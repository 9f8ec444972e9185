/-
  The parts of a rule and of a literal that lie in a block or a row.
-/
import Derived.RangeFuncNested
import Derived.RangeFuncCalls
import Derived.RangeFuncLeaves
import Derived.RangeFuncBound
import Derived.TacticsIn
import Derived.Shelf.Abstract
import Derived.Maps.OwnSet
import Derived.StringKeys
import Derived.Deep.RegionHeld3
import Derived.Test.YtpdmmmdkpipmkaaGreatDoorQE3
import Derived.Test.YtpdmmmdkpipmkaaGreatDoorQE8
import Derived.Test.YtpdmmmdkpipmkaaGreatDoorQLb
import Derived.Test.YtpdmmmdkpipmkaaGreatDoorQNj
set_option maxRecDepth 100000
set_option maxHeartbeats 2000000
namespace Go.Proofs.YtpdmmmdkpipmkaaGreatDoor
open Go.RowKit Go.Lib Go.Shelf
theorem Tryz.iS1: (Tryz.prog.info? 9).map (fun i => (i.zero,i.size,i.bytes)) = some (some (.string .empty),sK.k,16):= by kernel_rfl
theorem rule_parts10 {w: World} {b: Nat} {x: Rv} (H: w.heap[b]? = some (.cells (rv x).toArray 48)):
 w.rangeAt b 0 (tv x.home) ∧ w.rangeAt b 6 (tv x.to_) ∧ w.cell? ⟨b,0,none⟩ = some (str x.home.v) ∧ w.cell? ⟨b,4,none⟩ = some (str x.pred) ∧ w.cell? ⟨b,5,none⟩ = some (.slice x.a x.args.length x.cap) ∧ w.cell? ⟨b,6,none⟩ = some (str x.to_.v) ∧ w.cell? ⟨b,10,none⟩ = some (.slice x.ba x.body.length x.bcap):= by
 refine ⟨?_, ?_, ?_, ?_, ?_, ?_, ?_⟩
 ·exact World.rangeAt_of_block H 0 4
 ·exact World.rangeAt_of_block H 6 4
 all_goals (rw [heap_cell H];rfl)
theorem lit_parts10 {w: World} {b: Nat} {y: Lv} (H: w.heap[b]? = some (.cells (lv y).toArray 52)):
 w.rangeAt b 0 (tv y.by_) ∧ w.rangeAt b 6 (tv y.at_) ∧ w.cell? ⟨b,4,none⟩ = some (str y.pred) ∧ w.cell? ⟨b,5,none⟩ = some (.slice y.a y.args.length y.cap) ∧ w.cell? ⟨b,6,none⟩ = some (str y.at_.v):= by
 refine ⟨?_, ?_, ?_, ?_, ?_⟩
 ·exact World.rangeAt_of_block H 0 4
 ·exact World.rangeAt_of_block H 6 4
 all_goals (rw [heap_cell H];rfl)
end Go.Proofs.YtpdmmmdkpipmkaaGreatDoor
namespace Go.Proofs.YtpdmmmdkpipmkaaGreatDoor
open Go.RowKit
theorem fold_splice_at (b: Nat): ∀ (vs: List Value) (o: Nat) (C: Array Value),(vs.zipIdx o).foldl (fun cs x => cs.setIfInBounds (b + x.2) x.1) C = splice C (b + o) vs
 | [],_,_ => rfl
 | v:: r,o,C => by
  rw [List.zipIdx_cons,List.foldl_cons,splice,Nat.add_assoc,← fold_splice_at b r (o + 1)]
theorem splice_mid: ∀ (vs a b c: List Value),b.length = vs.length → splice (a ++ (b ++ c)).toArray a.length vs = (a ++ (vs ++ c)).toArray
 | [],a,b,c,h => by
  have: b = []:= List.eq_nil_of_length_eq_zero h
  subst this;rfl
 | v:: r,a,[],c,h => by simp at h
 | v:: r,a,u:: b,c,h => by
  rw [splice]
  have e: (a ++ (u:: b ++ c)).toArray.setIfInBounds a.length v = ((a ++ [v]) ++ (b ++ c)).toArray:= by
   rw [List.setIfInBounds_toArray];congr 1
   rw [List.set_append_right _ _ (Nat.le_refl _)];simp
  rw [e,show a.length + 1 = (a ++ [v]).length by simp,splice_mid r (a ++ [v]) b c (by simpa using h)]
  simp
theorem wpList_build_two {P: Program} {ops: Array Oper} {rest: List Oper} {o: Oper} {a: Act} {w: World} {Q: Exit → Act → World → Prop} (hg: o.guard = none) (t e: TypeId) (x y: Operand) (ho: o.op = .buildSlice t 2 #[(0,x),(1,y)])
 (vs us: List Value) (z: Value) (k bytes: Nat) (hx: a.eval x = .agg vs.toArray) (hy: a.eval y = .agg us.toArray) (hk: vs.length = k) (hk2: us.length = k) (hk0: 0 < k) (hk1: k ≤ 1000)
 (hu: P.underlying t = some (.slice e)) (hi: (P.info? e).map (fun i => (i.zero,i.size,i.bytes)) = some (some z,k,bytes))
 (CC: Array Value) (hCC: (vs ++ us).toArray = CC) (h: wpList P ops Q rest (a.put o.dst (.slice (some ⟨w.heap.size,0,none⟩) 2 2)) (w.alloc (.cells CC e))): wpList P ops Q (o:: rest) a w:= by
 subst hCC
 obtain ⟨i0,h0,h1,h2,h3⟩:= info_parts hi
 refine wpList_buildSlice hg t e 2 _ ho _ i0 z hu h0 h1 (by rw [h2];omega) (by rw [h2];omega) ?_ h
 rw [h2]
 generalize hC: (Array.range (2 * k)).map (z.cells[· % z.cells.size]!) = C
 have hs: C.size = 2 * k:= by rw [← hC];simp
 have e1: ((#[(0,x),(1,y)]: Array (Nat × Operand)).map fun (i,x) => (i,a.eval x)).toList = [(0,.agg vs.toArray),(1,.agg us.toArray)]:= by simp [hx,hy]
 rw [e1]
 have hc: (Value.agg vs.toArray).cells = vs.toArray:= rfl
 have hc2: (Value.agg us.toArray).cells = us.toArray:= rfl
 have hl: C.toList = C.toList.take k ++ C.toList.drop k:= (List.take_append_drop _ _).symm
 have s1: splice C 0 vs = (vs ++ C.toList.drop k).toArray:= by
  have:= splice_mid vs [] (C.toList.take k) (C.toList.drop k) (by simp;omega)
  simpa using this
 have s2: splice (vs ++ C.toList.drop k).toArray k us = (vs ++ us).toArray:= by
  have:= splice_list us vs (C.toList.drop k) (by simp;omega)
  rwa [hk] at this
 have f1:= fold_splice_at 0 vs 0 C
 have f2:= fold_splice_at k us 0 (vs ++ C.toList.drop k).toArray
 rw [Nat.add_zero] at f1 f2
 rw [s1] at f1
 rw [s2] at f2
 have hz: vs.toArray.zipIdx = (vs.zipIdx 0).toArray:= by simp
 have hz2: us.toArray.zipIdx = (us.zipIdx 0).toArray:= by simp
 unfold Instr.fill
 simp only [hc,List.size_toArray,hk]
 rw [if_neg (by simp [hs];omega)]
 rw [hz]
 simp only [List.foldl_toArray',Nat.zero_mul]
 rw [show (fun (cs: Array Value) (x: Value × Nat) => match x with | (c,j) => cs.setIfInBounds (0 + j) c) = fun cs x => cs.setIfInBounds (0 + x.2) x.1 from rfl,f1]
 unfold Instr.fill
 simp only [hc2,List.size_toArray,hk2]
 rw [if_neg (by simp [hs,hk];omega)]
 rw [hz2]
 simp only [List.foldl_toArray',Nat.one_mul]
 rw [show (fun (cs: Array Value) (x: Value × Nat) => match x with | (c,j) => cs.setIfInBounds (k + j) c) = fun cs x => cs.setIfInBounds (k + x.2) x.1 from rfl,f2]
 unfold Instr.fill
 rfl
theorem row_two {α: Type} (D: Kd α) (w: World) (c: Array Value) (t: TypeId) (x y: α) (h: c.toList = D.enc x ++ D.enc y): Row D (w.alloc (.cells c t)) (some ⟨w.heap.size,0,none⟩) 2 [x,y]:=
 ⟨by simp,by simp,(fun h => by cases h),fun ad ha j u hu => by
  cases ha
  rw [Addr.add_lit,heap_cell (heap_alloc_new w _),Nat.zero_add,← Array.getElem?_toList,h]
  simpa using hu⟩
end Go.Proofs.YtpdmmmdkpipmkaaGreatDoor
namespace Go.Proofs.YtpdmmmdkpipmkaaGreatDoor
open Go.RowKit Go.Lib Go.Shelf
theorem set4_but {w: World} {b: Nat} (x y z u: Value): But b w ((((w.setCell ⟨b,0,none⟩ x).setCell ⟨b,1,none⟩ y).setCell ⟨b,2,none⟩ z).setCell ⟨b,3,none⟩ u):= ((((But.refl b w).set 0 x).set 1 y).set 2 z).set 3 u
theorem set4_same {w: World} {b: Nat} {x y z u x' y' z' u': Value} {T: TypeId} (h: w.heap[b]? = some (.cells #[x',y',z',u'] T)): ((((w.setCell ⟨b,0,none⟩ x).setCell ⟨b,1,none⟩ y).setCell ⟨b,2,none⟩ z).setCell ⟨b,3,none⟩ u).heap[b]? = some (.cells #[x,y,z,u] T):= by
 have h1:= heap_setCell_same w b 0 _ T x h
 have h2:= heap_setCell_same _ b 1 _ T y h1
 have h3:= heap_setCell_same _ b 2 _ T z h2
 have h4:= heap_setCell_same _ b 3 _ T u h3
 simpa using h4
theorem rv_cells {w: World} {b: Nat} {x: Rv} (H: w.heap[b]? = some (.cells (rv x).toArray 48)):
 w.cell? ⟨b,0,none⟩ = some (str x.home.v) ∧ w.cell? ⟨b,1,none⟩ = some (.bool x.home.k.num) ∧ w.cell? ⟨b,2,none⟩ = some (.int .i64 x.home.k.n) ∧ w.cell? ⟨b,3,none⟩ = some (str x.home.k.s) ∧ w.cell? ⟨b,4,none⟩ = some (str x.pred) ∧ w.cell? ⟨b,5,none⟩ = some (.slice x.a x.args.length x.cap) ∧
 w.cell? ⟨b,6,none⟩ = some (str x.to_.v) ∧ w.cell? ⟨b,7,none⟩ = some (.bool x.to_.k.num) ∧ w.cell? ⟨b,8,none⟩ = some (.int .i64 x.to_.k.n) ∧ w.cell? ⟨b,9,none⟩ = some (str x.to_.k.s):= by
 refine ⟨?_, ?_, ?_, ?_, ?_, ?_, ?_, ?_, ?_, ?_⟩ <;> (rw [heap_cell H];rfl)
theorem mHead_at (x: Rv) (a: Option Addr) (c: Nat) (L: List Bd) (w: World) (hr: Rv.Aw w x) (h: Row bK w a c L) (hf: x.args.length ≤ 900000):
 Calls Tryz.prog 99 #[rval x,.slice a L.length c] w fun e w' => FactAns e w' (Mt.head x.r L) ∧ Below w.heap.size w w':= by
 have iF: (Tryz.prog.info? 37).map (·.size) = some 4:= by kernel_rfl
 obtain ⟨h0,h1,A0⟩:= boxes2 w (.cells #[str x.home.v,.bool x.home.k.num,.int .i64 x.home.k.n,str x.home.k.s,str x.pred,.slice x.a x.args.length x.cap,str x.to_.v,.bool x.to_.k.num,.int .i64 x.to_.k.n,str x.to_.k.s,.slice x.ba x.body.length x.bcap] 48) (.cells #[.string { data:= #[] },.string { data:= #[] },.string { data:= #[] },.slice none 0 0] 37)
 have HD: Hid (Mt.head x.r L = Mt.fact (Mt.place x.home x.to_) x.home x.pred x.args L):= rfl
 go_enter Tryz.func99,Tryz.ntmps99
 go_wp2_with fail
 generalize hW: (w.alloc (.cells #[str x.home.v,.bool x.home.k.num,.int .i64 x.home.k.n,str x.home.k.s,str x.pred,.slice x.a x.args.length x.cap,str x.to_.v,.bool x.to_.k.num,.int .i64 x.to_.k.n,str x.to_.k.s,.slice x.ba x.body.length x.bcap] 48)).alloc (.cells #[.string { data:= #[] },.string { data:= #[] },.string { data:= #[] },.slice none 0 0] 37) = W at *
 clear hW
 have gD:= (Below.refl W.heap.size W).drew
 have Ad:= Below.then A0 gD
 have H0: W.drew.heap[w.heap.size]? = some (.cells (rv x).toArray 48):= below_heap gD h0
 have H1:= below_heap gD h1
 have TE:= hideP (fun W => meither_at x.to_ x.home W)
 generalize Mt.place x.home x.to_ = pT at *
 have TS:= hideP (fun W hW => msaid_at pT x.home x.pred x.a x.cap x.args a c L W (hr.args.below (B:= w.heap.size) hW (Nat.le_refl _)) (h.below hW (Nat.le_refl _)) hf)
 clear h0 h1 A0 gD
 go_region_held3 (fun W => W.cell? ⟨w.heap.size,0,none⟩ = some (str x.home.v) ∧ W.cell? ⟨w.heap.size,1,none⟩ = some (.bool x.home.k.num) ∧ W.cell? ⟨w.heap.size,2,none⟩ = some (.int .i64 x.home.k.n) ∧ W.cell? ⟨w.heap.size,3,none⟩ = some (str x.home.k.s) ∧ W.cell? ⟨w.heap.size,4,none⟩ = some (str x.pred) ∧ W.cell? ⟨w.heap.size,5,none⟩ = some (.slice x.a x.args.length x.cap) ∧
  W.cell? ⟨w.heap.size,6,none⟩ = some (str x.to_.v) ∧ W.cell? ⟨w.heap.size,7,none⟩ = some (.bool x.to_.k.num) ∧ W.cell? ⟨w.heap.size,8,none⟩ = some (.int .i64 x.to_.k.n) ∧ W.cell? ⟨w.heap.size,9,none⟩ = some (str x.to_.k.s)) (first | with_reducible exact rv_cells H0 | with_reducible exact rv_cells H3 | with_reducible exact rv_cells H4 | exact rv_cells ((set4_but _ _ _ _).heap (by omega) H4)) (first
  | (go_at_call 150;refine (TE.out _).mono ?_;rintro e w3 ⟨rfl,b3⟩;have H3:= below_heap b3 H0;have B3:= Below.then Ad b3)
  | (go_at_call 149;refine (TS.out _ B3).mono ?_;rintro e w4 ⟨⟨z,rfl,Rz,hz⟩,b4⟩;have H4:= below_heap b4 H3;have B4:= Below.then B3 b4;have G4:= below_heap b4 (below_heap b3 H1);have e0: w4.cell? ⟨w.heap.size + 1,0,none⟩ = some (.string { data:= #[] }):= (by rw [heap_cell G4];rfl);have e1: w4.cell? ⟨w.heap.size + 1,1,none⟩ = some (.string { data:= #[] }):= (by rw [heap_cell G4];rfl);have e2: w4.cell? ⟨w.heap.size + 1,2,none⟩ = some (.string { data:= #[] }):= (by rw [heap_cell G4];rfl);have e3: w4.cell? ⟨w.heap.size + 1,3,none⟩ = some (.slice none 0 0):= (by rw [heap_cell G4];rfl);have f0: ∀ j,w4.frozen? ⟨w.heap.size + 1,j,none⟩ = false:= heap_frozen G4))
 have BU:= set4_but (w:= w4) (b:= w.heap.size + 1) (str z.at_) (str z.by_) (str z.pred) (.slice z.a z.ks.length z.cap)
 go_wp2_with fail
 exact bodyPost_ret (results_c1 rfl rfl (set4_same G4) Tryz.underlying37 rfl iF) rfl ⟨⟨z,by rw [HD.out];rfl,Rz.safe (Safe.but BU G4 (by decide)),by rw [HD.out];exact hz⟩,B4.trans (BU.lower (by omega) B4.size)⟩
end Go.Proofs.YtpdmmmdkpipmkaaGreatDoor
namespace Go.Proofs.YtpdmmmdkpipmkaaGreatDoor
open Go.RowKit
structure Itr (pt: TypeId) (B: Nat) (W W': World): Prop where
 os: W'.os = W.os
 tape: W'.tape = W.tape
 output: W'.output = W.output
 size: W.heap.size ≤ W'.heap.size
 low: ∀ k,k < B → W'.heap[k]? = W.heap[k]?
 same: ∀ (k: Nat) (c: Array Value) (t: TypeId) (z: Nat × Nat),W.heap[k]? = some (.cells c t z) → t ≠ pt → W'.heap[k]? = some (.cells c t z)
theorem Itr.refl (pt: TypeId) (B: Nat) (W: World): Itr pt B W W:= ⟨rfl,rfl,rfl,Nat.le_refl _,fun _ _ => rfl,fun _ _ _ _ h _ => h⟩
theorem Itr.trans {pt: TypeId} {B: Nat} {X Y Z: World} (h: Itr pt B X Y) (k: Itr pt B Y Z): Itr pt B X Z:=
 ⟨k.os.trans h.os,k.tape.trans h.tape,k.output.trans h.output,Nat.le_trans h.size k.size,fun i hi => (k.low i hi).trans (h.low i hi),fun i c t z hi ht => k.same i c t z (h.same i c t z hi ht) ht⟩
theorem Itr.mono {pt: TypeId} {B B': Nat} {W W': World} (h: Itr pt B W W') (hB: B' ≤ B): Itr pt B' W W':= ⟨h.os,h.tape,h.output,h.size,fun k hk => h.low k (Nat.lt_of_lt_of_le hk hB),h.same⟩
theorem Itr.below {pt: TypeId} {B: Nat} {W W': World} (h: Below W.heap.size W W') (hB: B ≤ W.heap.size): Itr pt B W W':=
 ⟨h.os,h.tape,h.output,h.size,fun k hk => h.block k (Nat.lt_of_lt_of_le hk hB),fun _ _ _ _ hk _ => below_heap h hk⟩
theorem Itr.toBelow {pt: TypeId} {B: Nat} {W W': World} (h: Itr pt B W W'): Below B W W':= ⟨h.os,h.tape,h.output,h.size,h.low⟩
theorem Itr.but {pt: TypeId} {B R: Nat} {W W': World} {C: Array Value} (h: But R W W') (hR: W.heap[R]? = some (.cells C pt)) (hB: B ≤ R): Itr pt B W W':=
 ⟨h.os,h.tape,h.output,h.size,fun k hk => h.block k (by have:= heap_lt hR;omega) (by omega),fun k c t z hk ht => h.heap (fun e => by subst e;rw [hR] at hk;cases hk;exact ht rfl) hk⟩
theorem Itr.butO {pt: TypeId} {B R: Nat} {W W': World} {o: Obj} (h: But R W W') (hR: W.heap[R]? = some o) (ho: o.isCells = false) (hB: B ≤ R): Itr pt B W W':=
 ⟨h.os,h.tape,h.output,h.size,fun k hk => h.block k (by have:= heap_lt hR;omega) (by omega),fun k c t z hk _ => h.heap (fun e => by subst e;rw [hR] at hk;cases hk;cases ho) hk⟩
theorem but_putObj (W: World) (l: Nat) (o: Obj): But l W (W.putObj l o):= ⟨rfl,rfl,rfl,by simp,fun _ _ hk => World.putObj_heap_other hk⟩
theorem Itr.putObj {pt: TypeId} {B l: Nat} {W: World} {o: Obj} (o': Obj) (hl: W.heap[l]? = some o) (ho: o.isCells = false) (hB: B ≤ l): Itr pt B W (W.putObj l o'):= Itr.butO (but_putObj W l o') hl ho hB
theorem Itr.safe {pt ty: TypeId} {B: Nat} {W W': World} (h: Itr pt B W W') (hn: ty ≠ pt): Safe ty W W':= fun k cur hk => h.same k cur ty _ hk hn
def SeqM {α: Type} (P: Program) (pt: TypeId) (g: Nat) (lb: Array Value) (Elt: α → Value → World → Prop) (Kp: Nat → World → World → Prop) (S Sp: List α → Prop) (N: Nat) (W: World): Prop:=
 ∀ (l: Nat) (J Jx: List α → World → Prop),l < W.heap.size → (∃ o: Obj,W.heap[l]? = some o ∧ o.isCells = false) → (∀ s X Y,J s X → Itr pt W.heap.size X Y → J s Y) → (∀ s X Y,Jx s X → Itr pt W.heap.size X Y → Jx s Y) →
  (∀ pre x v W1,J pre W1 → Elt x v W1 → pre.length < N → YieldAt Fence.wide 0 P l #[v] W1 fun e W' =>
    (e = .returned (.bool true) ∧ J (pre ++ [x]) W' ∧ Kp l W1 W') ∨ (e = .returned (.bool false) ∧ Jx (pre ++ [x]) W' ∧ KeepsFrom W.heap.size W1 W')) →
  J [] W →
  CallsIn Fence.wide 0 P g (#[.func (.yield l) #[] #[]] ++ lb) W fun e W' => (∃ v,e = .returned v) ∧ ((∃ xs,S xs ∧ J xs W') ∨ (∃ pre,Sp pre ∧ Jx pre W'))
def rndPost {α: Type} (B: Nat) (Kp: World → World → Prop) (I: List α → World → Prop) (Ix: Code → List α → World → Prop) (xs: List α) (W: World): Exit → Act → World → Prop
 | .normal,_,W' => KeepsFrom B W W' ∧ Kp W W' ∧ I xs W'
 | .ret,_,W' => KeepsFrom B W W' ∧ Ix .ret xs W'
 | .exit id,_,W' => KeepsFrom B W W' ∧ Ix (.exit id) xs W'
 | .goto t,_,W' => KeepsFrom B W W' ∧ Ix (.goto t) xs W'
 | .panic _,_,_ => False
 | .outgrown,_,_ => False
theorem keeps_up {B C: Nat} {W W': World} (h: KeepsFrom B W W') (hB: B ≤ C): KeepsFrom C W W':= ⟨h.size,fun k o hk => h.same k o (Nat.le_trans hB hk)⟩
theorem keeps_put1 {C l: Nat} (W: World) (o: Obj) (hl: l < C): KeepsFrom C W (W.putObj l o):= ⟨by simp,fun k o' hk h _ => by rw [World.putObj_heap_other (by omega)];exact h⟩
theorem keeps_put {B C l: Nat} {A W W3: World} {o o': Obj} (h: B ≤ C ∧ l < C) (h1: KeepsFrom B A W) (h2: KeepsFrom B (W.putObj l o) W3): KeepsFrom C A (W3.putObj l o'):=
 (keeps_up h1 h.1).trans ((keeps_put1 W o h.2).trans ((keeps_up h2 h.1).trans (keeps_put1 W3 o' h.2)))
theorem wp_range {α: Type} {P: Program} {pt: TypeId} {g: Operand} {ps: Array Tmp} {assign body: Code} {Q: Exit → Act → World → Prop} {a: Act} {w: World} {gf: Nat} {lb: Array Value}
 (hg: a.eval g = .func (.func gf) #[] lb) (eg: ∀ args w,(callFunc gf args).run P w = .ok (.enter gf args) w)
 {Elt: α → Value → World → Prop} {Kp: Nat → World → World → Prop} {S Sp: List α → Prop} {N: Nat}
 (hseq: ∀ W1,Below w.heap.size w W1 → W1.heap.size = w.heap.size + 2 → SeqM P pt gf lb Elt Kp S Sp N W1)
 (hKt: ∀ {l: Nat} {X Y Z: World},Kp l X Y → Kp l Y Z → Kp l X Z) (hKb: ∀ (l: Nat) (W: World) (o o': Obj),w.heap.size ≤ l → W.heap[l]? = some o → o.isCells = false → Kp l W (W.putObj l o'))
 (hps: ps.size = 1) (I: List α → World → Prop) (Ix: Code → List α → World → Prop) (hI: ∀ s X Y,I s X → Itr pt w.heap.size X Y → I s Y) (hIx: ∀ c s X Y,Ix c s X → Itr pt w.heap.size X Y → Ix c s Y) (h0: I [] w)
 (Ax: α → Act → World → Prop) (hAx: ∀ x a' X Y,Ax x a' X → Itr pt w.heap.size X Y → Ax x a' Y)
 (hassign: ∀ (l: Nat) (pre: List α) (x: α) (v: Value) (W: World) (K: Act → World → Prop),w.heap.size ≤ l → l < W.heap.size → I pre W → Elt x v W → (∀ a' W',KeepsFrom w.heap.size W W' → Kp l W W' → I pre W' → Ax x a' W' → K a' W') →
   assign.wpIn (Fence.wide.inRound l) 0 P (Exit.then K (fun _ _ _ => False)) { tmps:= (ps.zip #[v]).foldl (fun t (p,v) => t.setIfInBounds p v) a.tmps,defers:= [] } W)
 (hbody: ∀ (l: Nat) (pre: List α) (x: α) (a': Act) (W: World),w.heap.size ≤ l → l < W.heap.size → I pre W → Ax x a' W → pre.length < N → body.wpIn (Fence.wide.inRound l) 0 P (rndPost w.heap.size (Kp l) I Ix (pre ++ [x]) W) a' W)
 (hdone: ∀ (D: Nat) (xs: List α) (W: World),w.heap.size ≤ D → S xs → I xs W → W.heap[D]? = some (.deferred (some [])) → Q .normal { a with defers:= { target:= .collected D,args:= #[] }:: a.defers } W)
 (hstop: ∀ (D: Nat) (c: Code) (pre: List α) (W: World),w.heap.size ≤ D → Sp pre → Ix c pre W → W.heap[D]? = some (.deferred (some [])) → c.wpIn Fence.wide 0 P Q { a with defers:= { target:= .collected D,args:= #[] }:: a.defers } W):
 (Code.rangeFunc g ps assign body).wp P Q a w:= by
 refine (wpIn_wide (n:= 0)).1 (wpIn_rangeFunc ?_)
 intro fn hfn
 obtain ⟨rec,hrec⟩: ∃ rec: LoopState → Option Code → Loop,rec = fun st pe => { state:= st,pending:= pe,fn,tmps:= a.tmps,params:= ps,assign,body,defers:= w.heap.size }:= ⟨_,rfl⟩
 obtain ⟨W1,hW1⟩: ∃ W1,(w.alloc (.deferred (some []))).alloc (.loop (rec .ready none)) = W1:= ⟨_,rfl⟩
 have hL1: W1.heap[w.heap.size + 1]? = some (.loop (rec .ready none)):= by
  rw [← hW1];have:= World.alloc_heap_new (w.alloc (.deferred (some []))) (.loop (rec .ready none));rwa [World.size_alloc] at this
 have hK1: W1.heap[w.heap.size]? = some (.deferred (some [])):= by
  rw [← hW1];exact (Below.heap_alloc _ _ _ (by simp)).trans (World.alloc_heap_new w _)
 have hb1: Below w.heap.size w W1:= by
  rw [← hW1];exact ((Below.refl _ w).alloc (Nat.le_refl _) _).alloc (by simp) _
 have hsz: W1.heap.size = w.heap.size + 2:= by rw [← hW1];simp
 have hI1: I [] W1:= hI [] w W1 h0 (Itr.below hb1 (Nat.le_refl _))
 refine ⟨w.heap.size + 1,[{ target:= .collected w.heap.size,args:= #[] }],W1,{ target:= .fn (.func gf) lb,args:= #[.func (.yield (w.heap.size + 1)) #[] #[]] },W1,gf,
  #[.func (.yield (w.heap.size + 1)) #[] #[]] ++ lb,W1, ?_, ?_, ?_, ?_,(fun h => by cases h), ?_⟩
 ·rw [← hW1,hrec];exact run_enterLoop_outer _ _ _ _ _
 ·simp only [resolve,hg]
  simp [go_sem]
 ·intro f' hf';exact trivial
 ·simp [invoke,go_sem,eg]
 ·refine (hseq W1 hb1 hsz (w.heap.size + 1)
   (fun pre W => I pre W ∧ W.heap[w.heap.size + 1]? = some (.loop (rec .ready none)) ∧ W.heap[w.heap.size]? = some (.deferred (some [])))
   (fun pre W => ∃ c,Ix c pre W ∧ W.heap[w.heap.size + 1]? = some (.loop (rec .done (some c))) ∧ W.heap[w.heap.size]? = some (.deferred (some [])))
   (by omega) ⟨_,hL1,rfl⟩
   (fun s X Y hs hi => ⟨hI s X Y hs.1 (hi.mono (by omega)),(hi.low _ (by omega)).trans hs.2.1,(hi.low _ (by omega)).trans hs.2.2⟩)
   (fun s X Y hs hi => by
     obtain ⟨c,hc,hl,hk⟩:= hs
     exact ⟨c,hIx c s X Y hc (hi.mono (by omega)),(hi.low _ (by omega)).trans hl,(hi.low _ (by omega)).trans hk⟩)
   ?_ ⟨hI1,hL1,hK1⟩).mono ?_
  ·rintro pre x v W ⟨hi,hl,hk⟩ helt hlen
   have hlt: w.heap.size + 1 < W.heap.size:= (Array.getElem?_eq_some_iff.1 hl).1
   have hy:= run_yield (P:= P) (args:= #[v]) hl (by rw [hrec];simp [hps])
   rw [hrec] at hy
   refine ⟨fn,_,assign,body,hy,roundIn_of_wpIn hfn (hassign _ pre x v W _ (by omega) hlt hi helt ?_)⟩
   clear hy
   intro a' Wa hkfa hkpa hia hax
   replace hl:= hkfa.same _ _ (by omega) hl rfl
   replace hk:= hkfa.same _ _ (Nat.le_refl _) hk rfl
   replace hlt: w.heap.size + 1 < Wa.heap.size:= (Array.getElem?_eq_some_iff.1 hl).1
   replace hi:= hia
   clear hia
   revert hkpa hkfa
   generalize W = Wb
   intro hkfa hkpa
   obtain ⟨W,rfl⟩: ∃ W,W = Wa:= ⟨_,rfl⟩
   refine ⟨_,run_beginRound hl (by rw [hrec]), ?_⟩
   have hl2: (W.putObj (w.heap.size + 1) (.loop { rec .ready none with state:= .busy })).heap[w.heap.size + 1]? = some (.loop { rec .ready none with state:= .busy }):= World.putObj_heap_same hlt
   have hk2: (W.putObj (w.heap.size + 1) (.loop { rec .ready none with state:= .busy })).heap[w.heap.size]? = some (.deferred (some [])):= (World.putObj_heap_other (by omega)).trans hk
   have hw2: Kp (w.heap.size + 1) W (W.putObj (w.heap.size + 1) (.loop { rec .ready none with state:= .busy })):= hKb _ _ _ _ (by omega) hl rfl
   have hi2: Itr pt w.heap.size W (W.putObj (w.heap.size + 1) (.loop { rec .ready none with state:= .busy })):= Itr.putObj _ hl rfl (by omega)
   refine wpIn_mono (hbody _ pre x a' _ (by omega) (by rw [World.putObj_size];exact hlt) (hI _ _ _ hi hi2) (hAx _ _ _ _ hax hi2) hlen) ?_
   have fin: ∀ (jump: Option Code) (W3: World),KeepsFrom w.heap.size (W.putObj (w.heap.size + 1) (.loop { rec .ready none with state:= .busy })) W3 →
    (Instr.endRound (w.heap.size + 1) jump).run P W3 = .ok (.bool jump.isNone) (W3.putObj (w.heap.size + 1) (.loop (rec (if jump.isNone then .ready else .done) jump))) ∧
    W3.heap[w.heap.size + 1]? = some (.loop { rec .ready none with state:= .busy }) ∧
    (W3.putObj (w.heap.size + 1) (.loop (rec (if jump.isNone then .ready else .done) jump))).heap[w.heap.size + 1]? = some (.loop (rec (if jump.isNone then .ready else .done) jump)) ∧
    (W3.putObj (w.heap.size + 1) (.loop (rec (if jump.isNone then .ready else .done) jump))).heap[w.heap.size]? = some (.deferred (some [])):= fun jump W3 hk3 => by
    have hl3:= hk3.same _ _ (by omega) hl2 rfl
    have:= run_endRound (P:= P) jump hl3
    rw [hrec] at this ⊢
    exact ⟨this,by rw [hrec] at hl3;exact hl3,World.putObj_heap_same (Array.getElem?_eq_some_iff.1 hl3).1,(World.putObj_heap_other (by omega)).trans (hk3.same _ _ (Nat.le_refl _) hk2 rfl)⟩
   rintro e a3 W3 hp
   cases e with
   | normal =>
    obtain ⟨hk3,hkp3,hi3⟩:= hp
    obtain ⟨hr,hl3,hl4,hk4⟩:= fin none W3 hk3
    exact ⟨_,_,hr,.inl ⟨rfl,⟨hI _ _ _ hi3 (Itr.putObj _ hl3 rfl (by omega)),hl4,hk4⟩,hKt hkpa (hKt (hKt hw2 hkp3) (hKb _ _ _ _ (by omega) hl3 rfl))⟩⟩
   | ret =>
    obtain ⟨hk3,hi3⟩:= hp
    obtain ⟨hr,hl3,hl4,hk4⟩:= fin (some .ret) W3 hk3
    exact ⟨_,_,hr,.inr ⟨rfl,⟨.ret,hIx _ _ _ _ hi3 (Itr.putObj _ hl3 rfl (by omega)),hl4,hk4⟩,keeps_put (by omega) hkfa hk3⟩⟩
   | exit id =>
    obtain ⟨hk3,hi3⟩:= hp
    obtain ⟨hr,hl3,hl4,hk4⟩:= fin (some (.exit id)) W3 hk3
    exact ⟨_,_,hr,.inr ⟨rfl,⟨.exit id,hIx _ _ _ _ hi3 (Itr.putObj _ hl3 rfl (by omega)),hl4,hk4⟩,keeps_put (by omega) hkfa hk3⟩⟩
   | goto t =>
    obtain ⟨hk3,hi3⟩:= hp
    obtain ⟨hr,hl3,hl4,hk4⟩:= fin (some (.goto t)) W3 hk3
    exact ⟨_,_,hr,.inr ⟨rfl,⟨.goto t,hIx _ _ _ _ hi3 (Itr.putObj _ hl3 rfl (by omega)),hl4,hk4⟩,keeps_put (by omega) hkfa hk3⟩⟩
   | panic ch => exact hp.elim
   | outgrown => exact hp.elim
  ·rintro e W2 ⟨⟨v,rfl⟩,(⟨xs,hS,hi,hl,hk⟩ | ⟨pre,hSp,c,hi,hl,hk⟩)⟩
   ·exact ⟨none,_,by have:= run_endLoop (P:= P) hl (by rw [hrec];simp);rw [hrec] at this;exact this,hdone _ xs _ (Nat.le_refl _) hS (hI _ _ _ hi (Itr.putObj _ hl rfl (by omega))) ((World.putObj_heap_other (by omega)).trans hk)⟩
   ·exact ⟨some c,_,by have:= run_endLoop (P:= P) hl (by rw [hrec];simp);rw [hrec] at this;exact this,hstop _ c pre _ (Nat.le_refl _) hSp (hIx _ _ _ _ hi (Itr.putObj _ hl rfl (by omega))) ((World.putObj_heap_other (by omega)).trans hk)⟩
theorem round_list {P: Program} {ops: Array Oper} {l: Nat} {Q: Exit → Act → World → Prop} (hQ: ¬ LetsOut Q): ∀ (rest: List Oper),(rest.all fun o => match o.op with
 | .defer _ => false
 | _ => true) = true → ∀ (a: Act) (w: World),wpList P ops Q rest a w → wpListIn (Fence.wide.inRound l) 0 P ops Q rest a w
 | [],_,_,_,h => h
 | o:: rest,hd,a,w,h => by
  rw [List.all_cons,Bool.and_eq_true] at hd
  have hno: ∀ c,o.op ≠ .defer c:= fun c e => by rw [e] at hd;simp at hd
  unfold wpList at h
  unfold wpListIn
  split at h
  ·rename_i hw
   rw [if_pos hw]
   rcases h with h | ⟨_,h⟩
   ·refine ⟨fun _ _ => trivial, ?_⟩
    unfold Oper.wp at h
    rw [show (o.semAt (Fence.wide.inRound l).round a.eval) = execOp a.eval o from Oper.semAt_some l _ _ hno]
    generalize (execOp a.eval o).run P w = r at h
    cases r with
    | ok nx w' =>
     cases nx with
     | value v => exact round_list hQ rest hd.2 _ _ h
     | skip => exact round_list hQ rest hd.2 _ _ h
     | defer d => exact round_list hQ rest hd.2 _ _ h
     | enter f args =>
      refine ⟨(fun q => by cases q),CallsIn.inRound l ((callsIn_wide.2 (show Calls P f args w' _ from h)).mono fun e w2 he => ?_)⟩
      cases e with
      | returned v => exact round_list hQ rest hd.2 _ _ he
      | panicked ch => exact he
      | outgrown => exact he
     | row rw_ args =>
      refine ⟨(fun q => by cases q),fun c cs _ => ?_⟩
      obtain ⟨v,w2,hr,hs⟩:= (show Rows P rw_ args w' _ from h) c cs
      exact ⟨v,w2,round_list hQ rest hd.2 _ _ hr,stepsIn_wide.2 hs⟩
     | round => exact h.elim
     | _ => exact h.elim
    | halt st w' =>
     cases st with
     | panic v => exact h
     | _ => exact h.elim
   ·exact absurd h hQ
  ·rename_i hw
   rw [if_neg hw]
   exact ⟨fun _ _ => trivial,round_list hQ rest hd.2 _ _ h⟩
theorem round_region {P: Program} {id l: Nat} {L: List Oper} {Q: Exit → Act → World → Prop} {a: Act} {w: World} (hQ: ¬ LetsOut Q) (hd: (L.all fun o => match o.op with
 | .defer _ => false
 | _ => true) = true) (h: wpList P L.toArray Q L a w): (Code.region id L.toArray false).wpIn (Fence.wide.inRound l) 0 P Q a w:= wpIn_region_lit (round_list hQ L hd a w h)
theorem calls_marks {P: Program} {f: FuncId} {fn: Func} {c: Code} {args: Array Value} {w: World} {R: Ending → World → Prop} (hf: P.funcs[f]? = some fn) (hb: fn.body = some c)
 (h: c.wp P (bodyPostM Fence.wide 0 P fn R) { tmps:= args ++ Array.replicate (fn.ntmps - args.size) undef,defers:= [] } w): Calls P f args w R:=
 (callsIn_wide (n:= 0)).1 (callsIn_of_wp_marks hf hb trivial ((wpIn_wide (n:= 0)).2 h) rfl)
theorem calls_in {P: Program} {f: FuncId} {args: Array Value} {w: World} {R: Ending → World → Prop} (h: Calls P f args w R): CallsIn Fence.wide 0 P f args w R:= (callsIn_wide (n:= 0)).2 h
end Go.Proofs.YtpdmmmdkpipmkaaGreatDoor
namespace Go.Proofs.YtpdmmmdkpipmkaaGreatDoor
open Go.RowKit Go.Lib Go.Shelf
open Go.Maps (Keyed)
theorem Tryz.lawStr: Keyed Tryz.prog 9:= Go.Maps.string_keyed Tryz.underlying9
theorem key_str (s: List UInt8) (h: s.length ≤ maxLen): keyOf Tryz.prog 9 (str s) = some (.string s):= by
 have:= Go.WideMaps.keyOf_string_mk (P:= Tryz.prog) Tryz.underlying9 (s:= ⟨s.toArray⟩) (by simpa [ByteArray.size] using h)
 simpa using this
def spL: List Value → Option (DataW Unit × List MemPlace)
 | [.int q a,.int q' b] => some (.agg [.lit (.int q a),.lit (.int q' b)],[])
 | _ => none
def spE: Value → Option (DataW Unit × List MemPlace)
 | .agg cs => spL cs.toList
 | _ => none
theorem spE_inv {v: Value} {a b: Int} {ps: List MemPlace} (h: spE v = some (.agg [.lit (.int .i64 a),.lit (.int .i64 b)],ps)): v = .agg #[.int .i64 a,.int .i64 b]:= by
 unfold spE at h
 split at h
 ·rename_i cs
  unfold spL at h
  split at h
  ·rename_i q x q' y he
   simp only [Option.some.injEq,Prod.mk.injEq,DataW.agg.injEq,List.cons.injEq,DataW.lit.injEq,Lit.int.injEq,and_true] at h
   obtain ⟨⟨⟨rfl,rfl⟩,rfl,rfl⟩,_⟩:= h
   congr 1
   apply Array.toList_inj.1
   rw [he]
  ·cases h
 ·cases h
abbrev spv (x: Nat × Nat): Value:= .agg #[.int .i64 (x.1: Int),.int .i64 (x.2: Int)]
def spd (x: Nat × Nat): DataW Unit:= .agg [.lit (.int .i64 (x.1: Int)),.lit (.int .i64 (x.2: Int))]
structure SpansAt (w: World) (bm: Nat) (f: Ml.SpF) (n: Nat): Prop where
 has: ∃ D: DataW Unit,w.ownsMap Tryz.prog 9 spE bm n D ∧ ∀ p: List UInt8,p.length ≤ maxLen → Maps.has D (.string p) = (f p).isSome ∧ D.atKey (.string p) (spd (0,0)) = spd ((f p).getD (0,0))
theorem SpansAt.map {w: World} {bm n: Nat} {f: Ml.SpF} (h: SpansAt w bm f n): ∃ es clock,w.heap[bm]? = some (.map es clock):= by
 obtain ⟨D,⟨es,clock,hb,_⟩,_⟩:= h.has
 exact ⟨es,clock,hb⟩
theorem SpansAt.block {w w': World} {bm n: Nat} {f: Ml.SpF} (h: SpansAt w bm f n) (hb: w'.heap[bm]? = w.heap[bm]?): SpansAt w' bm f n:= by
 obtain ⟨D,⟨es,clock,h1,h2⟩,h3⟩:= h.has
 exact ⟨D,⟨es,clock,hb.trans h1,h2⟩,h3⟩
theorem SpansAt.lt {w: World} {bm n: Nat} {f: Ml.SpF} (h: SpansAt w bm f n): bm < w.heap.size:= by
 obtain ⟨es,clock,h⟩:= h.map
 exact heap_lt h
theorem SpansAt.next {w w': World} {bm n: Nat} {f: Ml.SpF} (h: SpansAt w bm f n) (hb: Below w.heap.size w w'): SpansAt w' bm f n:= h.block (hb.block bm h.lt)
theorem spans_new (w: World): SpansAt (w.alloc (.map #[] 0)) w.heap.size (fun _ => none) 0:=
 ⟨.map [],World.ownsMap_made w _ _ _,fun p _ => by simp [Maps.has,DataW.atKey]⟩
theorem SpansAt.look {w: World} {bm n: Nat} {f: Ml.SpF} (h: SpansAt w bm f n) (p: List UInt8) (hp: p.length ≤ maxLen):
 (Instr.lookup 193 (.map (some bm)) (str p) true).run Tryz.prog w = .ok (.tuple #[spv ((f p).getD (0,0)),.bool (f p).isSome]) w:= by
 obtain ⟨D,ho,hd⟩:= h.has
 have hz: (zeroValue 235).run Tryz.prog w = .ok (spv (0,0)) w:= by kernel_rfl
 obtain ⟨v,ps,hr,hv⟩:= ho.look_ok Tryz.lawStr Tryz.underlying193 hz (zd:= spd (0,0)) (zp:= []) rfl (key_str p hp)
 rw [(hd p hp).2] at hv
 rw [hr,(hd p hp).1,spE_inv hv]
theorem SpansAt.look1 {w: World} {bm n: Nat} {f: Ml.SpF} (h: SpansAt w bm f n) (p: List UInt8) (hp: p.length ≤ maxLen):
 (Instr.lookup 193 (.map (some bm)) (str p) false).run Tryz.prog w = .ok (spv ((f p).getD (0,0))) w:= by
 obtain ⟨D,ho,hd⟩:= h.has
 have hz: (zeroValue 235).run Tryz.prog w = .ok (spv (0,0)) w:= by kernel_rfl
 obtain ⟨v,ps,hr,hv⟩:= ho.lookup Tryz.lawStr Tryz.underlying193 hz (zd:= spd (0,0)) (zp:= []) rfl (key_str p hp)
 rw [(hd p hp).2] at hv
 rw [hr,spE_inv hv]
theorem SpansAt.put {w: World} {bm n: Nat} {f: Ml.SpF} (h: SpansAt w bm f n) (p: List UInt8) (x: Nat × Nat) (hp: p.length ≤ maxLen) (hn: n < 1000000):
 ∃ w',(Instr.mapUpdate 193 (.map (some bm)) (str p) (spv x)).run Tryz.prog w = .ok () w' ∧ SpansAt w' bm (fun u => if u = p then some x else f u) (n + 1) ∧ But bm w w':= by
 obtain ⟨D,ho,hd⟩:= h.has
 obtain ⟨w',hr,ho',hg⟩:= ho.update Tryz.lawStr Tryz.underlying193 (by unfold maxLen;omega) (key_str p hp) (val:= spv x) (d:= spd x) (ps:= []) rfl
 have hk: WideAt.IsKeyLit (.string p):= Tryz.lawStr.key (key_str p hp)
 refine ⟨w',hr,⟨_,ho',fun q hq => ?_⟩,⟨hg.os,hg.tape,hg.output,hg.size,fun k hk hn => hg.block k hk (by simpa using hn)⟩⟩
 by_cases e: q = p
 ·subst e
  rw [Maps.has_put_same ho.isMap hk,Maps.atKey_put_same ho.isMap hk]
  simp
 ·rw [Maps.has_put_other (fun he => e (by cases he;rfl)),Maps.atKey_put_other (fun he => e (by cases he;rfl)),(hd q hq).1,(hd q hq).2]
  simp [e]
theorem mk1_put (k: Nat) (f: Ml.SpF) (v: List UInt8): (fun u => if u = v then some (match f v with
 | none => (k,k)
 | some x => (x.1,k)) else f u) = Ml.mk1 k f v:= by
 funext u
 unfold Ml.mk1
 by_cases h: u = v
 ·subst h;rfl
 ·rw [if_neg h,if_neg h]
theorem but_cells {bm: Nat} {w w': World} {es: Array MapEntry} {clock k: Nat} {o: Obj} (h: But bm w w') (hm: w.heap[bm]? = some (.map es clock)) (hk: w.heap[k]? = some o) (ho: o.isCells = true): w'.heap[k]? = some o:= h.heap (fun e => by subst e;rw [hm] at hk;cases hk;cases ho) hk
end Go.Proofs.YtpdmmmdkpipmkaaGreatDoor
namespace Go.Proofs.YtpdmmmdkpipmkaaGreatDoor
open Go.RowKit Go.Lib Go.Shelf
theorem Row.bmap {α: Type} {D: Kd α} {bm: Nat} {w w': World} {es: Array MapEntry} {clock: Nat} {a: Option Addr} {c: Nat} {xs: List α} (h: Row D w a c xs) (b: But bm w w') (hm: w.heap[bm]? = some (.map es clock)): Row D w' a c xs:=
 ⟨h.room,h.few,h.void,fun ad ha j u hu => by
  have hc:= h.cells ad ha j u hu
  rw [World.cell?_of_block (w:= w) (b.block _ (cell_block hc) (fun e => ?_))]
  ·exact hc
  ·obtain ⟨o,ho,hcc⟩:= cells_of_cell hc
   rw [e,hm] at ho;cases ho;cases hcc⟩
theorem iT4: (Tryz.prog.info? 44).map (·.size) = some 4:= by kernel_rfl
theorem mark_at (k: Nat) (a: Option Addr) (c: Nat) (ts: List Tm) (bx bm n: Nat) (f: Ml.SpF) (w: World) (hr: Row tK w a c ts) (hx: w.heap[bx]? = some (.cells #[.map (some bm)] 193)) (S: SpansAt w bm f n)
 (hn: n + ts.length ≤ 900000) (hv: ∀ t ∈ ts,t.v.length ≤ maxLen):
 Calls Tryz.prog 191 #[.int .i64 (k: Int),.slice a ts.length c,ptr bx] w fun e w' => e = .returned (.tuple #[]) ∧ SpansAt w' bm (Ml.mks k f (ts.map (·.v))) (n + ts.length) ∧ But bm w w':= by
 obtain ⟨es,clock,hm⟩:= S.map
 have few:= hr.few
 have TL:= Tryz.underlying44
 have TS:= Tryz.underlying235
 go_enter Tryz.func191,Tryz.ntmps191
 go_wp2_with fail
 go_loopw [11] (fun v wr => ∃ j: Nat,v = .int .i64 (j: Int) ∧ j ≤ ts.length ∧ SpansAt wr bm (Ml.mks k f ((ts.take j).map (·.v))) (n + j) ∧ But bm w wr) (fun v _ => ts.length - (RowKit.intOf v).toNat)
 case atStart => exact ⟨0,rfl,Nat.zero_le _,S,But.refl _ _⟩
 case round =>
  obtain ⟨j,rfl,hj,Sj,Bj⟩:= hrel
  by_cases hlt: j < ts.length
  ·have hq: (j: Int) < (ts.length: Int):= by omega
   have Rj:= hr.bmap Bj hm
   obtain ⟨b,o,rfl⟩:= Rj.addr (by omega)
   have rg:= Rj.range j hlt
   have xj:= but_cells Bj hm hx rfl
   have hvj:= hv ts[j] (List.getElem_mem hlt)
   have TK: Hid (ts.take (j + 1) = ts.take j ++ [ts[j]]):= List.take_succ_eq_append_getElem hlt
   generalize ht: ts[j] = t at *
   have HG: Hid (Ml.mks k f ((ts.take (j + 1)).map (·.v)) = Ml.mk1 k (Ml.mks k f ((ts.take j).map (·.v))) t.v):= by
    show _ = _
    rw [TK.out,List.map_append];unfold Ml.mks;rw [List.foldl_append];rfl
   clear ht TK
   generalize Ml.mks k f ((ts.take j).map (·.v)) = g at *
   have H1:= heap_alloc_new wr (.cells #[.string { data:= #[] },.bool false,.int .i64 0,.string { data:= #[] }] 44)
   have fin: ∀ (w2: World),Below wr.heap.size wr w2 → ∀ x: Nat × Nat,Hid ((fun u => if u = t.v then some x else g u) = Ml.mk1 k g t.v) → ∃ w4,(Instr.mapUpdate 193 (.map (some bm)) (str t.v) (spv x)).run Tryz.prog (w2.alloc (.cells #[.int .i64 (x.1: Int),.int .i64 (x.2: Int)] 235)) = .ok () w4 ∧ SpansAt w4 bm (Ml.mks k f ((ts.take (j + 1)).map (·.v))) (n + (j + 1)) ∧ But bm w w4:= fun w2 B2 x hx => by
    obtain ⟨w4,h1,h2,h3⟩:= (Sj.next (Below.then B2 (below_alloc w2 (.cells #[.int .i64 (x.1: Int),.int .i64 (x.2: Int)] 235)))).put t.v x hvj (by omega)
    exact ⟨w4,h1,by rw [HG.out,← hx.out];exact h2,Bj.trans ((But.of_below (Below.then B2 (below_alloc w2 _))).trans h3)⟩
   have FIN:= hideP fin
   have MK:= hideP (mk1_put k g t.v)
   clear fin HG
   cases hg: g t.v with
   | none =>
    rw [hg] at MK
    go_wp2_with (first
     | (refine wpList_load_mid rfl 44 _ rfl b (o + j * 4) rfl (tv t) _ rg TL rfl iT4 ?_)
     | (refine wpList_store_all rfl 44 _ _ rfl wr.heap.size 4 _ 44 (tv t) rfl rfl H1 rfl rfl iT4 rfl ?_;intro w2 H2 b2;have B2:= below_tok b2;have x2:= below_heap B2 xj;have S2:= Sj.next B2;have c2: w2.cell? ⟨bx,0,none⟩ = some (.map (some bm)):= (by rw [heap_cell x2];rfl);have d2: w2.cell? ⟨wr.heap.size,0,none⟩ = some (str t.v):= (by rw [heap_cell H2];rfl);have L2:= S2.look t.v hvj;rw [hg] at L2;obtain ⟨w4,hp,S4,B4⟩:= FIN.out w2 B2 (k,k) MK;have c3: (w2.alloc (.cells #[.int .i64 (k: Int),.int .i64 (k: Int)] 235)).cell? ⟨bx,0,none⟩ = some (.map (some bm)):= (by rw [heap_cell (below_heap (below_alloc w2 _) x2)];rfl);have d3: (w2.alloc (.cells #[.int .i64 (k: Int),.int .i64 (k: Int)] 235)).cell? ⟨wr.heap.size,0,none⟩ = some (str t.v):= (by rw [heap_cell (below_heap (below_alloc w2 _) H2)];rfl)))
    go_roundw
    case rel => exact ⟨j + 1,rfl,hlt,S4,B4⟩
    case measure => simp [RowKit.intOf];omega
   | some x =>
    rw [hg] at MK
    go_wp2_with (first
     | (refine wpList_load_mid rfl 44 _ rfl b (o + j * 4) rfl (tv t) _ rg TL rfl iT4 ?_)
     | (refine wpList_store_all rfl 44 _ _ rfl wr.heap.size 4 _ 44 (tv t) rfl rfl H1 rfl rfl iT4 rfl ?_;intro w2 H2 b2;have B2:= below_tok b2;have x2:= below_heap B2 xj;have S2:= Sj.next B2;have c2: w2.cell? ⟨bx,0,none⟩ = some (.map (some bm)):= (by rw [heap_cell x2];rfl);have d2: w2.cell? ⟨wr.heap.size,0,none⟩ = some (str t.v):= (by rw [heap_cell H2];rfl);have L2:= S2.look t.v hvj;rw [hg] at L2;obtain ⟨w4,hp,S4,B4⟩:= FIN.out w2 B2 (x.1,k) MK;have c3: (w2.alloc (.cells #[.int .i64 (x.1: Int),.int .i64 (k: Int)] 235)).cell? ⟨bx,0,none⟩ = some (.map (some bm)):= (by rw [heap_cell (below_heap (below_alloc w2 _) x2)];rfl);have d3: (w2.alloc (.cells #[.int .i64 (x.1: Int),.int .i64 (k: Int)] 235)).cell? ⟨wr.heap.size,0,none⟩ = some (str t.v):= (by rw [heap_cell (below_heap (below_alloc w2 _) H2)];rfl)))
    go_roundw
    case rel => exact ⟨j + 1,rfl,hlt,S4,B4⟩
    case measure => simp [RowKit.intOf];omega
  ·have hq: ¬ (j: Int) < (ts.length: Int):= by omega
   obtain rfl: j = ts.length:= by omega
   rw [List.take_length] at Sj
   go_wp2_with fail
   go_end0
   exact ⟨rfl,Sj,Bj⟩
end Go.Proofs.YtpdmmmdkpipmkaaGreatDoor
