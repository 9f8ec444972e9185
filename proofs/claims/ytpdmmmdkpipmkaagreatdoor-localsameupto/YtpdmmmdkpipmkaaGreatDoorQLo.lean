/-
  Rows of facts in memory of the call's own; slices.SortFunc over them.
-/
import Derived.Shelf.SlSortCmp.WholeK
import Derived.Shelf.SlSortCmp.NoneTotal
import Derived.Lib.SliceRun
import Derived.Test.YtpdmmmdkpipmkaaGreatDoorQMk
import Derived.Test.YtpdmmmdkpipmkaaGreatDoorQE8
set_option maxRecDepth 100000
set_option maxHeartbeats 1000000
namespace Go.Proofs.YtpdmmmdkpipmkaaGreatDoor
open Go.RowKit Go.Sort
theorem But.cell {h: Nat} {w w': World} (x: But h w w') {p: Addr} (hp: p.block ≠ h) (hs: p.block < w.heap.size): w'.cell? p = w.cell? p:= World.cell?_of_block (w:= w) (x.block p.block hs hp)
def RowF (w: World) (b: Nat) (xs: List Fv): Prop:= ∀ i (hi: i < xs.length) c,c < 4 → w.cell? ⟨b,i * 4 + c,none⟩ = (fv xs[i])[c]? ∧ w.frozen? ⟨b,i * 4 + c,none⟩ = false
theorem RowF.below {w w': World} {b: Nat} {xs: List Fv} {B: Nat} (h: RowF w b xs) (hb: Below B w w') (hB: b < B): RowF w' b xs:= fun i hi c hc => by
 rw [hb.cell (p:= ⟨b,i * 4 + c,none⟩) hB,hb.frozen (p:= ⟨b,i * 4 + c,none⟩) hB];exact h i hi c hc
theorem RowF.cells {w: World} {b: Nat} {xs: List Fv} (h: RowF w b xs): ∀ j u,(fcells xs)[j]? = some u → w.cell? ((⟨b,0,none⟩: Addr).add j) = some u:= fun j u hu => by
 obtain ⟨i,c,hi,hc,rfl,hv⟩:= flat_spot fv 4 fv_len xs j u hu
 rw [Addr.add_lit,Nat.zero_add,(h i hi c hc).1,hv]
theorem RowF.get {w: World} {b: Nat} {xs: List Fv} (h: RowF w b xs) (i: Nat) (hi: i < xs.length):
 w.cell? ⟨b,i * 4,none⟩ = some (str xs[i].at_) ∧ w.cell? ⟨b,i * 4 + 1,none⟩ = some (str xs[i].by_) ∧ w.cell? ⟨b,i * 4 + 2,none⟩ = some (str xs[i].pred) ∧ w.cell? ⟨b,i * 4 + 3,none⟩ = some (.slice xs[i].a xs[i].ks.length xs[i].cap):=
 ⟨(h i hi 0 (by omega)).1,(h i hi 1 (by omega)).1,(h i hi 2 (by omega)).1,(h i hi 3 (by omega)).1⟩
theorem RowF.thaw {w: World} {b: Nat} {xs: List Fv} (h: RowF w b xs) (i: Nat) (hi: i < xs.length):
 w.frozen? ⟨b,i * 4,none⟩ = false ∧ w.frozen? ⟨b,i * 4 + 1,none⟩ = false ∧ w.frozen? ⟨b,i * 4 + 2,none⟩ = false ∧ w.frozen? ⟨b,i * 4 + 3,none⟩ = false:=
 ⟨(h i hi 0 (by omega)).2,(h i hi 1 (by omega)).2,(h i hi 2 (by omega)).2,(h i hi 3 (by omega)).2⟩
abbrev In (w0: World): Type:= { x: Fv // Fv.At w0 x }
def noIn (w0: World): In w0:= ⟨nof,ArgsAt.nil w0⟩
abbrev encIn (w0: World) (x: In w0): List Value:= fv x.1
def allIn (w0: World) (xs: List Fv) (h: ∀ x ∈ xs,Fv.At w0 x): List (In w0):= xs.pmap Subtype.mk h
theorem allIn_val (w0: World) (xs: List Fv) (h: ∀ x ∈ xs,Fv.At w0 x): (allIn w0 xs h).map (·.1) = xs:= by
 unfold allIn;rw [List.map_pmap];simp
theorem rowF_holdsK (w0 w: World) [Inhabited (In w0)] (b: Nat) (d: List (In w0)): RowF w b (d.map (·.1)) ↔ HoldsK (encIn w0) 4 w b 0 d.toArray:= by
 constructor
 ·intro h t ht
  rw [size_flatK] at ht
  have ht': t < d.length * 4:= by simpa using ht
  have hi: t / 4 < d.length:= by omega
  have h1:= h (t / 4) (by simpa using hi) (t % 4) (Nat.mod_lt _ (by decide))
  rw [show 0 + t = t / 4 * 4 + t % 4 by omega]
  refine ⟨?_,h1.2⟩
  rw [h1.1,get_flatK _ _ _ _ ht,getElem!_pos d.toArray (t / 4) (by simpa using hi)]
  have hc: t % 4 < (fv d[t / 4].1).length:= by rw [fv_len];omega
  simp only [List.getElem_map,List.getElem_toArray,encIn,id]
  rw [List.getElem?_eq_getElem hc,getElem!_pos (fv d[t / 4].1) _ hc]
 ·intro h i hi c hc
  have hi': i < d.length:= by simpa using hi
  have:= h.cell (i:= i) (c:= c) (by simpa using hi') hc
  rw [Nat.zero_add] at this
  refine ⟨?_,this.2⟩
  rw [this.1,getElem!_pos d.toArray i (by simpa using hi')]
  have hc': c < (fv d[i].1).length:= by rw [fv_len];omega
  simp only [List.getElem_map,List.getElem_toArray,encIn]
  rw [List.getElem?_eq_getElem hc',getElem!_pos (fv d[i].1) _ hc']
theorem but_sortWorldK {α: Type} [Inhabited α] (enc: α → List Value) (k: Nat) (w: World) (blk off m: Nat) (d: Array α) (os: Array Obj): But blk w (sortWorldK enc k w blk off m d os):= by
 refine ⟨rfl,rfl,rfl,by simp [sortWorldK,Sort.grow,putRowK,putRow,mapBlock,Sort.ahead],fun j hj hn => ?_⟩
 unfold sortWorldK
 rw [heap_grow_old _ _ (by simpa [putRowK,putRow,mapBlock,Sort.ahead] using hj)]
 simp only [putRowK,putRow,mapBlock,Sort.ahead,Array.getElem?_modify]
 rw [if_neg (fun e => hn e.symm)]
def SortedL (ys: List Fv): Prop:= ∀ i j (hi: i < ys.length) (hj: j < ys.length),i < j → cF ys[i].f ys[j].f ≤ 0
theorem sort_at (w0 w: World) (blk cap: Nat) (xs: List Fv) (hxs: ∀ x ∈ xs,Fv.At w0 x) (hB: Below w0.heap.size w0 w) (hb0: w0.heap.size ≤ blk) (hrow: RowF w blk xs) (hblk: blk < w.heap.size) (hlen: xs.length < 4611686018427387904):
 Calls Tryz.prog 93 #[.slice (some ⟨blk,0,none⟩) xs.length cap,.func (.func 94) #[] #[]] w fun e w' => e = .returned (.tuple #[]) ∧ ∃ ys: List Fv,ys.Perm xs ∧ SortedL ys ∧ RowF w' blk ys ∧ But blk w w':= by
 have eg: ∀ args w,(callFunc 94 args).run Tryz.prog w = .ok (.enter 94 args) w:= enters_of Tryz.func94 (by kernel_rfl) rfl
 haveI: Inhabited (In w0):= ⟨noIn w0⟩
 have hd: (allIn w0 xs hxs).length = xs.length:= by rw [← List.length_map (f:= fun x: In w0 => x.1),allIn_val]
 have hH: HoldsK (encIn w0) 4 w blk 0 (allIn w0 xs hxs).toArray:= (rowF_holdsK w0 w blk _).1 (by rw [allIn_val];exact hrow)
 have hpre:= pre_cF.on (fun x: In w0 => x.1.f)
 have hcmp: CmpLays Tryz.prog 94 #[] (encIn w0) 4 (fun x y => cF x.1.f y.1.f) blk 0 (allIn w0 xs hxs).toArray.size w:= fun m os dk _ x y => by
  have hbw: Below w0.heap.size w0 (sortWorldK (encIn w0) 4 w blk 0 m dk os):= hB.trans ((but_sortWorldK _ _ _ _ _ _ _ _).lower hb0 hB.size)
  exact order_at x.1 y.1 _ (x.2.below hbw (Nat.le_refl _)) (y.2.below hbw (Nat.le_refl _))
 have hO: SWO (ltOf fun x y: In w0 => cF x.1.f y.1.f):= by
  refine ⟨fun x => ?_,fun x y z h1 h2 => ?_,fun x y z h1 h2 => ?_⟩
  ·show decide (cF x.1.f x.1.f < 0) = false;rw [hpre.refl x];rfl
  ·simp only [ltOf,decide_eq_true_eq] at *;exact hpre.lt_of_lt_of_le h1 (Int.le_of_lt h2)
  ·simp only [ltOf,decide_eq_false_iff_not,Int.not_lt] at *
   have a1:= hpre.anti x y;have a2:= hpre.anti y z;have a3:= hpre.anti x z
   have:= hpre.trans z y x (by omega) (by omega)
   omega
 have:= AnyQ.slices_SortFunc Tryz.sortF 4 Tryz.isAgg37 Tryz.sizeOf37 (encIn w0) (fun x => fv_len x.1) (fun x v hv => fv_one x.1 v hv) (fun x y => cF x.1.f y.1.f) hO 94 #[] blk 0 cap (allIn w0 xs hxs).toArray w eg hcmp hH hblk (by simpa [hd] using hlen)
 rw [List.size_toArray,hd] at this
 refine this.mono fun e w' ⟨h1,d',n,os,hp,hs,hw⟩ => ⟨h1,d'.toList.map (·.1), ?_, ?_, ?_, ?_⟩
 ·have hsz: d'.size = xs.length:= by rw [hp.1,List.size_toArray,hd]
  have h3:= hp.2.2
  have e1: d'.extract 0 xs.length = d':= by rw [← hsz];exact Array.extract_size
  have e2: (allIn w0 xs hxs).toArray.extract 0 xs.length = (allIn w0 xs hxs).toArray:= by
   have:= Array.extract_size (xs:= (allIn w0 xs hxs).toArray)
   rwa [List.size_toArray,hd] at this
  rw [e1,e2] at h3
  have:= h3.map (fun x: In w0 => x.1)
  rwa [List.toList_toArray,allIn_val] at this
 ·have hsz: d'.size = xs.length:= by rw [hp.1,List.size_toArray,hd]
  intro i j hi hj hij
  rw [List.length_map,Array.length_toList] at hi hj
  have h3:= hs i j (Nat.zero_le _) hij (by omega)
  rw [getElem!_pos d' i hi,getElem!_pos d' j hj] at h3
  simp only [ltOf,decide_eq_false_iff_not,Int.not_lt] at h3
  simp only [List.getElem_map,Array.getElem_toList]
  have:= pre_cF.anti d'[i].1.f d'[j].1.f
  omega
 ·rw [rowF_holdsK w0,Array.toArray_toList,hw]
  exact holdsK_sortWorldK_c (encIn w0) 4 w blk 0 (allIn w0 xs hxs).toArray d' n os hH hblk hp.1
 ·rw [hw];exact but_sortWorldK _ _ _ _ _ _ _ _
theorem sort_none (p: Option Addr) (cap: Nat) (f: Value) (w: World): Calls Tryz.prog 93 #[.slice p 0 cap,f] w fun e w' => e = .returned (.tuple #[]) ∧ w = w':=
 (AnyF.slices_SortFunc_none Tryz.sortF p cap f w).mono fun _ _ ⟨h1,h2⟩ => ⟨h1,h2.symm⟩
end Go.Proofs.YtpdmmmdkpipmkaaGreatDoor
namespace Go.Proofs.YtpdmmmdkpipmkaaGreatDoor
open Go.RowKit Go.Sort
abbrev cV (x y: Fv): Int:= cF x.f y.f
theorem ordered1_at (x y: Fv) (w: World) (hx: Fv.At w x) (hy: Fv.At w y): Calls Tryz.prog 96 #[x.val,y.val] w fun e w' => e = .returned (.bool (decide (cV x y = 0))) ∧ ∃ q os,w' = grow (w.drewN q) os:= by
 have hO:= fun (W: World) (hg: Grew w W) => order_at x y W (hx.grew hg) (hy.grew hg)
 have hg2: ∀ o o': Obj,Grew w ((w.alloc o).alloc o'):= fun o o' => ((Grew.refl w).allocs o).allocs o'
 show Calls _ _ _ _ fun e w' => e = .returned (.bool (decide (cF x.f y.f = 0))) ∧ Grew w w'
 generalize cF x.f y.f = r at *
 obtain ⟨x1,x2,x3,xa,xc,xk⟩:= x;obtain ⟨y1,y2,y3,ya,yc,yk⟩:= y
 go_enter Tryz.func96,Tryz.ntmps96
 go_wp2_with fail
 refine (hO _ (hg2 _ _)).mono ?_;rintro e w1 ⟨rfl,hg⟩
 go_wp2_with fail
 go_ret
 refine ⟨ret_bool ?_,(hg2 _ _).trans hg⟩
 rw [Bool.eq_iff_iff];simp
theorem RowF.store {w: World} {b: Nat} {ys: List Fv} (h: RowF w b ys) (k: Nat) (hk: k < ys.length) (x: Fv):
 RowF ((((w.setCell ⟨b,k * 4,none⟩ (str x.at_)).setCell ⟨b,k * 4 + 1,none⟩ (str x.by_)).setCell ⟨b,k * 4 + 2,none⟩ (str x.pred)).setCell ⟨b,k * 4 + 3,none⟩ (.slice x.a x.ks.length x.cap)) b (ys.set k x):= by
 obtain ⟨c0,c1,c2,c3⟩:= h.get k hk
 intro i hi c hc
 rw [List.length_set] at hi
 obtain ⟨h1,h2⟩:= h i hi c hc
 refine ⟨?_,by simpa using h2⟩
 by_cases e: k = i
 ·subst e
  rw [List.getElem_set_self]
  match c,hc with
  | 0,_ => simp [World.cell?_setCell_other,World.cell?_setCell_same',c0,fv]
  | 1,_ => simp [World.cell?_setCell_other,World.cell?_setCell_same',c1,fv]
  | 2,_ => simp [World.cell?_setCell_other,World.cell?_setCell_same',c2,fv]
  | 3,_ => simp [World.cell?_setCell_other,World.cell?_setCell_same',c3,fv]
 ·rw [List.getElem_set_ne e,← h1]
  rw [World.cell?_setCell_other,World.cell?_setCell_other,World.cell?_setCell_other,World.cell?_setCell_other]
  all_goals (simp only [ne_eq,Addr.mk.injEq,not_and];intros;omega)
theorem zeroCells_len (c: Array Value) (n: Nat): (Builtin.zeroCells c n).size = n * c.size:= by simp [Builtin.zeroCells]
theorem zeroCells_one (c: Array Value) (n: Nat) (h0: 0 < c.size) (h: ∀ i (hi: i < c.size),c[i].oneCell' = true): ∀ v ∈ (Builtin.zeroCells c n).toList,v.oneCell' = true:= by
 intro v hv
 simp only [Builtin.zeroCells,Array.mem_toList_iff,Array.mem_map,Array.mem_range] at hv
 obtain ⟨i,_,rfl⟩:= hv
 rw [getElem!_pos c (i % c.size) (Nat.mod_lt _ h0)]
 exact h _ _
theorem run_clear_facts (w: World) (b o n c: Nat) (hn: 0 < n) (hc: ∀ j,j < n * 4 → (w.cell? ⟨b,o + j,none⟩).isSome = true) (hf: ∀ j,j < n * 4 → w.frozen? ⟨b,o + j,none⟩ = false):
 ∃ Z: List Value,Z.length = n * 4 ∧ ∀ ty,(Builtin.clear_ #[32] ty #[.slice (some ⟨b,o,none⟩) n c]).run Tryz.prog w = .ok (.tuple #[]) (w.setCells b o Z):= by
 obtain ⟨zs,hzs⟩: ∃ zs: Array Value,zs = #[.string .empty,.string .empty,.string .empty,.slice none 0 0]:= ⟨_,rfl⟩
 have hsz: zs.size = 4:= by rw [hzs];rfl
 have h1: ∀ i (hi: i < zs.size),zs[i].oneCell' = true:= by
  subst hzs
  intro i hi
  match i,hi with
  | 0,_ => rfl
  | 1,_ => rfl
  | 2,_ => rfl
  | 3,_ => rfl
 have hz: ∀ w,(zeroValue 37).run Tryz.prog w = .ok (.agg zs) w:= by rw [hzs];exact Tryz.zeroValue37
 clear hzs
 have hl: (Builtin.zeroCells zs n).toList.length = n * 4:= by rw [Array.length_toList,zeroCells_len,hsz]
 refine ⟨(Builtin.zeroCells zs n).toList,hl,fun ty => ?_⟩
 have hst:= run_storeCells_cells (P:= Tryz.prog) b o _ 0 w (by rw [hl];simpa using hc) (by rw [hl];simpa using hf) (zeroCells_one zs n (by omega) h1)
 simp only [Nat.add_zero] at hst
 obtain ⟨m,rfl⟩: ∃ m,n = m + 1:= ⟨n - 1,by omega⟩
 simp [Builtin.clear_,run_underlying Tryz.underlying32,hz,hst,Value.cells]
end Go.Proofs.YtpdmmmdkpipmkaaGreatDoor
namespace Go.Proofs.YtpdmmmdkpipmkaaGreatDoor
open Go.RowKit Go.Lib Go.Shelf Go.Sort
theorem splice_get: ∀ (vs: List Value) (C: Array Value) (o j: Nat),o + vs.length ≤ C.size → (splice C o vs)[j]? = if o ≤ j ∧ j < o + vs.length then vs[j - o]? else C[j]?
 | [],C,o,j,_ => by rw [splice,if_neg (by simp)]
 | v:: r,C,o,j,h => by
  rw [List.length_cons] at h
  rw [splice,splice_get r _ (o + 1) j (by rw [Array.size_setIfInBounds];omega)]
  by_cases h1: j = o
  ·subst h1
   rw [if_neg (by omega),if_pos (by simp),Array.getElem?_setIfInBounds_self_of_lt (by omega)];simp
  ·by_cases h2: o + 1 ≤ j ∧ j < o + 1 + r.length
   ·rw [if_pos h2,if_pos (by simp;omega),show j - o = (j - (o + 1)) + 1 by omega];rfl
   ·rw [if_neg h2,if_neg (by simp;omega),Array.getElem?_setIfInBounds_ne (Ne.symm h1)]
theorem splice_size: ∀ (vs: List Value) (C: Array Value) (o: Nat),(splice C o vs).size = C.size
 | [],_,_ => rfl
 | v:: r,C,o => by rw [splice,splice_size r,Array.size_setIfInBounds]
def Blk {α: Type} (D: Kd α) (ty: TypeId) (w: World) (g: Nat) (zs: List α): Prop:= ∃ cur: Array Value,w.heap[g]? = some (.cells cur ty) ∧ zs.length * D.k ≤ cur.size ∧ ∀ (j: Nat) (u: Value),(zs.flatMap D.enc)[j]? = some u → cur[j]? = some u
theorem Blk.row {α: Type} {D: Kd α} {ty: TypeId} {w: World} {g cap: Nat} {zs: List α} (h: Blk D ty w g zs) (hc: zs.length ≤ cap) (hf: zs.length ≤ 4398046510976): RowT D ty w (some ⟨g,0,none⟩) cap zs:= by
 obtain ⟨cur,h1,h2,h3⟩:= h
 refine ⟨⟨hc,hf,(fun h => by cases h),fun ad ha j u hu => ?_⟩,fun ad ha => by cases ha;exact ⟨cur,h1⟩⟩
 cases ha
 rw [Addr.add_lit,heap_cell h1,Nat.zero_add];exact h3 j u hu
theorem Blk.block {α: Type} {D: Kd α} {ty: TypeId} {w w': World} {g: Nat} {zs: List α} (h: Blk D ty w g zs) (hb: w'.heap[g]? = w.heap[g]?): Blk D ty w' g zs:= by
 obtain ⟨cur,h1,h2⟩:= h
 exact ⟨cur,hb.trans h1,h2⟩
theorem Blk.lt {α: Type} {D: Kd α} {ty: TypeId} {w: World} {g: Nat} {zs: List α} (h: Blk D ty w g zs): g < w.heap.size:= by
 obtain ⟨cur,h1,_⟩:= h;exact heap_lt h1
theorem Blk.next {α: Type} {D: Kd α} {ty: TypeId} {w w': World} {g: Nat} {zs: List α} (h: Blk D ty w g zs) (hb: Below w.heap.size w w'): Blk D ty w' g zs:= h.block (hb.block g h.lt)
theorem Blk.there {α: Type} {D: Kd α} {ty: TypeId} {w: World} {g: Nat} {zs: List α} (h: Blk D ty w g zs) (o n: Nat) (hn: o + n ≤ zs.length * D.k): w.there g o n:= by
 obtain ⟨cur,h1,h2,_⟩:= h
 exact there_block h1 o n (by omega)
theorem Blk.range {α: Type} {D: Kd α} {ty: TypeId} {w: World} {g: Nat} {zs: List α} (h: Blk D ty w g zs) (i: Nat) (hi: i < zs.length): w.rangeAt g (i * D.k) (D.enc zs[i]):= fun c v hv => by
 obtain ⟨cur,h1,_,h3⟩:= h
 have hc: c < D.k:= by have:= (List.getElem?_eq_some_iff.1 hv).1;rwa [D.len] at this
 rw [heap_cell h1]
 exact h3 _ _ (by rw [flat_get D.enc D.k D.len zs i c hi hc,hv])
theorem Blk.set {α: Type} {D: Kd α} {ty: TypeId} {w: World} {g: Nat} {zs: List α} (h: Blk D ty w g zs) (i: Nat) (hi: i < zs.length) (x: α): Blk D ty (w.setCells g (i * D.k) (D.enc x)) g (zs.set i x):= by
 obtain ⟨cur,h1,h2,h3⟩:= h
 have hik: (i + 1) * D.k ≤ zs.length * D.k:= Nat.mul_le_mul_right _ hi
 rw [Nat.succ_mul] at hik
 refine ⟨_,heap_setCells g ty (D.enc x) (i * D.k) cur w h1,by rw [splice_size,List.length_set];exact h2,fun j u hu => ?_⟩
 have hp:= D.pos
 have hj: j < zs.length * D.k:= by have:= (List.getElem?_eq_some_iff.1 hu).1;rwa [flat_len D.enc D.k D.len,List.length_set] at this
 have e1: j / D.k < zs.length:= (Nat.div_lt_iff_lt_mul hp).2 hj
 have e2: j % D.k < D.k:= Nat.mod_lt _ hp
 have e3: j / D.k * D.k + j % D.k = j:= by rw [Nat.mul_comm];exact Nat.div_add_mod j D.k
 rw [← e3,flat_get D.enc D.k D.len (zs.set i x) (j / D.k) (j % D.k) (by rw [List.length_set];exact e1) e2] at hu
 rw [splice_get _ _ _ _ (by rw [D.len];omega),D.len]
 by_cases hd: j / D.k = i
 ·rw [if_pos (by rw [← hd];omega)]
  have: j - i * D.k = j % D.k:= by rw [← hd];omega
  rw [this]
  simp only [hd,List.getElem_set_self] at hu
  exact hu
 ·rw [if_neg ?_]
  ·refine h3 j u ?_
   rw [List.getElem_set_ne (Ne.symm hd)] at hu
   rw [← e3,flat_get D.enc D.k D.len zs (j / D.k) (j % D.k) e1 e2];exact hu
  ·rintro ⟨q1,q2⟩
   apply hd
   exact Nat.div_eq_of_lt_le (by omega) (by rw [Nat.succ_mul];omega)
theorem Blk.tail {α: Type} {D: Kd α} {ty: TypeId} {w: World} {g: Nat} {zs ys: List α} (h: Blk D ty w g (zs ++ ys)) (Z: List Value) (hZ: Z.length ≤ ys.length * D.k): Blk D ty (w.setCells g (zs.length * D.k) Z) g zs:= by
 obtain ⟨cur,h1,h2,h3⟩:= h
 rw [List.length_append,Nat.add_mul] at h2
 refine ⟨_,heap_setCells g ty Z (zs.length * D.k) cur w h1,by rw [splice_size];omega,fun j u hu => ?_⟩
 have hj: j < zs.length * D.k:= by have:= (List.getElem?_eq_some_iff.1 hu).1;rwa [flat_len D.enc D.k D.len] at this
 rw [splice_get _ _ _ _ (by omega),if_neg (by omega)]
 exact h3 j u (by rw [List.flatMap_append,List.getElem?_append_left (List.getElem?_eq_some_iff.1 hu).1];exact hu)
theorem own_blk {α: Type} {D: Kd α} {ty: TypeId} {w: World} {base: Nat} {v: Value} {xs: List α} (h: w.ownsRow base ty D.k v xs.length (xs.flatMap D.enc)):
 (v = .slice none 0 0 ∧ xs = []) ∨ ∃ g cap,v = .slice (some ⟨g,0,none⟩) xs.length cap ∧ base ≤ g ∧ xs.length ≤ cap ∧ cap ≤ maxLen ∧ Blk D ty w g xs:= by
 rcases h.2 with ⟨hv,h0⟩ | ⟨g,cap,cur,hv,hb,hg,hnc,hcm,hcs,ht⟩
 ·exact .inl ⟨hv,List.eq_nil_of_length_eq_zero h0⟩
 ·refine .inr ⟨g,cap,hv,hb,hnc,hcm,cur,hg, ?_,fun j u hu => ?_⟩
  ·rw [hcs];exact Nat.mul_le_mul_right _ hnc
  ·have hj: j < xs.length * D.k:= by have:= (List.getElem?_eq_some_iff.1 hu).1;rwa [flat_len D.enc D.k D.len] at this
   rw [← ht,List.getElem?_take,if_pos hj] at hu
   simpa using hu
theorem run_clear_any (T E: TypeId) (zs: Array Value) (k: Nat) (hT: Tryz.prog.underlying T = some (.slice E)) (hsz: zs.size = k) (h0: 0 < k) (h1: ∀ i (hi: i < zs.size),zs[i].oneCell' = true) (hz: ∀ w,(zeroValue E).run Tryz.prog w = .ok (.agg zs) w)
 (w: World) (b o n c: Nat) (hn: 0 < n) (ht: w.there b o (n * k)):
 ∃ Z: List Value,Z.length = n * k ∧ ∀ ty,(Builtin.clear_ #[T] ty #[.slice (some ⟨b,o,none⟩) n c]).run Tryz.prog w = .ok (.tuple #[]) (w.setCells b o Z):= by
 have hl: (Builtin.zeroCells zs n).toList.length = n * k:= by rw [Array.length_toList,zeroCells_len,hsz]
 refine ⟨(Builtin.zeroCells zs n).toList,hl,fun ty => ?_⟩
 have hst:= run_storeCells_cells (P:= Tryz.prog) b o _ 0 w (by rw [hl];simpa using fun j hj => (ht j hj).1) (by rw [hl];simpa using fun j hj => (ht j hj).2) (zeroCells_one zs n (by omega) h1)
 simp only [Nat.add_zero] at hst
 obtain ⟨m,rfl⟩: ∃ m,n = m + 1:= ⟨n - 1,by omega⟩
 simp [Builtin.clear_,run_underlying hT,hz,hst,Value.cells]
def From (B: Nat) (a: Option Addr): Prop:= ∀ ad,a = some ad → B ≤ ad.block
theorem From.none (B: Nat): From B none:= fun _ h => by cases h
theorem From.mono {B B': Nat} {a: Option Addr} (h: From B a) (hB: B' ≤ B): From B' a:= fun ad ha => Nat.le_trans hB (h ad ha)
def NoB (w w': World): Prop:= ∀ (k: Nat) (o: Obj),w.heap[k]? = some o → (∀ c z,o ≠ .cells c 143 z) → w'.heap[k]? = some o
theorem NoB.trans {a b c: World} (x: NoB a b) (y: NoB b c): NoB a c:= fun k o h ho => y k o (x k o h ho) ho
theorem NoB.below {w w': World} (h: Below w.heap.size w w'): NoB w w':= fun _ _ hk _ => below_heap h hk
theorem NoB.but {g: Nat} {w w': World} {C: Array Value} {z: Nat × Nat} (h: But g w w') (hg: w.heap[g]? = some (.cells C 143 z)): NoB w w':= fun k o hk ho => h.heap (fun e => by subst e;rw [hg] at hk;cases hk;exact ho _ _ rfl) hk
structure FnB (F: Nat) (cv: Array Value) (q: Bd → Bool) (ok: Bd → Prop) (w0: World): Prop where
 enters: ∀ args w,(callFunc F args).run Tryz.prog w = .ok (.enter F args) w
 does: ∀ (b: Bd) (W: World),ok b → NoB w0 W → Calls Tryz.prog F (#[bval b] ++ cv) W fun e w' => e = .returned (.bool (q b)) ∧ Below W.heap.size W w'
theorem FnB.next {F: Nat} {cv: Array Value} {q: Bd → Bool} {ok: Bd → Prop} {w w': World} (h: FnB F cv q ok w) (n: NoB w w'): FnB F cv q ok w':= ⟨h.enters,fun b W hb hW => h.does b W hb (n.trans hW)⟩
theorem iB4: (Tryz.prog.info? 143).map (·.size) = some 4:= by kernel_rfl
theorem idxB_at {F: Nat} {cv: Array Value} {q: Bd → Bool} {ok: Bd → Prop} (a: Option Addr) (c: Nat) (L: List Bd) (w: World) (h: Row bK w a c L) (fn: FnB F cv q ok w) (hok: ∀ b ∈ L,ok b):
 Calls Tryz.prog 232 #[.slice a L.length c,.func (.func F) #[] cv] w fun e w' => ((e = .returned (.int .i64 (-1)) ∧ ∀ z ∈ L,q z = false) ∨ ∃ i: Nat,∃ hi: i < L.length,e = .returned (.int .i64 (i: Int)) ∧ q L[i] = true ∧ ∀ z ∈ L.take i,q z = false) ∧ Below w.heap.size w w':= by
 have few:= h.few
 have eg:= fn.enters
 have FN:= hideP fn.does
 go_enter Tryz.func232,Tryz.ntmps232
 go_wp2_with fail
 go_loopw [5,8] (fun _ u wr => ∃ k: Nat,u = .int .i64 (k: Int) ∧ k ≤ L.length ∧ Hid (∀ z ∈ L.take k,q z = false) ∧ Below w.heap.size w wr) (fun _ u _ => L.length - (RowKit.intOf u).toNat)
 case atStart => exact ⟨0,rfl,by omega,hideP (by simp),Below.refl _ _⟩
 case round =>
  obtain ⟨k,rfl,hk,hno,B⟩:= hrel
  by_cases hlt: k < L.length
  ·have q0: (k: Int) < (L.length: Int):= by omega
   obtain ⟨P1,O1,rfl⟩:= h.addr (by omega)
   have r1: wr.rangeAt P1 (O1 + k * 4) (bv (L[k]'hlt)):= (h.below B (Nat.le_refl _)).range k hlt
   have T:= hideP (FN.out L[k] wr (hok _ (List.getElem_mem hlt)) (NoB.below B))
   have YE: Hid (q (L[k]'hlt) = true → ∃ hi: k < L.length,q L[k] = true ∧ ∀ z ∈ L.take k,q z = false):= fun h1 => ⟨hlt,h1,hno.out⟩
   have NO: Hid (q (L[k]'hlt) = false → ∀ z ∈ L.take (k + 1),q z = false):= fun h1 z hz => by
    rw [List.take_succ_eq_append_getElem hlt,List.mem_append,List.mem_singleton] at hz
    rcases hz with hz | rfl
    ·exact hno.out z hz
    ·exact h1
   have iQ: (Tryz.prog.info? 143).map (·.size) = some (bv (L[k]'hlt)).length:= iB4
   generalize hqb: q (L[k]'hlt) = b at T YE NO
   generalize (L[k]'hlt) = bd at T r1 iQ
   clear hno hqb FN
   go_wp2_with (refine wpList_load_mid rfl 143 _ rfl P1 (O1 + k * 4) rfl (bv bd) _ r1 Tryz.underlying143 rfl iQ ?_)
   refine T.out.mono ?_
   rintro e w1 ⟨rfl,b1⟩
   cases b with
   | true =>
    have Y:= hideP (YE.out rfl)
    clear YE NO
    go_wp2_with fail
    go_ret
    obtain ⟨y1,y2,y3⟩:= Y.out
    exact ⟨.inr ⟨k,y1,rfl,y2,y3⟩,Below.then B b1⟩
   | false =>
    have Y:= hideP (NO.out rfl)
    clear YE NO
    go_wp2_with fail
    go_roundw
    case rel => exact ⟨k + 1,rfl,hlt,Y,Below.then B b1⟩
    case measure => simp [RowKit.intOf];omega
  ·have q0: ¬ (k: Int) < (L.length: Int):= by omega
   obtain rfl: k = L.length:= by omega
   rw [List.take_length] at hno
   clear FN
   go_wp2_with fail
   go_ret
   exact ⟨.inl ⟨rfl,fun x y h => hno.out (x,y) h⟩,B⟩
theorem hasB_at {F: Nat} {cv: Array Value} {q: Bd → Bool} {ok: Bd → Prop} (a: Option Addr) (c: Nat) (L: List Bd) (w: World) (h: Row bK w a c L) (fn: FnB F cv q ok w) (hok: ∀ b ∈ L,ok b):
 Calls Tryz.prog 229 #[.slice a L.length c,.func (.func F) #[] cv] w fun e w' => e = .returned (.bool (L.any q)) ∧ Below w.heap.size w w':= by
 have T:= hideP (idxB_at a c L w h fn hok)
 go_enter Tryz.func229,Tryz.ntmps229
 go_wp2_with fail
 refine T.out.mono ?_
 rintro e w1 ⟨⟨rfl,hall⟩ | ⟨i,hi,rfl,hyes,_⟩,b1⟩
 ·have ha: Hid (L.any q = false):= List.any_eq_false.2 fun z hz => by rw [hall z hz];decide
  clear hall
  go_wp2_with fail
  go_ret
  exact ⟨by rw [ha.out];rfl,b1⟩
 ·have ha: Hid (L.any q = true):= List.any_eq_true.2 ⟨_,List.getElem_mem hi,hyes⟩
  clear hyes
  have hq: (i: Int) ≥ 0:= by omega
  go_wp2_with fail
  go_ret
  exact ⟨by rw [ha.out];simp,b1⟩
end Go.Proofs.YtpdmmmdkpipmkaaGreatDoor
namespace Go.Proofs.YtpdmmmdkpipmkaaGreatDoor
open Go.RowKit Go.Lib Go.Shelf Go.Sort
theorem clear_binds (w: World) (b o n c: Nat) (hn: 0 < n) (ht: w.there b o (n * 4)):
 ∃ Z: List Value,Z.length = n * 4 ∧ ∀ ty,(Builtin.clear_ #[107] ty #[.slice (some ⟨b,o,none⟩) n c]).run Tryz.prog w = .ok (.tuple #[]) (w.setCells b o Z):=
 run_clear_any 107 143 #[.string .empty,.bool false,.int .i64 0,.string .empty] 4 Tryz.underlying107 rfl (by decide) (fun i hi => by
  match i,hi with
  | 0,_ => rfl
  | 1,_ => rfl
  | 2,_ => rfl
  | 3,_ => rfl) Tryz.zeroValue143 w b o n c hn ht
theorem wpList_store_lst {P: Program} {ops: Array Oper} {rest: List Oper} {op: Oper} {a: Act} {w: World} {Q: Exit → Act → World → Prop} (hgd: op.guard = none) (ty: TypeId) (x y: Operand) (ho: op.op = .store ty x y)
 (V o n: Nat) (vs: List Value) (hx: a.eval x = .pointer (some ⟨V,o,none⟩)) (hy: a.eval y = .agg vs.toArray) (ht: w.there V o n) (hn: vs.length = n) (hi: (P.info? ty).map (·.size) = some n) (h1: vs.all (·.oneCell') = true)
 (h: wpList P ops Q rest (a.put op.dst undef) (w.setCells V o vs)): wpList P ops Q (op:: rest) a w:= by
 subst hn
 exact wpList_store_mid hgd ty x y ho V o vs.toArray hx hy (by simpa using ht) (by simpa using hi) (by simpa using h1) h
theorem midB_get {α: Type} (zs L: List α) (t: Nat) (ht: t < zs.length) (hL: L.length ≤ t) (h: t < (L ++ zs.drop L.length).length): (L ++ zs.drop L.length)[t]'h = zs[t]:= by
 rw [List.getElem_append_right hL,List.getElem_drop]
 congr 1;omega
theorem midB_set {α: Type} (zs L: List α) (p: α) (hL: L.length < zs.length): (L ++ zs.drop L.length).set L.length p = (L ++ [p]) ++ zs.drop (L ++ [p]).length:= by
 rw [List.set_append_right _ _ (Nat.le_refl _),Nat.sub_self,List.drop_eq_getElem_cons hL,List.set_cons_zero]
 simp
theorem delB_at {F: Nat} {cv: Array Value} {q: Bd → Bool} {ok: Bd → Prop} (base: Nat) (v: Value) (zs: List Bd) (w: World) (hO: w.ownsRow base 143 bK.k v zs.length (zs.flatMap bK.enc)) (hb: base ≤ w.heap.size) (fn: FnB F cv q ok w) (hok: ∀ b ∈ zs,ok b) (few: zs.length ≤ 1000000):
 Calls Tryz.prog 222 #[v,.func (.func F) #[] cv] w fun e w' => (∃ a' c',e = .returned (.slice a' (zs.filter fun b => !q b).length c') ∧ RowT bK 143 w' a' c' (zs.filter fun b => !q b) ∧ From base a') ∧ Below base w w' ∧ NoB w w':= by
 obtain ⟨a0,c0,hv0,R0,_⟩:= own_row (D:= bK) hO (by omega)
 have T:= hideP (idxB_at a0 c0 zs w R0.row fn hok)
 have eg:= fn.enters
 have FN:= hideP fn.does
 rcases own_blk (D:= bK) hO with ⟨rfl,rfl⟩ | ⟨g,c,rfl,hg0,hcap,hcm,hB⟩
 ·cases hv0
  clear hO R0
  go_enter Tryz.func222,Tryz.ntmps222
  go_wp2_with fail
  refine T.out.mono ?_
  rintro e w1 ⟨⟨rfl,_⟩ | ⟨i,hi,rfl,_⟩,b1⟩
  ·go_wp2_with fail
   go_ret
   exact ⟨⟨none,0,rfl,RowT.nil _ _ _,From.none _⟩,b1.mono hb,NoB.below b1⟩
  ·simp at hi
 ·cases hv0
  obtain ⟨cur0,hcur0,_⟩:= id hB
  have KB: ∀ W,But g w W → NoB w W:= fun W h => NoB.but h hcur0
  clear hO R0
  go_enter Tryz.func222,Tryz.ntmps222
  go_wp2_with fail
  refine T.out.mono ?_
  rintro e w1 ⟨hcase,b1⟩
  rcases hcase with ⟨rfl,hall⟩ | ⟨i,hi,rfl,hyes,hbefore⟩
  ·have hf: Hid (zs.filter (fun b => !q b) = zs):= List.filter_eq_self.2 fun z h => by rw [hall z h];rfl
   clear hall
   go_wp2_with fail
   go_ret
   rw [hf.out]
   exact ⟨⟨_,_,rfl,(hB.next b1).row hcap (by omega),fun ad ha => by cases ha;exact hg0⟩,b1.mono hb,NoB.below b1⟩
  ·have hst: Hid ((zs.take (i + 1)).filter (fun b => !q b) = zs.take i):= by
    show _ = _
    rw [List.take_succ_eq_append_getElem hi,List.filter_append,List.filter_eq_self.2 fun z h => by rw [hbefore z h];rfl]
    simp [hyes]
   clear hyes hbefore
   have hne: ((i: Int) == -1) = false:= by rw [beq_eq_false_iff_ne];omega
   go_wp2_with fail
   have hli: (zs.take i).length = i:= by rw [List.length_take];omega
   go_loopw [5,6,7] (fun v5 v6 _ wr => ∃ (t: Nat) (L: List Bd),i < t ∧ t ≤ zs.length ∧ v6 = .int .i64 (t: Int) ∧ v5 = .int .i64 (L.length: Int) ∧ Hid (L = (zs.take t).filter fun b => !q b) ∧ L.length < t ∧ Blk bK 143 wr g (L ++ zs.drop L.length) ∧ But g w wr) (fun _ v6 _ _ => zs.length - (RowKit.intOf v6).toNat)
   case atStart => exact ⟨i + 1,zs.take i,by omega,by omega,by simp,by rw [hli],hst.out.symm,by omega,by rw [hli,List.take_append_drop];exact hB.next b1,But.of_below b1⟩
   case round =>
    obtain ⟨t,L,hit,ht,rfl,rfl,hL,hLl,hR,hbut⟩:= hrel
    have hRl: (L ++ zs.drop L.length).length = zs.length:= by simp;omega
    by_cases hlt: t < zs.length
    ·have q1: (t: Int) < (zs.length: Int):= by omega
     have rt: wr.rangeAt g (t * 4) (bv (zs[t]'hlt)):= by
      have:= hR.range t (by omega)
      rw [midB_get zs L t hlt (by omega)] at this
      exact this
     have hfil: Hid ((zs.take (t + 1)).filter (fun b => !q b) = (zs.take t).filter (fun b => !q b) ++ [zs[t]'hlt].filter fun b => !q b):= by
      show _ = _
      rw [List.take_succ_eq_append_getElem hlt,List.filter_append]
     have T2:= hideP (fun W h => FN.out (zs[t]'hlt) W (hok _ (List.getElem_mem hlt)) ((KB wr hbut).trans h))
     have YE: Hid (q (zs[t]'hlt) = false → L ++ [zs[t]'hlt] = (zs.take (t + 1)).filter fun b => !q b):= fun h => by
      rw [hfil.out,← hL.out];simp [h]
     have NO: Hid (q (zs[t]'hlt) = true → L = (zs.take (t + 1)).filter fun b => !q b):= fun h => by
      rw [hfil.out,← hL.out];simp [h]
     have iQ: (Tryz.prog.info? 143).map (·.size) = some (bv (zs[t]'hlt)).length:= iB4
     generalize q (zs[t]'hlt) = yn at T2 YE NO
     generalize (zs[t]'hlt) = p at T2 rt iQ YE
     have H1:= heap_alloc_new wr (.cells #[.string { data:= #[] },.bool false,.int .i64 0,.string { data:= #[] }] 143)
     clear hL hfil FN
     go_wp2_with (first
      | (refine wpList_load_mid rfl 143 _ rfl g (t * 4) rfl (bv p) _ rt Tryz.underlying143 rfl iQ ?_)
      | (refine wpList_store_all rfl 143 _ _ rfl wr.heap.size 4 _ 143 (bv p) rfl rfl H1 rfl rfl iB4 rfl ?_;intro w2 H2 b2;have B2:= below_tok b2)
      | (refine wpList_load_all rfl 143 _ rfl wr.heap.size 4 143 (bv p) _ rfl H2 rfl Tryz.underlying143 rfl iB4 ?_))
     refine (T2.out _ (NoB.below B2)).mono ?_
     rintro e w3 ⟨rfl,b3⟩
     have B3:= Below.then B2 b3
     have R3:= hR.next B3
     have H3:= below_heap b3 H2
     have M3:= hbut.below B3
     cases yn with
     | false =>
      have Y:= hideP (YE.out rfl)
      have hl: L.length < (L ++ zs.drop L.length).length:= by rw [hRl];omega
      have S3: Blk bK 143 (w3.setCells g (L.length * 4) (bv p)) g ((L ++ [p]) ++ zs.drop (L ++ [p]).length):= by
       rw [← midB_set zs L p (by omega)]
       exact R3.set L.length hl p
      have M4: But g w (w3.setCells g (L.length * 4) (bv p)):= M3.trans (But.cells (bv p) (L.length * 4) _ (But.refl g w3))
      have y1: (L ++ [p]).length = L.length + 1:= by simp
      have Y1:= hideP y1
      clear y1
      have th: w3.there g (L.length * 4) 4:= R3.there (L.length * 4) 4 (by rw [hRl];show L.length * 4 + 4 ≤ zs.length * 4;omega)
      have hq: (L.length: Int) < (zs.length: Int):= by omega
      clear YE NO
      have HRl:= hideP hRl
      clear hRl
      have hS3:= hideP S3
      have hM4:= hideP M4
      clear S3 M4
      go_wp2_with (first
       | (refine wpList_load_all rfl 143 _ rfl wr.heap.size 4 143 (bv p) _ rfl (by with_reducible exact H3) rfl Tryz.underlying143 rfl iB4 ?_)
       | (refine wpList_store_lst (by rfl) 143 _ _ (by rfl) g (L.length * 4) 4 (bv p) (by rfl) (by rfl) (by with_reducible exact th) (by rfl) iB4 (by rfl) ?_))
      go_roundw
      case rel => exact ⟨t + 1,L ++ [p],by omega,by omega,rfl,(by rw [Y1.out];rfl),Y,(by rw [Y1.out];omega),hS3.out,hM4.out⟩
      case measure => simp [RowKit.intOf];omega
     | true =>
      have Y:= hideP (NO.out rfl)
      clear YE NO
      go_wp2_with fail
      go_roundw
      case rel => exact ⟨t + 1,L,by omega,by omega,rfl,rfl,Y,by omega,R3,M3⟩
      case measure => simp [RowKit.intOf];omega
    ·have q1: ¬ (t: Int) < (zs.length: Int):= by omega
     have qd: L.length < zs.length:= by omega
     obtain ⟨Z,hZ,hcl⟩:= clear_binds wr g (L.length * 4) (zs.length - L.length) (c0 - L.length) (by omega) (hR.there (L.length * 4) ((zs.length - L.length) * 4) (by rw [hRl];show L.length * 4 + (zs.length - L.length) * 4 ≤ zs.length * 4;omega))
     have qe: (L.length: Int) ≤ (zs.length: Int):= by omega
     have qf: ¬ c0 = L.length:= by omega
     have qg: (L.length: Int) ≤ (c0: Int):= by omega
     have HL: Hid (zs.filter (fun b => !q b) = L):= by show _ = _;rw [hL.out,List.take_of_length_le (by omega)]
     have S3:= hR.tail Z (by rw [hZ,List.length_drop];exact Nat.le_refl _)
     clear hL FN
     go_wp2_with fail
     go_ret
     rw [HL.out]
     have M3:= hbut.cells Z (L.length * 4) _
     exact ⟨⟨_,_,rfl,S3.row (by omega) (by omega),fun ad ha => by cases ha;exact hg0⟩,M3.lower hg0 hb,KB _ M3⟩
end Go.Proofs.YtpdmmmdkpipmkaaGreatDoor
namespace Go.Proofs.YtpdmmmdkpipmkaaGreatDoor
open Go.RowKit Go.Lib Go.Shelf
theorem mclip_at (a: Option Addr) (c: Nat) (L: List Bd) (w: World) (h: Row bK w a c L): Calls Tryz.prog 189 #[.slice a L.length c] w fun e w' => e = .returned (.slice a L.length L.length) ∧ w = w':= by
 have hr:= h.room
 have few:= h.few
 cases a with
 | none =>
  obtain ⟨rfl,rfl⟩:= h.void rfl
  go_enter Tryz.func189,Tryz.ntmps189
  go_wp2_with fail
  go_ret
  exact ⟨rfl,rfl⟩
 | some ad =>
  have q0: (L.length: Int) ≤ (c: Int):= by omega
  go_enter Tryz.func189,Tryz.ntmps189
  go_wp2_with fail
  go_ret
  exact ⟨rfl,rfl⟩
theorem tv3_cells {w: World} {b: Nat} {k: K} {T: TypeId} (H: w.heap[b]? = some (.cells (kv k).toArray T)): w.cell? ⟨b,0,none⟩ = some (.bool k.num) ∧ w.cell? ⟨b,1,none⟩ = some (.int .i64 k.n) ∧ w.cell? ⟨b,2,none⟩ = some (str k.s):= by
 refine ⟨?_, ?_, ?_⟩ <;> (rw [heap_cell H];rfl)
theorem lv_cells10 {w: World} {b: Nat} {y: Lv} (H: w.heap[b]? = some (.cells (lv y).toArray 52)):
 w.cell? ⟨b,0,none⟩ = some (str y.by_.v) ∧ w.cell? ⟨b,1,none⟩ = some (.bool y.by_.k.num) ∧ w.cell? ⟨b,2,none⟩ = some (.int .i64 y.by_.k.n) ∧ w.cell? ⟨b,3,none⟩ = some (str y.by_.k.s) ∧ w.cell? ⟨b,4,none⟩ = some (str y.pred) ∧ w.cell? ⟨b,5,none⟩ = some (.slice y.a y.args.length y.cap) ∧
 w.cell? ⟨b,6,none⟩ = some (str y.at_.v) ∧ w.cell? ⟨b,7,none⟩ = some (.bool y.at_.k.num) ∧ w.cell? ⟨b,8,none⟩ = some (.int .i64 y.at_.k.n) ∧ w.cell? ⟨b,9,none⟩ = some (str y.at_.k.s):= by
 refine ⟨?_, ?_, ?_, ?_, ?_, ?_, ?_, ?_, ?_, ?_⟩ <;> (rw [heap_cell H];rfl)
def Cl3 (S: Nat) (home: Tm) (y: Lv) (x: Fv) (W: World): Prop:=
 W.cell? ⟨S,0,none⟩ = some (str home.v) ∧ W.cell? ⟨S,1,none⟩ = some (.bool home.k.num) ∧ W.cell? ⟨S,2,none⟩ = some (.int .i64 home.k.n) ∧ W.cell? ⟨S,3,none⟩ = some (str home.k.s) ∧
 W.cell? ⟨S + 1,0,none⟩ = some (str y.by_.v) ∧ W.cell? ⟨S + 1,1,none⟩ = some (.bool y.by_.k.num) ∧ W.cell? ⟨S + 1,2,none⟩ = some (.int .i64 y.by_.k.n) ∧ W.cell? ⟨S + 1,3,none⟩ = some (str y.by_.k.s) ∧ W.cell? ⟨S + 1,4,none⟩ = some (str y.pred) ∧ W.cell? ⟨S + 1,5,none⟩ = some (.slice y.a y.args.length y.cap) ∧
 W.cell? ⟨S + 1,6,none⟩ = some (str y.at_.v) ∧ W.cell? ⟨S + 1,7,none⟩ = some (.bool y.at_.k.num) ∧ W.cell? ⟨S + 1,8,none⟩ = some (.int .i64 y.at_.k.n) ∧ W.cell? ⟨S + 1,9,none⟩ = some (str y.at_.k.s) ∧
 W.cell? ⟨S + 2,0,none⟩ = some (str x.at_) ∧ W.cell? ⟨S + 2,1,none⟩ = some (str x.by_) ∧ W.cell? ⟨S + 2,2,none⟩ = some (str x.pred) ∧ W.cell? ⟨S + 2,3,none⟩ = some (.slice x.a x.ks.length x.cap)
theorem cl3_of {S: Nat} {home: Tm} {y: Lv} {x: Fv} {W: World} (h0: W.heap[S]? = some (.cells (tv home).toArray 44)) (h1: W.heap[S + 1]? = some (.cells (lv y).toArray 52)) (h2: W.heap[S + 2]? = some (.cells (fv x).toArray 37)): Cl3 S home y x W:= by
 obtain ⟨c1,c2,c3,c4⟩:= tv_cells h0
 obtain ⟨d1,d2,d3,d4,d5,d6,d7,d8,d9,d10⟩:= lv_cells10 h1
 obtain ⟨e1,e2,e3,e4⟩:= fv_cells h2
 exact ⟨c1,c2,c3,c4,d1,d2,d3,d4,d5,d6,d7,d8,d9,d10,e1,e2,e3,e4⟩
end Go.Proofs.YtpdmmmdkpipmkaaGreatDoor
namespace Go.Proofs.YtpdmmmdkpipmkaaGreatDoor
open Go.RowKit Go.Lib Go.Shelf
theorem ownsRow_base {w: World} {base base': Nat} {e: TypeId} {size: Nat} {v: Value} {n: Nat} {xs: List Value} (h: w.ownsRow base e size v n xs) (hb: base' ≤ base): w.ownsRow base' e size v n xs:= by
 obtain ⟨h1,h2⟩:= h
 refine ⟨h1, ?_⟩
 rcases h2 with h2 | ⟨g,cap,cur,hv,hg,r⟩
 ·exact .inl h2
 ·exact .inr ⟨g,cap,cur,hv,Nat.le_trans hb hg,r⟩
theorem mownO_at (a: Option Addr) (c: Nat) (L: List Bd) (w: World) (h: Row bK w a c L) (hf: L.length ≤ 1000000): Calls Tryz.prog 190 #[.slice a L.length c] w fun e w' => (∃ v',e = .returned v' ∧ w'.ownsRow w.heap.size 143 bK.k v' L.length (L.flatMap bK.enc)) ∧ Below w.heap.size w w':= by
 have o0: w.ownsRow w.heap.size 143 bK.k (.slice none 0 0) ([]: List Bd).length (([]: List Bd).flatMap bK.enc):= World.ownsRow_nil _ _ _ _
 go_enter Tryz.func190,Tryz.ntmps190
 go_wp2_with (at_builtin;refine wpList_append_rec bK w rfl _ _ 107 143 rfl _ 48 Tryz.underlying107 Tryz.iB rfl (by decide) w.heap.size (.slice none 0 0) [] L a L.length c rfl o0 rfl rfl h (Nat.le_refl _) (by simp only [List.length_nil];omega) ?_;intro v5 w5 o5 g5;obtain ⟨a5,c5,rfl,R5,_⟩:= own_row (D:= bK) (xs:= [] ++ L) o5 (by simp only [List.nil_append];omega))
 go_ret
 exact ⟨⟨_,rfl,by simpa using o5⟩,own_below o0 g5 (Nat.le_refl _)⟩
theorem mLiteralO_at (home: Tm) (y: Lv) (x: Fv) (a: Option Addr) (c: Nat) (L: List Bd) (w: World) (h: Row bK w a c L) (hf: L.length + y.args.length ≤ 800000) (hy: Lv.Aw w y) (hx: Fv.At w x):
 Calls Tryz.prog 221 #[tval home,lval y,x.val,.slice a L.length c] w fun e w' => (∃ a' c',e = .returned (.tuple #[.slice a' (litE home y.l x.f L).length c',.bool (litB home y.l x.f L)]) ∧ w'.ownsRow w.heap.size 143 bK.k (.slice a' (litE home y.l x.f L).length c') (litE home y.l x.f L).length ((litE home y.l x.f L).flatMap bK.enc)) ∧ Below w.heap.size w w':= by
 obtain ⟨h0,h1,h2,A0⟩:= boxes3 w (.cells #[str home.v,.bool home.k.num,.int .i64 home.k.n,str home.k.s] 44) (.cells #[str y.by_.v,.bool y.by_.k.num,.int .i64 y.by_.k.n,str y.by_.k.s,str y.pred,.slice y.a y.args.length y.cap,str y.at_.v,.bool y.at_.k.num,.int .i64 y.at_.k.n,str y.at_.k.s] 52) (.cells #[str x.at_,str x.by_,str x.pred,.slice x.a x.ks.length x.cap] 37)
 have UL: (litE home y.l x.f L).length ≤ L.length + (y.args.length + 2):= litE_len home y.l x.f L
 go_enter Tryz.func221,Tryz.ntmps221
 go_wp2_with fail
 generalize hW: ((w.alloc (.cells #[str home.v,.bool home.k.num,.int .i64 home.k.n,str home.k.s] 44)).alloc (.cells #[str y.by_.v,.bool y.by_.k.num,.int .i64 y.by_.k.n,str y.by_.k.s,str y.pred,.slice y.a y.args.length y.cap,str y.at_.v,.bool y.at_.k.num,.int .i64 y.at_.k.n,str y.at_.k.s] 52)).alloc (.cells #[str x.at_,str x.by_,str x.pred,.slice x.a x.ks.length x.cap] 37) = W at *
 have gD:= (Below.refl W.heap.size W).drew
 have Ad:= Below.then A0 gD
 have H0:= below_heap gD h0
 have H1:= below_heap gD h1
 have H2:= below_heap gD h2
 have Rd:= h.below Ad (Nat.le_refl _)
 have TC:= hideP (mclip_at a c L _ Rd)
 have EN: EnvAt W.drew.heap.size W.drew (.slice a L.length L.length) L:= EnvAt.full fun W' hW' => by
  have:= Rd.below hW' (Nat.le_refl _)
  exact ⟨Nat.le_refl _,this.few,fun hn => by
   have h9:= (this.void hn).1
   exact ⟨h9,by rw [h9];rfl⟩,this.cells⟩
 have TU:= hideP (mliteral_at home y x W.drew.heap.size a L.length L W.drew EN (Nat.le_refl _) (by omega) (fun W' hW' => (hy.below Ad (Nat.le_refl _)).below hW' (Nat.le_refl _)) (fun W' hW' => (hx.below Ad (Nat.le_refl _)).below hW' (Nat.le_refl _)))
 clear hW h0 h1 h2 EN Rd hy hx
 go_region_held3 (fun W => W.cell? ⟨w.heap.size,0,none⟩ = some (str home.v) ∧ W.cell? ⟨w.heap.size,1,none⟩ = some (.bool home.k.num) ∧ W.cell? ⟨w.heap.size,2,none⟩ = some (.int .i64 home.k.n) ∧ W.cell? ⟨w.heap.size,3,none⟩ = some (str home.k.s) ∧
  W.cell? ⟨w.heap.size + 1,0,none⟩ = some (str y.by_.v) ∧ W.cell? ⟨w.heap.size + 1,1,none⟩ = some (.bool y.by_.k.num) ∧ W.cell? ⟨w.heap.size + 1,2,none⟩ = some (.int .i64 y.by_.k.n) ∧ W.cell? ⟨w.heap.size + 1,3,none⟩ = some (str y.by_.k.s) ∧ W.cell? ⟨w.heap.size + 1,4,none⟩ = some (str y.pred) ∧ W.cell? ⟨w.heap.size + 1,5,none⟩ = some (.slice y.a y.args.length y.cap) ∧
  W.cell? ⟨w.heap.size + 1,6,none⟩ = some (str y.at_.v) ∧ W.cell? ⟨w.heap.size + 1,7,none⟩ = some (.bool y.at_.k.num) ∧ W.cell? ⟨w.heap.size + 1,8,none⟩ = some (.int .i64 y.at_.k.n) ∧ W.cell? ⟨w.heap.size + 1,9,none⟩ = some (str y.at_.k.s) ∧
  W.cell? ⟨w.heap.size + 2,0,none⟩ = some (str x.at_) ∧ W.cell? ⟨w.heap.size + 2,1,none⟩ = some (str x.by_) ∧ W.cell? ⟨w.heap.size + 2,2,none⟩ = some (str x.pred) ∧ W.cell? ⟨w.heap.size + 2,3,none⟩ = some (.slice x.a x.ks.length x.cap)) (first | exact cl3_of J0 J1 J2 | exact cl3_of H0 H1 H2) (first
  | (go_at_call 189;refine TC.out.mono ?_;rintro e w3 ⟨rfl,rfl⟩)
  | (go_at_call 245;refine TU.out.mono ?_;rintro e w4 ⟨⟨a4,c4,rfl,E4⟩,b4,k4⟩;have J0:= k4 44 (by decide) _ _ H0;have J1:= k4 52 (by decide) _ _ H1;have J2:= k4 37 (by decide) _ _ H2))
 have R4:= (E4.row' (by omega)).2
 have B4:= Below.then Ad b4
 have TO:= hideP (mownO_at a4 c4 _ w4 R4 (by omega))
 clear E4 TU TC k4 b4 J0 J1 J2
 go_wp2_with fail
 refine TO.out.mono ?_
 rintro e w5 ⟨⟨v5,rfl,o5⟩,b5⟩
 obtain ⟨a5,c5,rfl,R5,_⟩:= own_row (D:= bK) o5 (by omega)
 go_wp2_with fail
 go_ret2
 exact ⟨⟨a5,c5,rfl,ownsRow_base o5 B4.size⟩,Below.then B4 b5⟩
theorem mUnifyO_at (t: Tm) (k: K) (a: Option Addr) (c: Nat) (L: List Bd) (w: World) (h: Row bK w a c L) (hf: L.length ≤ 900000):
 Calls Tryz.prog 145 #[tval t,kval k,.slice a L.length c] w fun e w' => (∃ a' c',e = .returned (.tuple #[.slice a' (uniE t k L).length c',.bool (uniB t k L)]) ∧ RowT bK 143 w' a' c' (uniE t k L) ∧ From w.heap.size a') ∧ Below w.heap.size w w':= by
 obtain ⟨h0,h1,A0⟩:= boxes2 w (.cells #[str t.v,.bool t.k.num,.int .i64 t.k.n,str t.k.s] 44) (.cells #[.bool k.num,.int .i64 k.n,str k.s] 42)
 have UL:= uniE_len t k L
 go_enter Tryz.func145,Tryz.ntmps145
 go_wp2_with fail
 generalize hW: (w.alloc (.cells #[str t.v,.bool t.k.num,.int .i64 t.k.n,str t.k.s] 44)).alloc (.cells #[.bool k.num,.int .i64 k.n,str k.s] 42) = W at *
 have gD:= (Below.refl W.heap.size W).drew
 have Ad:= Below.then A0 gD
 have H0:= below_heap gD h0
 have H1:= below_heap gD h1
 have Rd:= h.below Ad (Nat.le_refl _)
 have K2: ∀ W: World,W.heap[w.heap.size]? = some (.cells (tv t).toArray 44) → W.heap[w.heap.size + 1]? = some (.cells (kv k).toArray 42) → (W.cell? ⟨w.heap.size,0,none⟩ = some (str t.v) ∧ W.cell? ⟨w.heap.size,1,none⟩ = some (.bool t.k.num) ∧ W.cell? ⟨w.heap.size,2,none⟩ = some (.int .i64 t.k.n) ∧ W.cell? ⟨w.heap.size,3,none⟩ = some (str t.k.s) ∧ W.cell? ⟨w.heap.size + 1,0,none⟩ = some (.bool k.num) ∧ W.cell? ⟨w.heap.size + 1,1,none⟩ = some (.int .i64 k.n) ∧ W.cell? ⟨w.heap.size + 1,2,none⟩ = some (str k.s)):= fun W g0 g1 => by
  obtain ⟨c1,c2,c3,c4⟩:= tv_cells g0
  obtain ⟨d1,d2,d3⟩:= tv3_cells g1
  exact ⟨c1,c2,c3,c4,d1,d2,d3⟩
 have HK2:= hideP K2
 have TC:= hideP (mclip_at a c L _ Rd)
 have EN: EnvAt W.drew.heap.size W.drew (.slice a L.length L.length) L:= EnvAt.full fun W' hW' => by
  have:= Rd.below hW' (Nat.le_refl _)
  exact ⟨Nat.le_refl _,this.few,fun hn => by
   have h9:= (this.void hn).1
   exact ⟨h9,by rw [h9];rfl⟩,this.cells⟩
 have TU:= hideP (munify_at t k W.drew.heap.size a L.length L W.drew EN (Nat.le_refl _) (by omega))
 clear K2 hW h0 h1 EN Rd
 go_region_held3 (fun W => W.cell? ⟨w.heap.size,0,none⟩ = some (str t.v) ∧ W.cell? ⟨w.heap.size,1,none⟩ = some (.bool t.k.num) ∧ W.cell? ⟨w.heap.size,2,none⟩ = some (.int .i64 t.k.n) ∧ W.cell? ⟨w.heap.size,3,none⟩ = some (str t.k.s) ∧ W.cell? ⟨w.heap.size + 1,0,none⟩ = some (.bool k.num) ∧ W.cell? ⟨w.heap.size + 1,1,none⟩ = some (.int .i64 k.n) ∧ W.cell? ⟨w.heap.size + 1,2,none⟩ = some (str k.s)) (first | exact HK2.out _ J0 J1 | exact HK2.out _ H0 H1) (first
  | (go_at_call 189;refine TC.out.mono ?_;rintro e w3 ⟨rfl,rfl⟩)
  | (go_at_call 188;refine TU.out.mono ?_;rintro e w4 ⟨⟨a4,c4,rfl,E4⟩,b4,k4⟩;have J0:= k4 44 (by decide) _ _ H0;have J1:= k4 42 (by decide) _ _ H1))
 have R4:= (E4.row' (by omega)).2
 have B4:= Below.then Ad b4
 have TO:= hideP (mownO_at a4 c4 _ w4 R4 (by omega))
 clear E4 TU TC HK2 k4 b4 J0 J1
 go_wp2_with fail
 refine TO.out.mono ?_
 rintro e w5 ⟨⟨v5,rfl,o5⟩,b5⟩
 obtain ⟨a5,c5,rfl,R5,F5⟩:= own_row (D:= bK) o5 (by omega)
 go_wp2_with fail
 go_ret2
 exact ⟨⟨a5,c5,rfl,R5,From.mono F5 B4.size⟩,Below.then B4 b5⟩
end Go.Proofs.YtpdmmmdkpipmkaaGreatDoor
