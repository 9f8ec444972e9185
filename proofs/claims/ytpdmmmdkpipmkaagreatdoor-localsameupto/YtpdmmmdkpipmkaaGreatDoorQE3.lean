/-
  Rules in memory of which nothing but their cells is known; whether two terms, literals, rules are the same.
-/
import Derived.Deep.QuietTactic
import Derived.BigQuiet
import Derived.Deep.LoopGhost
import Derived.Laws.StructEq
import Derived.Deep.RegionWith
import Derived.Deep.RegionHeld3
import Derived.Test.YtpdmmmdkpipmkaaGreatDoorQLb
import Derived.Test.YtpdmmmdkpipmkaaGreatDoorQMc
set_option maxRecDepth 100000
set_option maxHeartbeats 1000000
namespace Go.Proofs.YtpdmmmdkpipmkaaGreatDoor
open Go.RowKit Go.Lib Go.Shelf
def Lv.Aw (w: World) (x: Lv): Prop:= Row tK w x.a x.cap x.args
structure Rv.Aw (w: World) (x: Rv): Prop where
 args: Row tK w x.a x.cap x.args
 body: Row lK w x.ba x.bcap x.body
 each: ∀ l ∈ x.body,Lv.Aw w l
theorem Lv.Aw.below {w w': World} {x: Lv} {B: Nat} (h: Lv.Aw w x) (hb: Below B w w') (hB: w.heap.size ≤ B): Lv.Aw w' x:= Row.below h hb hB
theorem Rv.Aw.below {w w': World} {x: Rv} {B: Nat} (h: Rv.Aw w x) (hb: Below B w w') (hB: w.heap.size ≤ B): Rv.Aw w' x:= ⟨h.args.below hb hB,h.body.below hb hB,fun l hl => (h.each l hl).below hb hB⟩
theorem Rv.At.aw {w: World} {x: Rv} (h: Rv.At w x): Rv.Aw w x:= ⟨h.args.row,h.body.row,fun l hl => (show RowT tK _ _ _ _ _ from h.each l hl).row⟩
structure Rws (w: World) (a: Option Addr) (c: Nat) (xs: List Rv): Prop where
 row: Row rK w a c xs
 each: ∀ x ∈ xs,Rv.Aw w x
theorem Rws.below {w w': World} {a: Option Addr} {c: Nat} {xs: List Rv} (h: Rws w a c xs) (hb: Below w.heap.size w w'): Rws w' a c xs:= ⟨h.row.below hb (Nat.le_refl _),fun x hx => (h.each x hx).below hb (Nat.le_refl _)⟩
def sameT (t u: Tm): Bool:= (t.v == u.v) && ((t.k.num == u.k.num) && ((t.k.n == u.k.n) && (t.k.s == u.k.s)))
theorem sameT_iff (t u: Tm): sameT t u = true ↔ t = u:= by
 obtain ⟨v,⟨a,b,c⟩⟩:= t;obtain ⟨v',⟨a',b',c'⟩⟩:= u
 simp [sameT]
def sameK (k k': K): Bool:= (k.num == k'.num) && ((k.n == k'.n) && (k.s == k'.s))
theorem eqConst (k k': K) (d: Nat) (w: World): (Op.equalIn (d + 2) 42 (.agg #[.bool k.num,.int .i64 k.n,str k.s]) (.agg #[.bool k'.num,.int .i64 k'.n,str k'.s])).run Tryz.prog w = .ok (sameK k k') w:= by
 rw [run_equalIn_struct w (d + 1) 42 _ _ (by kernel_rfl) (by kernel_rfl)]
 simp only [Program.fieldsOf,Tryz.underlying42,Op.eqFields]
 simp [part,Tryz.isAgg4,Tryz.isAgg3,Tryz.isAgg9,run_equalIn_bool' w d _ _ _ Tryz.underlying4,run_equalIn_int w d _ _ _ _ _ Tryz.underlying3,run_equalIn_string w d _ _ _ Tryz.underlying9,sameK]
 by_cases h1: k.num = k'.num <;> by_cases h2: k.n = k'.n <;> by_cases h3: k.s = k'.s <;> simp [h1,h2,h3]
theorem eqTerm (t u: Tm) (w: World): (Op.equalIn 10000 44 (tval t) (tval u)).run Tryz.prog w = .ok (sameT t u) w:= by
 rw [run_equalIn_struct w 9999 44 _ _ (by kernel_rfl) (by kernel_rfl)]
 simp only [Program.fieldsOf,Tryz.underlying44,Op.eqFields]
 have hc:= eqConst t.k u.k 9997 w
 simp [part,Tryz.isAgg9,Tryz.isAgg42,Tryz.sizeOf42,run_equalIn_string w 9998 _ _ _ Tryz.underlying9,hc]
 by_cases h1: t.v = u.v <;> cases h2: sameK t.k u.k <;> simp [sameT,h1] <;> simpa [sameK] using h2
end Go.Proofs.YtpdmmmdkpipmkaaGreatDoor
namespace Go.Proofs.YtpdmmmdkpipmkaaGreatDoor
open Go.RowKit Go.Sort
theorem own_below {w w': World} {base: Nat} {e: TypeId} {k: Nat} {v: Value} {n: Nat} {xs: List Value} (hown: w.ownsRow base e k v n xs) (hg: w.grownBy w' v.ownBlock) (hb: base ≤ w.heap.size): Below base w w':=
 (Below.refl _ _).grown hg hb (fun j hj => by
   rcases hown.2 with ⟨h0,_⟩ | ⟨g',c',cur,hv,hgg,_⟩
   ·rw [h0] at hj;cases hj
   ·rw [hv] at hj;cases hj;exact hgg)
end Go.Proofs.YtpdmmmdkpipmkaaGreatDoor
namespace Go.Proofs.YtpdmmmdkpipmkaaGreatDoor
open Go.RowKit Go.Lib Go.Shelf
def sK: Kd (List UInt8):= ⟨fun s => [str s],1,fun _ => rfl,fun _ => rfl,by decide⟩
theorem Row.take {α: Type} {D: Kd α} {w: World} {a: Option Addr} {cap: Nat} {xs: List α} (h: Row D w a cap xs) (k: Nat): Row D w a cap (xs.take k):= by
 refine ⟨Nat.le_trans (by simp;omega) h.room,Nat.le_trans (by simp;omega) h.few,fun ha => ?_,fun ad ha j u hu => h.cells ad ha j u ?_⟩
 ·obtain ⟨rfl,hc⟩:= h.void ha
  exact ⟨by simp,hc⟩
 ·have e: xs.flatMap D.enc = (xs.take k).flatMap D.enc ++ (xs.drop k).flatMap D.enc:= by rw [← List.flatMap_append,List.take_append_drop]
  rw [e,List.getElem?_append_left (List.getElem?_eq_some_iff.1 hu).1]
  exact hu
theorem Row.text {w: World} {b o cap: Nat} {N: List (List UInt8)} (h: Row sK w (some ⟨b,o,none⟩) cap N) (k: Nat) (hk: k < N.length): w.cell? ⟨b,o + k,none⟩ = some (str N[k]):= by
 have:= h.range k hk 0 (str N[k]) rfl
 rwa [show sK.k = 1 from rfl,Nat.mul_one,Nat.add_zero] at this
end Go.Proofs.YtpdmmmdkpipmkaaGreatDoor
namespace Go.Proofs.YtpdmmmdkpipmkaaGreatDoor
open Go.RowKit Go.Lib Go.Shelf
abbrev Bd:= List UInt8 × K
theorem Tryz.iB: (Tryz.prog.info? 143).map (fun i => (i.zero,i.size,i.bytes)) = some (some (.agg #[.string .empty,.bool false,.int .i64 0,.string .empty]),bK.k,48):= by kernel_rfl
def OwnB (base: Nat) (w: World) (v: Value) (L: List Bd): Prop:= w.ownsRow base 143 bK.k v L.length (L.flatMap bK.enc)
def EnvAt (base: Nat) (w: World) (v: Value) (L: List Bd): Prop:= OwnB base w v L ∨ ∃ b,v = .slice (some b) L.length L.length ∧ ∀ W,Below base w W → Row bK W (some b) L.length L
theorem EnvAt.nil (base: Nat) (w: World): EnvAt base w (.slice none 0 0) []:= .inl (World.ownsRow_nil _ _ _ _)
theorem EnvAt.full {base: Nat} {w: World} {a: Option Addr} {L: List Bd} (h: ∀ W,Below base w W → Row bK W a L.length L): EnvAt base w (.slice a L.length L.length) L:= by
 cases a with
 | none =>
  obtain ⟨rfl,_⟩:= (h w (Below.refl _ _)).void rfl
  exact EnvAt.nil base w
 | some b => exact .inr ⟨b,rfl,h⟩
theorem EnvAt.next {base: Nat} {w w': World} {v: Value} {L: List Bd} (h: EnvAt base w v L) (b: Below base w w') (s: Safe 143 w w'): EnvAt base w' v L:= by
 rcases h with h | ⟨ad,rfl,h⟩
 ·exact .inl (ownsRow_keep h s)
 ·exact .inr ⟨ad,rfl,fun W hW => h W (b.trans hW)⟩
theorem EnvAt.then {base: Nat} {w w': World} {v: Value} {L: List Bd} (h: EnvAt base w v L) (b: Below w.heap.size w w') (hb: base ≤ w.heap.size): EnvAt base w' v L:= h.next (b.mono hb) (Safe.below b)
theorem EnvAt.row {base: Nat} {w: World} {v: Value} {L: List Bd} (h: EnvAt base w v L) (hl: L.length ≤ 4398046510976): ∃ a c,v = .slice a L.length c ∧ Row bK w a c L:= by
 rcases h with h | ⟨ad,rfl,h⟩
 ·obtain ⟨a,c,hv,R,_⟩:= own_row (D:= bK) h hl
  exact ⟨a,c,hv,R.row⟩
 ·exact ⟨_,_,rfl,h w (Below.refl _ _)⟩
theorem EnvAt.row' {base: Nat} {w: World} {a: Option Addr} {n c: Nat} {L: List Bd} (h: EnvAt base w (.slice a n c) L) (hl: L.length ≤ 4398046510976): n = L.length ∧ Row bK w a c L:= by
 obtain ⟨a',c',e,R⟩:= h.row hl
 cases e
 exact ⟨rfl,R⟩
theorem wpList_append_env (w: World) {ops: Array Oper} {rest: List Oper} {o: Oper} {a: Act} {Q: Exit → Act → World → Prop} (hgd: o.guard = none) (s x: Operand)
 (ho: o.op = .call { callee:= .builtin .append,args:= #[s,x],argTypes:= #[107,107] })
 (base: Nat) (ao: Option Addr) (c: Nat) (L: List Bd) (bd: Bd) (ad: Addr) (hs: a.eval s = .slice ao L.length c) (hE: EnvAt base w (.slice ao L.length c) L) (hx: a.eval x = .slice (some ad) 1 1) (hl: Row bK w (some ad) 1 [bd]) (hb: base ≤ w.heap.size) (hfew: L.length ≤ 1000000)
 (h: ∀ a' c' w',EnvAt base w' (.slice a' (L ++ [bd]).length c') (L ++ [bd]) → Below base w w' → (∀ ty: TypeId,ty ≠ 143 → Safe ty w w') → wpList Tryz.prog ops Q rest (a.put o.dst (.slice a' (L ++ [bd]).length c')) w'): wpList Tryz.prog ops Q (o:: rest) a w:= by
 have hf2: (L ++ [bd]).length ≤ 4398046510976:= by simp only [List.length_append,List.length_cons,List.length_nil];omega
 rcases hE with hO | ⟨b,e,R⟩
 ·refine wpList_append_rec bK w hgd s x 107 143 ho _ 48 Tryz.underlying107 Tryz.iB rfl (by decide) base _ L [bd] (some ad) 1 1 hs hO hx rfl hl hb (by simp only [List.length_cons,List.length_nil];omega) ?_
  intro v5 w5 o5 g5
  obtain ⟨a5,c5,rfl,_,_⟩:= own_row (D:= bK) (xs:= L ++ [bd]) o5 hf2
  exact h a5 c5 w5 (.inl o5) (own_below hO g5 hb) (fun ty hn => Safe.grown hO g5 hn)
 ·obtain ⟨i0,hi,hz0,hz1,hz2⟩:= info_parts Tryz.iB
  cases e
  have R0:= R w (Below.refl _ _)
  have hn: ([bd].flatMap bK.enc).length = 1 * i0.size:= by rw [hz1,flat_len bK.enc bK.k bK.len];rfl
  have hol: (L.flatMap bK.enc).length = L.length * i0.size:= by rw [hz1,flat_len bK.enc bK.k bK.len]
  have hr:= fun ty => run_append_grow (P:= Tryz.prog) w 107 ty 143 i0 _ Tryz.underlying107 hi hz0 b L.length L.length (L.flatMap bK.enc) hol (R0.cells b rfl) ad 1 1 ([bd].flatMap bK.enc) hn (hl.cells ad rfl) (by omega) (by omega) (growslice_fits (by omega) (by rw [hz2];omega))
  refine wpList_plain hgd fun _ hK => ?_
  unfold Oper.wp execOp
  simp only [ho,resolve,invoke,builtin,Sem.run_bind,Sem.run_pure,Result.andThen_ok,List.map_toArray,List.map_cons,List.map_nil,hs,hx,hr]
  refine hK _ _ ?_
  have A: Below w.heap.size w (w.drew.alloc (.cells ((L.flatMap bK.enc).toArray ++ ([bd].flatMap bK.enc).toArray ++ Builtin.zeroCells (Value.agg #[.string .empty,.bool false,.int .i64 0,.string .empty]).cells (grownCap w (L.length + 1) L.length 143 - (L.length + 1))) 143)):= Below.then (Below.refl _ _).drew (below_alloc _ _)
  have hlen: (L ++ [bd]).length = L.length + 1:= by simp
  have hO: OwnB base (w.drew.alloc (.cells ((L.flatMap bK.enc).toArray ++ ([bd].flatMap bK.enc).toArray ++ Builtin.zeroCells (Value.agg #[.string .empty,.bool false,.int .i64 0,.string .empty]).cells (grownCap w (L.length + 1) L.length 143 - (L.length + 1))) 143)) (.slice (some ⟨w.heap.size,0,none⟩) (L ++ [bd]).length (grownCap w (L.length + 1) L.length 143)) (L ++ [bd]):= by
   have hge:= grownCap_ge w (L.length + 1) L.length 143
   have hcm: grownCap w (L.length + 1) L.length 143 ≤ maxLen:= grownCap_le_maxLen w (L.length + 1) L.length 143 (by unfold maxLen;omega)
   have hk: bK.k = 4:= rfl
   refine ⟨flat_len bK.enc bK.k bK.len _,.inr ⟨w.heap.size,_,_,rfl,hb,heap_alloc_new w.drew _,by rw [hlen];exact hge,hcm, ?_, ?_⟩⟩
   ·simp only [Array.size_append,List.size_toArray,size_zeroCells,flat_len bK.enc bK.k bK.len,List.length_cons,List.length_nil,hk]
    show L.length * 4 + (0 + 1) * 4 + (grownCap w (L.length + 1) L.length 143 - (L.length + 1)) * 4 = _
    omega
   ·simp only [Array.toList_append,List.append_assoc]
    rw [← List.append_assoc,← List.flatMap_append,hlen,show (L.length + 1) * bK.k = ((L ++ [bd]).flatMap bK.enc).length by rw [flat_len bK.enc bK.k bK.len,hlen]]
    exact List.take_left
  rw [hlen] at hO h
  exact h _ _ _ (.inl hO) (A.mono hb) (fun ty _ => Safe.below A)
end Go.Proofs.YtpdmmmdkpipmkaaGreatDoor
namespace Go.Proofs.YtpdmmmdkpipmkaaGreatDoor
open Go.RowKit Go.Lib Go.Shelf
theorem same_nul (t: Tm): sameT t ⟨[],⟨false,0,[]⟩⟩ = Mt.nul t:= by
 obtain ⟨v,⟨a,b,c⟩⟩:= t
 cases v <;> cases a <;> cases c <;> simp [sameT,Mt.nul] <;> rfl
theorem results_c1 {P: Program} {fn: Func} {p q: Tmp} {ty: TypeId} {tmps: Array Value} {w: World} {b: Nat} {C: Array Value} {d: TypeDesc} {T: TypeId} (h: fn.results = #[.cell p ty,.tmp q]) (hp: tmps.getD p undef = .pointer (some ⟨b,0,none⟩)) (hc: w.heap[b]? = some (.cells C T))
 (hu: P.underlying ty = some d) (hd: d.isRow = true) (hi: (P.info? ty).map (·.size) = some C.size): (results fn tmps).run P w = .ok (.tuple #[.agg C,tmps.getD q undef]) w:= by
 have hr: w.rangeAt b 0 C.toList:= by
  have:= World.rangeAt_of_block hc 0 C.size
  simpa using this
 simp only [Array.getD_eq_getD_getElem?] at hp ⊢
 simp only [results,h]
 simp [asAddr,hp,run_loadVar_mid w b 0 ty C.toList d hr hu hd (by simpa using hi)]
theorem mnone_at (t: Tm) (w: World): Calls Tryz.prog 197 #[tval t] w fun e w' => e = .returned (.bool (Mt.nul t)) ∧ Below w.heap.size w w':= by
 have E:= fun W => eqTerm t ⟨[],⟨false,0,[]⟩⟩ W
 simp only [same_nul] at E
 generalize Mt.nul t = r at *
 obtain ⟨v,⟨a,b,c⟩⟩:= t
 go_enter Tryz.func197,Tryz.ntmps197
 go_wp2_with fail
 go_ret
 exact ⟨rfl,below_alloc _ _⟩
theorem mtext_at (s: List UInt8) (w: World): Calls Tryz.prog 231 #[str s] w fun e w' => e = .returned (kval (Mt.nm s)) ∧ Below w.heap.size w w':= by
 have H0:= heap_alloc_new w (.cells #[.bool false,.int .i64 0,.string { data:= #[] }] 42)
 have iK: (Tryz.prog.info? 42).map (·.size) = some 3:= by kernel_rfl
 go_enter Tryz.func231,Tryz.ntmps231
 go_wp2_with (refine wpList_store_all rfl 42 _ _ rfl w.heap.size 3 _ 42 (kv (Mt.nm s)) rfl rfl H0 rfl rfl iK rfl ?_;intro w1 H1 b1)
 exact bodyPost_ret (results_cell rfl rfl H1 Tryz.underlying42 rfl iK) rfl ⟨rfl,below_tok b1⟩
theorem boxes2 (w: World) (o1 o2: Obj): ((w.alloc o1).alloc o2).heap[w.heap.size]? = some o1 ∧ ((w.alloc o1).alloc o2).heap[w.heap.size + 1]? = some o2 ∧ Below w.heap.size w ((w.alloc o1).alloc o2):= by
 have s1: (w.alloc o1).heap.size = w.heap.size + 1:= by simp
 have A0:= below_alloc w o1
 have A1:= below_alloc (w.alloc o1) o2
 have h2:= heap_alloc_new (w.alloc o1) o2
 rw [s1] at h2
 exact ⟨below_heap A1 (heap_alloc_new w o1),h2,Below.then A0 A1⟩
theorem boxes3 (w: World) (o1 o2 o3: Obj): (((w.alloc o1).alloc o2).alloc o3).heap[w.heap.size]? = some o1 ∧ (((w.alloc o1).alloc o2).alloc o3).heap[w.heap.size + 1]? = some o2 ∧ (((w.alloc o1).alloc o2).alloc o3).heap[w.heap.size + 2]? = some o3 ∧ Below w.heap.size w (((w.alloc o1).alloc o2).alloc o3):= by
 obtain ⟨h1,h2,h3⟩:= boxes2 w o1 o2
 have s1: ((w.alloc o1).alloc o2).heap.size = w.heap.size + 2:= by simp
 have A1:= below_alloc ((w.alloc o1).alloc o2) o3
 have h4:= heap_alloc_new ((w.alloc o1).alloc o2) o3
 rw [s1] at h4
 exact ⟨below_heap A1 h1,below_heap A1 h2,h4,Below.then h3 A1⟩
theorem meither_at (t u: Tm) (w: World): Calls Tryz.prog 150 #[tval t,tval u] w fun e w' => e = .returned (tval (Mt.place u t)) ∧ Below w.heap.size w w':= by
 have iT: (Tryz.prog.info? 44).map (·.size) = some 4:= by kernel_rfl
 have HP: Hid (Mt.place u t = if Mt.nul t = true then u else t):= rfl
 have N:= hideP (fun W => mnone_at t W)
 generalize Mt.place u t = r at *
 generalize Mt.nul t = q at *
 obtain ⟨v,⟨a,b,c⟩⟩:= t
 obtain ⟨v',⟨a',b',c'⟩⟩:= u
 have BX:= boxes3 w (.cells #[str v,.bool a,.int .i64 b,str c] 44) (.cells #[str v',.bool a',.int .i64 b',str c'] 44) (.cells #[.string { data:= #[] },.bool false,.int .i64 0,.string { data:= #[] }] 44)
 have HB:= hideP BX
 clear BX
 go_enter Tryz.func150,Tryz.ntmps150
 go_wp2_with fail
 refine (N.out _).mono ?_
 rintro e w1 ⟨rfl,b1⟩
 obtain ⟨h1,h2,h3,h4⟩:= HB.out
 have g1:= below_heap b1 h1
 have g2:= below_heap b1 h2
 have g3:= below_heap b1 h3
 have B:= Below.then h4 b1
 have hs3:= heap_lt g3
 clear HB h1 h2 h3 h4 b1 N
 cases q with
 | true =>
  go_wp2_with (first | (refine wpList_load_all rfl 44 _ rfl (w.heap.size + 1) 4 44 (tv ⟨v',⟨a',b',c'⟩⟩) _ rfl g2 rfl Tryz.underlying44 rfl iT ?_) | (refine wpList_store_all rfl 44 _ _ rfl (w.heap.size + 2) 4 _ 44 (tv ⟨v',⟨a',b',c'⟩⟩) rfl rfl g3 rfl rfl iT rfl ?_;intro w2 H2 b2))
  exact bodyPost_ret (results_cell rfl rfl H2 Tryz.underlying44 rfl iT) rfl ⟨by rw [HP.out];rfl,B.trans (b2.lower (by omega) (Nat.le_of_lt (by omega)))⟩
 | false =>
  go_wp2_with (first | (refine wpList_load_all rfl 44 _ rfl w.heap.size 4 44 (tv ⟨v,⟨a,b,c⟩⟩) _ rfl g1 rfl Tryz.underlying44 rfl iT ?_) | (refine wpList_store_all rfl 44 _ _ rfl (w.heap.size + 2) 4 _ 44 (tv ⟨v,⟨a,b,c⟩⟩) rfl rfl g3 rfl rfl iT rfl ?_;intro w2 H2 b2))
  exact bodyPost_ret (results_cell rfl rfl H2 Tryz.underlying44 rfl iT) rfl ⟨by rw [HP.out];rfl,B.trans (b2.lower (by omega) (Nat.le_of_lt (by omega)))⟩
theorem get_hit {v: List UInt8} {L: Mt.Env} {k: Nat} (hk: k < L.length) (h0: Mt.get v (L.take k) = none) (h1: L[k].1 = v): Mt.get v L = some L[k].2:= by
 have e: L = L.take k ++ L.drop k:= (List.take_append_drop k L).symm
 unfold Mt.get at *
 have h0': (L.take k).find? (fun b => b.1 == v) = none:= by simpa using h0
 conv => lhs;rw [e]
 rw [List.find?_append,h0',List.drop_eq_getElem_cons hk,List.find?_cons]
 simp [h1]
theorem get_miss {v: List UInt8} {L: Mt.Env} {k: Nat} (hk: k < L.length) (h0: Mt.get v (L.take k) = none) (h1: L[k].1 ≠ v): Mt.get v (L.take (k + 1)) = none:= by
 unfold Mt.get at *
 have h0': (L.take k).find? (fun b => b.1 == v) = none:= by simpa using h0
 rw [List.take_succ_eq_append_getElem hk,List.find?_append,h0',List.find?_cons,show (L[k].1 == v) = false by simpa using h1]
 rfl
theorem mclosure_at (b: Bd) (p: Nat) (v: List UInt8) (w: World) (hp: w.cell? ⟨p,0,none⟩ = some (str v)): Calls Tryz.prog 233 #[bval b,ptr p] w fun e w' => e = .returned (.bool (b.1 == v)) ∧ Below w.heap.size w w':= by
 obtain ⟨x,⟨a,n,s⟩⟩:= b
 have hp':= (below_alloc w (.cells #[str x,.bool a,.int .i64 n,str s] 143)).cell (cell_block hp)
 rw [hp] at hp'
 have A0:= below_alloc w (.cells #[str x,.bool a,.int .i64 n,str s] 143)
 go_enter Tryz.func233,Tryz.ntmps233
 go_wp2_with fail
 go_ret
 exact ⟨ret_bool rfl,A0⟩
theorem mindex_at (p: Nat) (v: List UInt8) (a: Option Addr) (c: Nat) (L: List Bd) (w: World) (hp: w.cell? ⟨p,0,none⟩ = some (str v)) (h: Row bK w a c L):
 Calls Tryz.prog 232 #[.slice a L.length c,.func (.func 233) #[] #[ptr p]] w fun e w' => ((∃ (k: Nat) (hk: k < L.length),e = .returned (.int .i64 (k: Int)) ∧ Mt.get v L = some L[k].2) ∨ (e = .returned (.int .i64 (-1)) ∧ Mt.get v L = none)) ∧ Below w.heap.size w w':= by
 have iB: (Tryz.prog.info? 143).map (·.size) = some 4:= by kernel_rfl
 have few:= h.few
 have eg: ∀ args w,(callFunc 233 args).run Tryz.prog w = .ok (.enter 233 args) w:= enters_of Tryz.func233 (by kernel_rfl) rfl
 go_enter Tryz.func232,Tryz.ntmps232
 go_wp2_with fail
 go_loopw [5,8] (fun _ u wr => ∃ k: Nat,u = .int .i64 (k: Int) ∧ k ≤ L.length ∧ Hid (Mt.get v (L.take k) = none) ∧ Below w.heap.size w wr) (fun _ u _ => L.length - (RowKit.intOf u).toNat)
 case atStart => exact ⟨0,rfl,by omega,hideP (by simp [Mt.get]),Below.refl _ _⟩
 case round =>
  obtain ⟨k,rfl,hk,hno,B⟩:= hrel
  have hp2: wr.cell? ⟨p,0,none⟩ = some (str v):= by rw [B.cell (cell_block hp)];exact hp
  by_cases hlt: k < L.length
  ·have q0: (k: Int) < (L.length: Int):= by omega
   obtain ⟨P1,O1,rfl⟩:= h.addr (by omega)
   have r1: wr.rangeAt P1 (O1 + k * 4) (bv (L[k]'hlt)):= (h.below B (Nat.le_refl _)).range k hlt
   have YE: Hid ((L[k]'hlt).1 = v → Mt.get v L = some (L[k]'hlt).2):= fun h1 => get_hit hlt hno.out h1
   have NO: Hid ((L[k]'hlt).1 ≠ v → Mt.get v (L.take (k + 1)) = none):= fun h1 => get_miss hlt hno.out h1
   have T:= hideP (mclosure_at (L[k]'hlt) p v wr hp2)
   have iQ: (Tryz.prog.info? 143).map (·.size) = some (bv (L[k]'hlt)).length:= iB
   generalize hb: (L[k]'hlt) = b at *
   have Hb:= hideP hb
   clear hb hno
   by_cases he: b.1 = v
   ·rw [show (b.1 == v) = true by simpa using he] at T
    have Y:= hideP (YE.out he)
    clear he YE NO
    go_wp2_with (refine wpList_load_mid rfl 143 _ rfl P1 (O1 + k * 4) rfl (bv b) _ r1 Tryz.underlying143 rfl iQ ?_)
    refine T.out.mono ?_
    rintro e w1 ⟨rfl,b1⟩
    go_wp2_with fail
    go_ret
    exact ⟨.inl ⟨k,hlt,rfl,by rw [Hb.out];exact Y.out⟩,Below.then B b1⟩
   ·rw [show (b.1 == v) = false by simpa using he] at T
    have Y:= hideP (NO.out he)
    clear he YE NO
    go_wp2_with (refine wpList_load_mid rfl 143 _ rfl P1 (O1 + k * 4) rfl (bv b) _ r1 Tryz.underlying143 rfl iQ ?_)
    refine T.out.mono ?_
    rintro e w1 ⟨rfl,b1⟩
    go_wp2_with fail
    exact ⟨⟨k + 1,by go_num,hlt,Y,Below.then B b1⟩,by simp [RowKit.intOf];omega⟩
  ·have q0: ¬ (k: Int) < (L.length: Int):= by omega
   rw [List.take_of_length_le (by omega)] at hno
   go_wp2_with fail
   go_ret
   exact ⟨.inr ⟨rfl,hno.out⟩,B⟩
end Go.Proofs.YtpdmmmdkpipmkaaGreatDoor
namespace Go.Proofs.YtpdmmmdkpipmkaaGreatDoor
open Go.RowKit Go.Lib Go.Shelf
def valK (t: Tm) (L: Mt.Env): K:= (Mt.val t L).getD k0
def valB (t: Tm) (L: Mt.Env): Bool:= (Mt.val t L).isSome
theorem nul_k {t: Tm} (h: Mt.nul t = true): t.k = k0:= by
 obtain ⟨v,⟨a,n,s⟩⟩:= t
 unfold Mt.nul at h
 simp at h
 obtain ⟨_,⟨rfl,rfl⟩,rfl⟩:= h
 rfl
theorem val_const {t: Tm} (L: Mt.Env) (h: t.v = []): valK t L = t.k ∧ valB t L = !Mt.nul t:= by
 unfold valK valB Mt.val
 rw [if_pos h]
 cases hq: Mt.nul t with
 | true => simp;exact (nul_k hq).symm
 | false => simp
theorem val_var {t: Tm} (L: Mt.Env) (h: t.v ≠ []): valK t L = (Mt.get t.v L).getD k0 ∧ valB t L = (Mt.get t.v L).isSome:= by
 unfold valK valB Mt.val
 rw [if_neg (by rw [Mt.nul_v h];decide),if_neg h]
 exact ⟨rfl,rfl⟩
theorem set3_heap {w: World} {b k: Nat} {x y z: Value} {o: Obj} (h: w.heap[k]? = some o) (hn: k ≠ b): (((w.setCell ⟨b,0,none⟩ x).setCell ⟨b,1,none⟩ y).setCell ⟨b,2,none⟩ z).heap[k]? = some o:= by
 rw [Below.heap_setCell _ _ _ _ hn,Below.heap_setCell _ _ _ _ hn,Below.heap_setCell _ _ _ _ hn];exact h
theorem set3_same {w: World} {b: Nat} {x y z x' y' z': Value} {T: TypeId} (h: w.heap[b]? = some (.cells #[x',y',z'] T)): (((w.setCell ⟨b,0,none⟩ x).setCell ⟨b,1,none⟩ y).setCell ⟨b,2,none⟩ z).heap[b]? = some (.cells #[x,y,z] T):= by
 have h1:= heap_setCell_same w b 0 _ T x h
 have h2:= heap_setCell_same _ b 1 _ T y h1
 have h3:= heap_setCell_same _ b 2 _ T z h2
 simpa using h3
theorem set3_below {w w': World} {B b: Nat} {x y z: Value} (h: Below B w w') (hb: B ≤ b): Below B w (((w'.setCell ⟨b,0,none⟩ x).setCell ⟨b,1,none⟩ y).setCell ⟨b,2,none⟩ z):= ((h.setCell (p:= ⟨b,0,none⟩) hb x).setCell (p:= ⟨b,1,none⟩) hb y).setCell (p:= ⟨b,2,none⟩) hb z
theorem mvalue_at (t: Tm) (a: Option Addr) (c: Nat) (L: List Bd) (w: World) (h: Row bK w a c L):
 Calls Tryz.prog 196 #[tval t,.slice a L.length c] w fun e w' => e = .returned (.tuple #[kval (valK t L),.bool (valB t L)]) ∧ Below w.heap.size w w':= by
 have iK: (Tryz.prog.info? 42).map (·.size) = some 3:= by kernel_rfl
 have few:= h.few
 have N:= hideP (fun W => mnone_at t W)
 by_cases hv: t.v = []
 ·have V:= hideP (val_const L hv)
  generalize hkk: valK t L = kk at *
  generalize hbb: valB t L = bb at *
  clear hkk hbb
  obtain ⟨v,⟨x,n,s⟩⟩:= t
  simp only at hv V
  subst hv
  generalize Mt.nul ⟨[],⟨x,n,s⟩⟩ = q at *
  have BX:= boxes2 w (.cells #[str [],.bool x,.int .i64 n,str s] 44) (.cells #[.bool false,.int .i64 0,.string { data:= #[] }] 42)
  generalize hW: (w.alloc (.cells #[str [],.bool x,.int .i64 n,str s] 44)).alloc (.cells #[.bool false,.int .i64 0,.string { data:= #[] }] 42) = W at *
  have HB:= hideP BX
  clear BX
  go_enter Tryz.func196,Tryz.ntmps196
  subst hW
  go_wp2_with fail
  generalize hW: (w.alloc (.cells #[str [],.bool x,.int .i64 n,str s] 44)).alloc (.cells #[.bool false,.int .i64 0,.string { data:= #[] }] 42) = W at *
  clear hW
  obtain ⟨h1,h2,h3⟩:= HB.out
  have gD:= (Below.refl W.heap.size W).drew
  have H1:= below_heap gD h1
  have H2:= below_heap gD h2
  have d0: W.drew.cell? ⟨w.heap.size + 1,0,none⟩ = some (.bool false):= by rw [heap_cell H2];rfl
  have d1: W.drew.cell? ⟨w.heap.size + 1,1,none⟩ = some (.int .i64 0):= by rw [heap_cell H2];rfl
  have d2: W.drew.cell? ⟨w.heap.size + 1,2,none⟩ = some (.string { data:= #[] }):= by rw [heap_cell H2];rfl
  have f0: ∀ j,W.drew.frozen? ⟨w.heap.size + 1,j,none⟩ = false:= heap_frozen H2
  have K: ∀ W': World,W'.heap[w.heap.size]? = some (.cells #[str [],.bool x,.int .i64 n,str s] 44) → (W'.cell? ⟨w.heap.size,0,none⟩ = some (str []) ∧ W'.cell? ⟨w.heap.size,1,none⟩ = some (.bool x) ∧ W'.cell? ⟨w.heap.size,2,none⟩ = some (.int .i64 n) ∧ W'.cell? ⟨w.heap.size,3,none⟩ = some (str s)):= fun W' hh => by
   refine ⟨?_, ?_, ?_, ?_⟩ <;> (rw [heap_cell hh];rfl)
  have HK:= hideP K
  clear K h1 h2 HB
  go_region_held3 (fun W => W.cell? ⟨w.heap.size,0,none⟩ = some (str []) ∧ W.cell? ⟨w.heap.size,1,none⟩ = some (.bool x) ∧ W.cell? ⟨w.heap.size,2,none⟩ = some (.int .i64 n) ∧ W.cell? ⟨w.heap.size,3,none⟩ = some (str s)) (first | exact HK.out _ H1 | exact HK.out _ G1 | exact HK.out _ (set3_heap G1 (by simp))) (first
   | (go_at_call 197;refine (N.out _).mono ?_;rintro e w1 ⟨rfl,b1⟩;have G1:= below_heap b1 H1;have G2:= below_heap b1 H2;have e0: w1.cell? ⟨w.heap.size + 1,0,none⟩ = some (.bool false):= (by rw [heap_cell G2];rfl);have e1: w1.cell? ⟨w.heap.size + 1,1,none⟩ = some (.int .i64 0):= (by rw [heap_cell G2];rfl);have e2: w1.cell? ⟨w.heap.size + 1,2,none⟩ = some (.string { data:= #[] }):= (by rw [heap_cell G2];rfl);have f1: ∀ j,w1.frozen? ⟨w.heap.size + 1,j,none⟩ = false:= heap_frozen G2))
  obtain ⟨V1,V2⟩:= V.out
  subst V1 V2
  go_wp2_with fail
  exact bodyPost_ret (results_c1 rfl rfl (set3_same G2) Tryz.underlying42 rfl iK) rfl ⟨rfl,set3_below (h3.trans ((gD.trans b1).mono h3.size)) (by omega)⟩
 ·have V:= hideP (val_var L hv)
  have q0: t.v.isEmpty = false:= by simpa using hv
  generalize hkk: valK t L = kk at *
  generalize hbb: valB t L = bb at *
  clear hkk hbb N
  obtain ⟨v,⟨x,n,s⟩⟩:= t
  simp only at hv V q0
  have BX:= boxes2 w (.cells #[str v,.bool x,.int .i64 n,str s] 44) (.cells #[.bool false,.int .i64 0,.string { data:= #[] }] 42)
  have T:= hideP (mindex_at w.heap.size v a c L _ (by rw [heap_cell BX.1];rfl) (h.below BX.2.2 (Nat.le_refl _)))
  have HB:= hideP BX
  clear BX hv
  go_enter Tryz.func196,Tryz.ntmps196
  go_wp2_with fail
  refine T.out.mono ?_
  obtain ⟨h1,h2,h3⟩:= HB.out
  rintro e w1 ⟨(⟨k,hk,rfl,hg⟩ | ⟨rfl,hg⟩),b1⟩
  ·have g2:= below_heap b1 h2
   have B:= Below.then h3 b1
   have q1: ¬ (k: Int) < 0:= by omega
   have q2: (k: Int) < (L.length: Int):= by omega
   obtain ⟨P1,O1,rfl⟩:= h.addr (by omega)
   have r1:= (h.below B (Nat.le_refl _)).range k hk
   have r2: w1.rangeAt P1 (O1 + k * 4 + 1) (kv (L[k]'hk).2):= fun j u hu => by
    have hj: j < 3:= (List.getElem?_eq_some_iff.1 hu).1
    rw [Nat.add_assoc]
    refine r1 (1 + j) u ?_
    match j,hj with
    | 0,_ => exact hu
    | 1,_ => exact hu
    | 2,_ => exact hu
   obtain ⟨V1,V2⟩:= V.out
   rw [hg] at V1 V2
   generalize (L[k]'hk).2 = kc at *
   simp only [Option.getD_some,Option.isSome_some] at V1 V2
   subst V1 V2
   have iQ: (Tryz.prog.info? 42).map (·.size) = some (kv kk).length:= iK
   have hs2:= heap_lt g2
   clear V hg r1 h1 h2 h3 HB T b1
   go_wp2_with (first | (refine wpList_load_mid rfl 42 _ rfl P1 (O1 + k * 4 + 1) rfl (kv kk) _ r2 Tryz.underlying42 rfl iQ ?_) | (refine wpList_store_all rfl 42 _ _ rfl (w.heap.size + 1) 3 _ 42 (kv kk) rfl rfl g2 rfl rfl iK rfl ?_;intro w2 H2 b2))
   exact bodyPost_ret (results_c1 rfl rfl H2 Tryz.underlying42 rfl iK) rfl ⟨rfl,B.trans (b2.lower (by omega) (by omega))⟩
  ·have g2:= below_heap b1 h2
   have B:= Below.then h3 b1
   obtain ⟨V1,V2⟩:= V.out
   rw [hg] at V1 V2
   simp only [Option.getD_none,Option.isSome_none] at V1 V2
   subst V1 V2
   have hs2:= heap_lt g2
   clear V hg h1 h2 h3 HB T b1
   go_wp2_with (refine wpList_store_all rfl 42 _ _ rfl (w.heap.size + 1) 3 _ 42 (kv k0) rfl rfl g2 rfl rfl iK rfl ?_;intro w2 H2 b2)
   exact bodyPost_ret (results_c1 rfl rfl H2 Tryz.underlying42 rfl iK) rfl ⟨rfl,B.trans (b2.lower (by omega) (by omega))⟩
end Go.Proofs.YtpdmmmdkpipmkaaGreatDoor
