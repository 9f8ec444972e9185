/-
  The program's Term, Rule, Program: what they answer.
-/
import Derived.Test.YtpdmmmdkpipmkaaGreatDoorQPt2
import Derived.Test.YtpdmmmdkpipmkaaGreatDoorQVd
set_option maxRecDepth 100000
set_option maxHeartbeats 2000000
namespace Go.Proofs.YtpdmmmdkpipmkaaGreatDoor
open Go.RowKit Go.Lib Go.Shelf
def sv (r: Option (List UInt8)): Value:= match r with | some s => .tuple #[str s,.int .i64 0] | none => .tuple #[str [],.int .i64 100]
def pv (r: Except Int (List UInt8)): Value:= match r with | .ok s => .tuple #[str s,.int .i64 0] | .error e => .tuple #[str [],.int .i64 e]
theorem fresh_ps {w0 w: World} (hL: Laid w0) (hb: Below w0.heap.size w0 w): PS w0 w.heap.size [] (w.alloc (.cells #[.pointer none,.slice none 0 0] 173)):= by
 refine ⟨hL,hb.trans ((below_alloc w _).mono hb.size),.inl ⟨hb.size,.slice none 0 0,heap_alloc_new w _,World.ownsRow_nil _ _ _ _,by simp [Value.ownBlock]⟩⟩
theorem rule_ne {r: Ru} {s: List UInt8} (h: Sh.ruleS r = some s): s ≠ []:= by
 obtain ⟨a,x,t,m,_,_,_,_,_,_,rfl⟩:= Sh.rule_parts h
 simp
theorem showRule_at (x: Rv) (w: World) (hL: Laid w) (hx: Rv.Aw w x) (hi: Sh.RIn x.r):
 Calls Tryz.prog 72 #[rval x] w fun e w' => e = .returned (sv (Sh.ruleS x.r)) ∧ Below w.heap.size w w':= by
 have A0:= below_alloc w (.cells (rv x).toArray 48)
 have H0:= heap_alloc_new w (.cells (rv x).toArray 48)
 have T1:= hideP (canRule_at x _ (hL.below A0) (hx.below A0 (Nat.le_refl _)))
 have HC:= hideP (Sh.rule_some x.r)
 cases hs: Sh.ruleS x.r with
 | none =>
  rw [← HC.out,hs] at T1
  clear hs HC
  go_enter Tryz.func72,Tryz.ntmps72
  go_wp2_with (refine wpList_load_all rfl 48 _ rfl w.heap.size 11 48 (rv x) _ rfl H0 rfl Tryz.underlying48 rfl Tryz.iR11 ?_)
  refine T1.out.mono ?_
  rintro e w1 ⟨rfl,b1⟩
  simp only [Option.isSome]
  go_wp2_with fail
  go_ret2
  exact ⟨rfl,Below.then A0 b1⟩
 | some s =>
  rw [← HC.out,hs] at T1
  have hsl:= Sh.rule_len hi hs
  have hne:= rule_ne hs
  go_enter Tryz.func72,Tryz.ntmps72
  go_wp2_with (refine wpList_load_all rfl 48 _ rfl w.heap.size 11 48 (rv x) _ rfl H0 rfl Tryz.underlying48 rfl Tryz.iR11 ?_)
  refine T1.out.mono ?_
  rintro e w1 ⟨rfl,b1⟩
  simp only [Option.isSome]
  have H1:= below_heap b1 H0
  have B1:= Below.then A0 b1
  have P1:= fresh_ps hL B1
  have H1':= below_heap (below_alloc w1 (.cells #[.pointer none,.slice none 0 0] 173)) H1
  go_wp2_with (refine wpList_load_all rfl 48 _ rfl w.heap.size 11 48 (rv x) _ rfl H1' rfl Tryz.underlying48 rfl Tryz.iR11 ?_)
  refine (prule_at x P1 hx hi hs (by simp)).mono ?_
  rintro e w2 ⟨rfl,P2,k2⟩
  rw [List.nil_append] at P2
  go_wp2_with fail
  refine (string_at w.heap.size w1.heap.size s w2 P2.bld hne).mono ?_
  rintro e w3 ⟨rfl,b3⟩
  go_wp2_with fail
  go_ret2
  exact ⟨rfl,P2.low.trans b3⟩
end Go.Proofs.YtpdmmmdkpipmkaaGreatDoor
namespace Go.Proofs.YtpdmmmdkpipmkaaGreatDoor
open Go.RowKit Go.Lib Go.Shelf
theorem fn_F (bm p: Nat) (x: Rv) (w0: World) (s0: Ck.Seen) (h0: SizesAt w0 bm s0) (hp: w0.heap[p]? = some (.cells (rv x).toArray 48)) (hx: Rv.Aw w0 x) (hv: Ck.Vok x.r): FnAt 125 #[ptr p] (Ck.fF x.r) bm w0:= fun s k y w hb hs _ _ _ hk => by
 show Calls Tryz.prog 125 #[.int .i64 k,lval y,ptr p] w _
 have iT: (Tryz.prog.info? 44).map (·.size) = some 4:= by kernel_rfl
 have iR:= Tryz.iR11
 obtain ⟨es,clock,hm0⟩:= h0.map
 have hp1:= safe_map (ty:= 48) hb hm0 _ _ hp
 have hx1:= hx.map hb hm0
 clear hp hb hm0 h0 hx
 have A0:= below_alloc w (.cells (lv y).toArray 52)
 have H0:= heap_alloc_new w (.cells (lv y).toArray 52)
 have HF: Hid (Ck.fF x.r s k y.l = ((k != -1) && Ck.outV (Ck.bnd x.r k.toNat) y.at_,s)):= rfl
 by_cases hq: k = -1
 ·have q1: (k != -1) = false:= by simp [hq]
  rw [q1,Bool.false_and] at HF
  clear hq
  go_enter Tryz.func125,Tryz.ntmps125
  go_wp2_with fail
  go_quiet (fail)
  go_wp2_with fail
  go_ret
  rw [HF.out]
  exact ⟨rfl,(hs.next A0).next (below_drewN (Below.refl _ _) _),(But.of_below A0).below (below_drewN (Below.refl _ _) _)⟩
 ·have q1: (k != -1) = true:= by simpa using hq
  rw [q1,Bool.true_and] at HF
  clear hq
  have kk: ∀ W,Below (w.alloc (.cells (lv y).toArray 52)).heap.size (w.alloc (.cells (lv y).toArray 52)) W → (W.cell? ⟨p,0,none⟩ = some (str x.home.v) ∧ W.cell? ⟨p,1,none⟩ = some (.bool x.home.k.num) ∧ W.cell? ⟨p,2,none⟩ = some (.int .i64 x.home.k.n) ∧ W.cell? ⟨p,3,none⟩ = some (str x.home.k.s) ∧ W.cell? ⟨p,4,none⟩ = some (str x.pred) ∧ W.cell? ⟨p,5,none⟩ = some (.slice x.a x.args.length x.cap) ∧ W.cell? ⟨p,6,none⟩ = some (str x.to_.v) ∧ W.cell? ⟨p,7,none⟩ = some (.bool x.to_.k.num) ∧ W.cell? ⟨p,8,none⟩ = some (.int .i64 x.to_.k.n) ∧ W.cell? ⟨p,9,none⟩ = some (str x.to_.k.s) ∧ W.cell? ⟨p,10,none⟩ = some (.slice x.ba x.body.length x.bcap) ∧ W.cell? ⟨w.heap.size,6,none⟩ = some (str y.at_.v) ∧ W.cell? ⟨w.heap.size,7,none⟩ = some (.bool y.at_.k.num) ∧ W.cell? ⟨w.heap.size,8,none⟩ = some (.int .i64 y.at_.k.n) ∧ W.cell? ⟨w.heap.size,9,none⟩ = some (str y.at_.k.s)):= fun W h => by
   have e1:= below_heap (Below.then A0 h) hp1
   have e2:= below_heap h H0
   refine ⟨?_, ?_, ?_, ?_, ?_, ?_, ?_, ?_, ?_, ?_, ?_, ?_, ?_, ?_, ?_⟩
   all_goals first | (rw [heap_cell e1];rfl) | (rw [heap_cell e2];rfl)
  have T1:= hideP (fun W (h: Below w.heap.size w W) => bound_at x k W (hx1.below h (Nat.le_refl _)) hv)
  generalize Ck.bnd x.r k.toNat = N at *
  have T2:= hideP (fun W a c (h: Row sK W a c N) => lacks_at a c N y.at_ W h)
  generalize Ck.outV N y.at_ = r at *
  generalize hW: w.alloc (.cells (lv y).toArray 52) = W0 at *
  have gD: Below W0.heap.size W0 W0.drew:= (Below.refl _ _).drew
  have bD: Below w.heap.size w W0.drew:= Below.then A0 gD
  subst hW
  go_enter Tryz.func125,Tryz.ntmps125
  go_wp2_with fail
  go_region_held3 (fun W => W.cell? ⟨p,0,none⟩ = some (str x.home.v) ∧ W.cell? ⟨p,1,none⟩ = some (.bool x.home.k.num) ∧ W.cell? ⟨p,2,none⟩ = some (.int .i64 x.home.k.n) ∧ W.cell? ⟨p,3,none⟩ = some (str x.home.k.s) ∧ W.cell? ⟨p,4,none⟩ = some (str x.pred) ∧ W.cell? ⟨p,5,none⟩ = some (.slice x.a x.args.length x.cap) ∧ W.cell? ⟨p,6,none⟩ = some (str x.to_.v) ∧ W.cell? ⟨p,7,none⟩ = some (.bool x.to_.k.num) ∧ W.cell? ⟨p,8,none⟩ = some (.int .i64 x.to_.k.n) ∧ W.cell? ⟨p,9,none⟩ = some (str x.to_.k.s) ∧ W.cell? ⟨p,10,none⟩ = some (.slice x.ba x.body.length x.bcap) ∧ W.cell? ⟨w.heap.size,6,none⟩ = some (str y.at_.v) ∧ W.cell? ⟨w.heap.size,7,none⟩ = some (.bool y.at_.k.num) ∧ W.cell? ⟨w.heap.size,8,none⟩ = some (.int .i64 y.at_.k.n) ∧ W.cell? ⟨w.heap.size,9,none⟩ = some (str y.at_.k.s)) (first | exact kk _ gD | exact kk _ g1 | exact kk _ g2) (first
   | (go_at_call 79;refine (T1.out _ bD).mono ?_;rintro e w1 ⟨⟨a1,c1,rfl,R1⟩,b1⟩;have b1':= Below.then bD b1;have g1:= Below.then gD b1)
   | (go_at_call 126;refine (T2.out w1 a1 c1 R1).mono ?_;rintro e w2 ⟨rfl,b2⟩;have b2':= Below.then b1' b2;have g2:= Below.then g1 b2))
  go_wp2_with fail
  go_ret
  rw [HF.out]
  exact ⟨rfl,hs.next b2',But.of_below b2'⟩
end Go.Proofs.YtpdmmmdkpipmkaaGreatDoor
