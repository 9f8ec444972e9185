/-
  The closures that ask whether a variable of the head is out of range.
-/
import Derived.Test.YtpdmmmdkpipmkaaGreatDoorQVf
set_option maxRecDepth 100000
set_option maxHeartbeats 800000
namespace Go.Proofs.YtpdmmmdkpipmkaaGreatDoor
open Go.RowKit Go.Lib Go.Shelf
theorem enter_out1 (args: Array Value) (w: World): (callFunc 128 args).run Tryz.prog w = .ok (.enter 128 args) w:= enters_of Tryz.func128 (by kernel_rfl) rfl args w
theorem out1_at (pv: Nat) (a: Option Addr) (c: Nat) (N: List (List UInt8)) (t: Tm) (w: World) (hc: w.cell? ⟨pv,0,none⟩ = some (.slice a N.length c)) (h: Row sK w a c N):
 Calls Tryz.prog 128 #[tval t,ptr pv] w fun e w' => e = .returned (.bool (Ck.outV N t)) ∧ Below w.heap.size w w':= by
 have A0:= below_alloc w (.cells (tv t).toArray 44)
 have H0:= heap_alloc_new w (.cells (tv t).toArray 44)
 have c0: (w.alloc (.cells #[str t.v,.bool t.k.num,.int .i64 t.k.n,str t.k.s] 44)).cell? ⟨pv,0,none⟩ = some (.slice a N.length c):= (A0.cell (cell_block hc)).trans hc
 have T:= hideP (lacks_at a c N t _ (h.below A0 (Nat.le_refl _)))
 generalize Ck.outV N t = r at *
 go_enter Tryz.func128,Tryz.ntmps128
 go_wp2_with (refine wpList_load_all rfl 44 _ rfl w.heap.size 4 44 (tv t) _ rfl H0 rfl Tryz.underlying44 rfl Tryz.iT4 ?_)
 refine T.out.mono ?_
 rintro e w1 ⟨rfl,b1⟩
 go_wp2_with fail
 go_ret
 exact ⟨rfl,Below.then A0 b1⟩
theorem fn_R (bm po pv: Nat) (r: Ru) (a: Option Addr) (c: Nat) (w0: World) (s0: Ck.Seen) (h0: SizesAt w0 bm s0) (hpo: w0.heap[po]? = some (.cells #[.func (.func 128) #[] #[ptr pv]] 134)) (hpv: w0.heap[pv]? = some (.cells #[.slice a (Ck.vars r).length c] 53)) (hr: Row sK w0 a c (Ck.vars r)):
 FnAt 129 #[ptr po] (Ck.fR r) bm w0:= fun s k y w hb hs _ ay _ hk => by
 show Calls Tryz.prog 129 #[.int .i64 k,lval y,ptr po] w _
 have hE:= enter_out1
 obtain ⟨es,clock,hm0⟩:= h0.map
 have hpo1:= safe_map (ty:= 134) hb hm0 _ _ hpo
 have hpv1:= safe_map (ty:= 53) hb hm0 _ _ hpv
 have hr1:= hr.map hb hm0
 clear hpo hpv hr hb hm0 h0
 have HF: Hid (Ck.fR r s k y.l = ((k == -1) && (Ck.outV (Ck.vars r) y.at_ || y.args.any (Ck.outV (Ck.vars r))),s)):= rfl
 generalize Ck.vars r = N at *
 have A0:= below_alloc w (.cells (lv y).toArray 52)
 have H0:= heap_alloc_new w (.cells (lv y).toArray 52)
 by_cases hq: k = -1
 ·have q1: (k == -1) = true:= by simpa using hq
  rw [q1,Bool.true_and] at HF
  clear hq
  have OUT: ∀ (t: Tm) (W: World),Below w.heap.size w W → Calls Tryz.prog 128 #[tval t,ptr pv] W fun e w' => e = .returned (.bool (Ck.outV N t)) ∧ Below W.heap.size W w':= fun t W h =>
   out1_at pv a c N t W (by rw [heap_cell (below_heap h hpv1)];rfl) (hr1.below h (Nat.le_refl _))
  have T1:= hideP (OUT y.at_ _ A0)
  have T2:= hideP (fun W (h: Below w.heap.size w W) => containsF_at 128 (ptr pv) (Ck.outV N) w W enter_out1 OUT y.a y.cap y.args h ay)
  have co: ∀ W,Below w.heap.size w W → W.cell? ⟨po,0,none⟩ = some (.func (.func 128) #[] #[ptr pv]):= fun W h => by rw [heap_cell (below_heap h hpo1)];rfl
  have c0:= co _ A0
  change (w.alloc (.cells #[str y.by_.v,.bool y.by_.k.num,.int .i64 y.by_.k.n,str y.by_.k.s,str y.pred,.slice y.a y.args.length y.cap,str y.at_.v,.bool y.at_.k.num,.int .i64 y.at_.k.n,str y.at_.k.s] 52)).cell? _ = _ at c0
  have r0:= (lit_parts10 H0).2.1
  clear OUT
  generalize y.args.any (Ck.outV N) = b2 at *
  cases hb1: Ck.outV N y.at_ with
  | true =>
   rw [hb1] at T1 HF
   go_enter Tryz.func129,Tryz.ntmps129
   go_wp2_with (refine wpList_load_mid rfl 44 _ rfl w.heap.size 6 rfl (tv y.at_) _ r0 Tryz.underlying44 rfl Tryz.iT4 ?_)
   refine T1.out.mono ?_
   rintro e w1 ⟨rfl,b1⟩
   go_wp2_with fail
   go_ret
   rw [HF.out]
   exact ⟨rfl,hs.next (Below.then A0 b1),But.of_below (Below.then A0 b1)⟩
  | false =>
   rw [hb1,Bool.false_or] at HF
   rw [hb1] at T1
   go_enter Tryz.func129,Tryz.ntmps129
   go_wp2_with (refine wpList_load_mid rfl 44 _ rfl w.heap.size 6 rfl (tv y.at_) _ r0 Tryz.underlying44 rfl Tryz.iT4 ?_)
   refine T1.out.mono ?_
   rintro e w1 ⟨rfl,b1⟩
   have B1:= Below.then A0 b1
   have c1:= co _ B1
   have d1:= (lit_parts10 (below_heap b1 H0)).2.2.2.1
   go_wp2_with fail
   refine (T2.out w1 B1).mono ?_
   rintro e w2 ⟨rfl,b2⟩
   have B2:= Below.then B1 b2
   go_wp2_with fail
   go_ret
   rw [HF.out]
   exact ⟨rfl,hs.next B2,But.of_below B2⟩
 ·have q1: (k == -1) = false:= by simpa using hq
  rw [q1,Bool.false_and] at HF
  clear hq
  go_enter Tryz.func129,Tryz.ntmps129
  go_wp2_with fail
  go_ret
  rw [HF.out]
  exact ⟨rfl,hs.next A0,But.of_below A0⟩
end Go.Proofs.YtpdmmmdkpipmkaaGreatDoor
