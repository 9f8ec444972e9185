/-
  slices.CompactFunc, walked.
-/
import Derived.Shelf.SlSortCmp.QuietGrown
import Derived.Shelf.SlLaysF0
import Derived.KernelRfl
import Derived.Test.YtpdmmmdkpipmkaaGreatDoorQLo
import Derived.Test.YtpdmmmdkpipmkaaGreatDoorRows
import Derived.Test.YtpdmmmdkpipmkaaGreatDoorQMk
set_option maxRecDepth 100000
set_option maxHeartbeats 8000000
namespace Go.Proofs.YtpdmmmdkpipmkaaGreatDoor
open Go.RowKit Go.Sort
theorem frozen_setCells (b: Nat) (p: Addr): ∀ (V: List Value) (o: Nat) (w: World),(w.setCells b o V).frozen? p = w.frozen? p
 | [],_,_ => rfl
 | v:: r,o,w => by rw [World.setCells,frozen_setCells b p r];simp
theorem RowF.head {w: World} {b: Nat} {xs ys: List Fv} (h: RowF w b (xs ++ ys)) (Z: List Value): RowF (w.setCells b (xs.length * 4) Z) b xs:= fun i hi c hc => by
 obtain ⟨h1,h2⟩:= h i (by rw [List.length_append];omega) c hc
 rw [List.getElem_append_left hi] at h1
 refine ⟨?_,by rw [frozen_setCells];exact h2⟩
 rw [World.cell?_setCells_out,h1]
 intro _ _
 left
 show i * 4 + c < xs.length * 4
 omega
theorem RowF.take {w: World} {b: Nat} {xs ys: List Fv} (h: RowF w b (xs ++ ys)): RowF w b xs:= fun i hi c hc => by
 have:= h i (by rw [List.length_append];omega) c hc
 rwa [List.getElem_append_left hi] at this
theorem RowF.some {w: World} {b: Nat} {xs: List Fv} (h: RowF w b xs) (j: Nat) (hj: j < xs.length * 4): (w.cell? ⟨b,j,none⟩).isSome = true ∧ w.frozen? ⟨b,j,none⟩ = false:= by
 have:= h (j / 4) (by omega) (j % 4) (Nat.mod_lt _ (by decide))
 rw [show j / 4 * 4 + j % 4 = j by omega] at this
 refine ⟨?_,this.2⟩
 rw [this.1,List.getElem?_eq_getElem (by rw [fv_len];omega)];rfl
theorem mid_get (xs L: List Fv) (i: Nat) (hi: i < xs.length) (hL: L.length ≤ i): (L ++ xs.drop L.length)[i]'(by simp;omega) = xs[i]:= by
 rw [List.getElem_append_right hL,List.getElem_drop]
 congr 1;omega
theorem mid_set (xs L: List Fv) (x: Fv) (hL: L.length < xs.length): (L ++ xs.drop L.length).set L.length x = (L ++ [x]) ++ xs.drop (L ++ [x]).length:= by
 rw [List.set_append_right _ _ (Nat.le_refl _),Nat.sub_self,List.drop_eq_getElem_cons hL,List.set_cons_zero,List.append_assoc,List.length_append]
 rfl
theorem compact_at (w0 w: World) (blk cap: Nat) (xs: List Fv) (hxs: ∀ x ∈ xs,Fv.At w0 x) (hB: Below w0.heap.size w0 w) (hb0: w0.heap.size ≤ blk) (hrow: RowF w blk xs) (hblk: blk < w.heap.size) (hcap: xs.length ≤ cap) (hlen: xs.length < 4611686018427387904):
 Calls Tryz.prog 95 #[.slice (some ⟨blk,0,none⟩) xs.length cap,.func (.func 96) #[] #[]] w
  fun e w' => e = .returned (.slice (some ⟨blk,0,none⟩) (kept cV xs xs.length).length cap) ∧ RowF w' blk (kept cV xs xs.length) ∧ But blk w w':= by
 have mixed: Tryz.prog.follows .mixedOrders = true:= by kernel_rfl
 have eg: ∀ args w,(callFunc 96 args).run Tryz.prog w = .ok (.enter 96 args) w:= enters_of Tryz.func96 (by kernel_rfl) rfl
 have hC:= fun (x y: Fv) (W: World) (hx: Fv.At W x) (hy: Fv.At W y) => ordered1_at x y W hx hy
 by_cases h2: xs.length < 2
 ·have q1: (xs.length: Int) < 2:= by omega
  have hk: kept cV xs xs.length = xs:= by
   rw [kept_all cV xs xs.length (Nat.le_refl _) (fun j h h0 hk => by omega),List.take_length]
  rw [hk]
  go_enter Tryz.func95,Tryz.ntmps95
  go_wp2_with fail
  go_ret
  exact ⟨rfl,hrow,But.refl _ _⟩
 ·have q1: ¬ (xs.length: Int) < 2:= by omega
  go_enter Tryz.func95,Tryz.ntmps95
  go_wp2_with fail
  go_loopw [5,6,7] (fun v _ _ wr => ∃ k: Nat,v = .int .i64 (k: Int) ∧ 1 ≤ k ∧ k ≤ xs.length ∧ Hid (∀ j (h: j < xs.length),0 < j → j < k → cV xs[j] (xs[j - 1]'(by omega)) ≠ 0) ∧ Grew w wr) (fun v _ _ _ => xs.length - (RowKit.intOf v).toNat)
  case atStart => exact ⟨1,rfl,by omega,by omega,fun j _ h0 h => absurd h (by omega),Grew.refl _⟩
  case round =>
   obtain ⟨k,rfl,hk1,hk,hev,hg⟩:= hrel
   by_cases hlt: k < xs.length
   ·have q2: (k: Int) < (xs.length: Int):= by omega
    obtain ⟨m,hm⟩: ∃ m,k = m + 1:= ⟨k - 1,by omega⟩
    have q3: IntKind.i64.wrap ((k: Int) - 1) = (m: Int):= by simp [IntKind.wrap,IntKind.bits,IntKind.signed];omega
    have q4: (m: Int) < (xs.length: Int):= by omega
    have hml: m < xs.length:= by omega
    have em: k - 1 = m:= by omega
    have hrow':= hrow.below hg.below hblk
    obtain ⟨a1,a2,a3,a4⟩:= hrow'.get k hlt
    obtain ⟨d1,d2,d3,d4⟩:= hrow'.get m hml
    have hBr: Below w0.heap.size w0 wr:= hB.trans (hg.below.mono hB.size)
    have hxk: Fv.At wr (xs[k]'hlt):= (hxs _ (List.getElem_mem _)).below hBr (Nat.le_refl _)
    have hxj: Fv.At wr (xs[m]'hml):= (hxs _ (List.getElem_mem _)).below hBr (Nat.le_refl _)
    have hn: ∀ n os,Calls Tryz.prog 96 #[Fv.val (xs[k]'hlt),Fv.val (xs[m]'hml)] (grow (wr.drewN n) os) _:= fun n os => hC (xs[k]'hlt) (xs[m]'hml) _ (hxk.grew (Grew.grow _ _ _)) (hxj.grew (Grew.grow _ _ _))
    have A1:= fun n os => cell_grown (cell_block a1) a1 n os
    have A2:= fun n os => cell_grown (cell_block a2) a2 n os
    have A3:= fun n os => cell_grown (cell_block a3) a3 n os
    have A4:= fun n os => cell_grown (cell_block a4) a4 n os
    have D1:= fun n os => cell_grown (cell_block d1) d1 n os
    have D2:= fun n os => cell_grown (cell_block d2) d2 n os
    have D3:= fun n os => cell_grown (cell_block d3) d3 n os
    have D4:= fun n os => cell_grown (cell_block d4) d4 n os
    generalize hp: (xs[k]'hlt) = p at *
    generalize hq: (xs[m]'hml) = q at *
    have Hp:= hideP hp;have Hq:= hideP hq;have Hm:= hideP hm;have Em:= hideP em;have HX:= hideP hxs;have HC:= hideP hC;clear hm em hp hq hC hxk hxj hxs a1 a2 a3 a4 d1 d2 d3 d4
    by_cases hr: cV p q = 0
    ·simp only [hr,decide_true] at hn
     go_wp2_with fail
     go_quiet_grown (first | (go_at_fn 96;refine Calls.grown_of (hn _ _)))
     have G1: Grew w (grow (wr.drewN nq) osq):= hg.trans (Grew.grow _ _ _)
     generalize grow (wr.drewN nq) osq = w1 at *
     have q5: ¬ cap = k:= by omega
     have q6: k ≤ cap:= by omega
     have q7: (k: Int) ≤ (cap: Int):= by omega
     have q8: (k: Int) ≤ (xs.length: Int):= by omega
     go_wp2_with fail
     have hdup: Hid (kept cV xs (k + 1) = xs.take k):= by
      show _ = _
      rw [kept_dup cV xs k (by omega) hlt (by simp only [Em.out,Hp.out,Hq.out];exact hr)]
      exact kept_all cV xs k (by omega) hev.out
     obtain ⟨n2,hn2⟩: ∃ n2,xs.length - k = n2:= ⟨_,rfl⟩
     have Hn2:= hideP hn2
     rw [hn2]
     clear hn2 hn A1 A2 A3 A4 D1 D2 D3 D4 hr hev hrow' hBr hg
     go_loopw [5,7] (fun v5 v7 wi => ∃ (t: Nat) (L: List Fv),1 ≤ t ∧ t ≤ n2 ∧ v7 = .int .i64 (t: Int) ∧ v5 = .int .i64 (L.length: Int) ∧ Hid (L = kept cV xs (k + t)) ∧ L.length < k + t ∧ RowF wi blk (L ++ xs.drop L.length) ∧ But blk w wi) (fun _ v7 _ => n2 - (RowKit.intOf v7).toNat)
     case atStart =>
      have:= Hn2.out
      have hl: (xs.take k).length = k:= by rw [List.length_take];omega
      exact ⟨1,xs.take k,by omega,by omega,rfl,by rw [hl],hdup.out.symm,by omega,by rw [hl,List.take_append_drop];exact hrow.below G1.below hblk,(But.refl _ _).below G1.below⟩
     case round =>
      obtain ⟨t,L,ht1,ht,rfl,rfl,hL,hLl,hR,hbut⟩:= hrel
      have hnn:= Hn2.out
      by_cases hlt2: t < n2
      ·have q9: (t: Int) < (n2: Int):= by omega
       obtain ⟨m2,hm2⟩: ∃ m2,t = m2 + 1:= ⟨t - 1,by omega⟩
       have qa: IntKind.i64.wrap ((t: Int) - 1) = (m2: Int):= by simp [IntKind.wrap,IntKind.bits,IntKind.signed];omega
       have qb: (m2: Int) < (n2: Int):= by omega
       have hi: k + t < xs.length:= by omega
       have hj: k + m2 < xs.length:= by omega
       have hRl: (L ++ xs.drop L.length).length = xs.length:= by simp;omega
       have gi:= mid_get xs L (k + t) hi (by omega)
       have gj:= mid_get xs L (k + m2) hj (by omega)
       have getI: ∀ W,RowF W blk (L ++ xs.drop L.length) → W.cell? ⟨blk,k * 4 + t * 4,none⟩ = some (str (xs[k + t]'hi).at_) ∧ W.cell? ⟨blk,k * 4 + t * 4 + 1,none⟩ = some (str (xs[k + t]'hi).by_) ∧ W.cell? ⟨blk,k * 4 + t * 4 + 2,none⟩ = some (str (xs[k + t]'hi).pred) ∧ W.cell? ⟨blk,k * 4 + t * 4 + 3,none⟩ = some (.slice (xs[k + t]'hi).a (xs[k + t]'hi).ks.length (xs[k + t]'hi).cap):= fun W h => by
        have:= h.get (k + t) (by omega)
        rwa [gi,Nat.add_mul] at this
       have getJ: ∀ W,RowF W blk (L ++ xs.drop L.length) → W.cell? ⟨blk,k * 4 + m2 * 4,none⟩ = some (str (xs[k + m2]'hj).at_) ∧ W.cell? ⟨blk,k * 4 + m2 * 4 + 1,none⟩ = some (str (xs[k + m2]'hj).by_) ∧ W.cell? ⟨blk,k * 4 + m2 * 4 + 2,none⟩ = some (str (xs[k + m2]'hj).pred) ∧ W.cell? ⟨blk,k * 4 + m2 * 4 + 3,none⟩ = some (.slice (xs[k + m2]'hj).a (xs[k + m2]'hj).ks.length (xs[k + m2]'hj).cap):= fun W h => by
        have:= h.get (k + m2) (by omega)
        rwa [gj,Nat.add_mul] at this
       obtain ⟨a1,a2,a3,a4⟩:= getI _ hR
       obtain ⟨d1,d2,d3,d4⟩:= getJ _ hR
       have hBr: Below w0.heap.size w0 wr:= hB.trans (hbut.lower hb0 hB.size)
       have hn: ∀ n os,Calls Tryz.prog 96 #[Fv.val (xs[k + t]'hi),Fv.val (xs[k + m2]'hj)] (grow (wr.drewN n) os) _:= fun n os => HC.out (xs[k + t]'hi) (xs[k + m2]'hj) _ (((HX.out _ (List.getElem_mem hi)).below hBr (Nat.le_refl _)).grew (Grew.grow _ _ _)) (((HX.out _ (List.getElem_mem hj)).below hBr (Nat.le_refl _)).grew (Grew.grow _ _ _))
       have A1:= fun n os => cell_grown (cell_block a1) a1 n os
       have A2:= fun n os => cell_grown (cell_block a2) a2 n os
       have A3:= fun n os => cell_grown (cell_block a3) a3 n os
       have A4:= fun n os => cell_grown (cell_block a4) a4 n os
       have D1:= fun n os => cell_grown (cell_block d1) d1 n os
       have D2:= fun n os => cell_grown (cell_block d2) d2 n os
       have D3:= fun n os => cell_grown (cell_block d3) d3 n os
       have D4:= fun n os => cell_grown (cell_block d4) d4 n os
       have hdup':= kept_dup cV xs (k + t) (by omega) hi
       have hnew':= kept_new cV xs (k + t) (by omega) hi
       have ej: k + t - 1 = k + m2:= by omega
       simp only [ej] at hdup' hnew'
       have Hdup:= hideP hdup';have Hnew:= hideP hnew'
       have GetI:= hideP getI
       have hblkR: blk < wr.heap.size:= cell_block a1
       clear hdup' hnew' a1 a2 a3 a4 d1 d2 d3 d4 getI getJ gi gj
       generalize (xs[k + t]'hi) = p2 at *
       generalize (xs[k + m2]'hj) = r2 at *
       have Hm2:= hideP hm2;have Hej:= hideP ej;have HRl:= hideP hRl;have Hnn:= hideP hnn;clear hm2 ej hRl hnn
       by_cases hr: cV p2 r2 = 0
       ·simp only [hr,decide_true] at hn
        go_wp2_with fail
        go_quiet_grown (first | (go_at_fn 96;refine Calls.grown_of (hn _ _)))
        go_wp2_with fail
        refine ⟨⟨t + 1,L,by omega,by omega,by simp,rfl, ?_,by omega, ?_, ?_⟩,by simp [RowKit.intOf];omega⟩
        ·show L = _;rw [hL.out];exact (Hdup.out hr).symm
        ·exact hR.below (Grew.grow wr _ _).below hblkR
        ·exact hbut.below (Grew.grow wr _ _).below
       ·simp only [hr,decide_false] at hn
        go_wp2_with fail
        go_quiet_grown (first | (go_at_fn 96;refine Calls.grown_of (hn _ _)))
        have hbut2:= hbut.below (Grew.grow wr nq osq).below
        have hR2:= hR.below (Grew.grow wr nq osq).below hblkR
        clear A1 A2 A3 A4 D1 D2 D3 D4 hn
        generalize grow (wr.drewN nq) osq = w2 at *
        obtain ⟨a1,a2,a3,a4⟩:= GetI.out _ hR2
        have hl: L.length < (L ++ xs.drop L.length).length:= by rw [HRl.out];omega
        obtain ⟨c1,c2,c3,c4⟩:= hR2.get L.length hl
        obtain ⟨f1,f2,f3,f4⟩:= hR2.thaw L.length hl
        have qc: (L.length: Int) < (xs.length: Int):= by omega
        have hst:= hR2.store L.length hl p2
        rw [mid_set xs L p2 (by omega)] at hst
        generalize (L ++ xs.drop L.length)[L.length]'hl = old at *
        go_wp2_with fail
        refine ⟨⟨t + 1,L ++ [p2],by omega,by omega,by simp,by simp, ?_,by simp;omega, ?_, ?_⟩,by simp [RowKit.intOf];omega⟩
        ·show L ++ [p2] = _;rw [hL.out];exact (Hnew.out hr).symm
        ·exact hst
        ·exact (((hbut2.set _ _).set _ _).set _ _).set _ _
      ·have q9: ¬ (t: Int) < (n2: Int):= by omega
       have hkt: k + t = xs.length:= by omega
       have hRl: (L ++ xs.drop L.length).length = xs.length:= by simp;omega
       have qd: L.length < xs.length:= by omega
       obtain ⟨Z,hZ,hcl⟩:= run_clear_facts wr blk (L.length * 4) (xs.length - L.length) (cap - L.length) (by omega)
        (fun j hj => (hR.some (L.length * 4 + j) (by rw [hRl];omega)).1) (fun j hj => (hR.some (L.length * 4 + j) (by rw [hRl];omega)).2)
       have qe: (L.length: Int) ≤ (xs.length: Int):= by omega
       have qf: ¬ cap = L.length:= by omega
       have qg: (L.length: Int) ≤ (cap: Int):= by omega
       have qh: L.length ≤ cap:= by omega
       have HL: Hid (kept cV xs xs.length = L):= by show _ = _;rw [hL.out,hkt]
       clear hL
       go_wp2_with fail
       go_ret
       rw [HL.out]
       exact ⟨rfl,hR.head Z,hbut.cells Z _ _⟩
    ·simp only [hr,decide_false] at hn
     go_wp2_with fail
     go_quiet_grown (first | (go_at_fn 96;refine Calls.grown_of (hn _ _)))
     go_wp2_with fail
     refine ⟨⟨k + 1,by simp,by omega,by omega,fun j h h0 hj => ?_,hg.trans (Grew.grow _ _ _)⟩,by simp [RowKit.intOf];omega⟩
     by_cases e: j = k
     ·subst e;have e2:= Em.out;simp only [e2,Hp.out,Hq.out];exact hr
     ·exact hev.out j h h0 (by omega)
   ·have q2: ¬ (k: Int) < (xs.length: Int):= by omega
    have hk: kept cV xs xs.length = xs:= by
     rw [kept_all cV xs xs.length (Nat.le_refl _) (fun j h h0 hk => hev.out j h h0 (by omega)),List.take_length]
    have Hk:= hideP hk;clear hk
    go_wp2_with fail
    go_ret
    rw [Hk.out]
    exact ⟨rfl,hrow.below hg.below hblk,(But.refl _ _).below hg.below⟩
end Go.Proofs.YtpdmmmdkpipmkaaGreatDoor
namespace Go.Proofs
open Go.Shelf
def Tryz.sortT_ren: Go.Shelf.Ren:= ⟨fun | 6 => 223 | 15 => 140 | 14 => 246 | 28 => 184 | 29 => 185 | 20 => 256 | 21 => 257 | 22 => 258 | 23 => 259 | 24 => 260 | 25 => 261 | 26 => 262 | 27 => 263 | 46 => 268 | 47 => 215 | 48 => 216 | 49 => 269 | 50 => 270 | 57 => 272 | n => n,fun | 22 => 260 | 24 => 263 | 25 => 266 | 3 => 3 | 39 => 190 | 0 => 0 | 53 => 229 | 55 => 231 | 4 => 4 | 46 => 223 | 45 => 222 | 50 => 116 | 5 => 5 | 9 => 9 | 66 => 253 | 70 => 257 | 76 => 284 | 77 => 285 | n => n,fun | n => n⟩
theorem Tryz.sortT: Go.Proofs.SlLaysF0.n6 Tryz.prog Tryz.sortT_ren:= {
 mixed:= by kernel_rfl
 f6:= ⟨Tryz.f223.name,by decide,Tryz.func223.trans (congrArg some (by kernel_rfl))⟩
 f14:= ⟨Tryz.f246.name,by decide,Tryz.func246.trans (congrArg some (by kernel_rfl))⟩
 f15:= Tryz.func140.trans (congrArg some (by kernel_rfl))
 f20:= ⟨Tryz.f256.name,by decide,Tryz.func256.trans (congrArg some (by kernel_rfl))⟩
 f21:= ⟨Tryz.f257.name,by decide,Tryz.func257.trans (congrArg some (by kernel_rfl))⟩
 f22:= ⟨Tryz.f258.name,by decide,Tryz.func258.trans (congrArg some (by kernel_rfl))⟩
 f23:= ⟨Tryz.f259.name,by decide,Tryz.func259.trans (congrArg some (by kernel_rfl))⟩
 f24:= ⟨Tryz.f260.name,by decide,Tryz.func260.trans (congrArg some (by kernel_rfl))⟩
 f25:= ⟨Tryz.f261.name,by decide,Tryz.func261.trans (congrArg some (by kernel_rfl))⟩
 f26:= ⟨Tryz.f262.name,by decide,Tryz.func262.trans (congrArg some (by kernel_rfl))⟩
 f27:= ⟨Tryz.f263.name,by decide,Tryz.func263.trans (congrArg some (by kernel_rfl))⟩
 f28:= Tryz.func184.trans (congrArg some (by kernel_rfl))
 f29:= Tryz.func185.trans (congrArg some (by kernel_rfl))
 f46:= ⟨Tryz.f268.name,by decide,Tryz.func268.trans (congrArg some (by kernel_rfl))⟩
 f47:= Tryz.func215.trans (congrArg some (by kernel_rfl))
 f48:= Tryz.func216.trans (congrArg some (by kernel_rfl))
 f49:= ⟨Tryz.f269.name,by decide,Tryz.func269.trans (congrArg some (by kernel_rfl))⟩
 f50:= ⟨Tryz.f270.name,by decide,Tryz.func270.trans (congrArg some (by kernel_rfl))⟩
 f57:= ⟨Tryz.f272.name,by decide,Tryz.func272.trans (congrArg some (by kernel_rfl))⟩
 t0:= Tryz.underlying0
 a0:= Tryz.isAgg0
 z0:= Tryz.sizeOf0
 v0:= Tryz.zeroValue0
 t3:= Tryz.underlying3
 a3:= Tryz.isAgg3
 z3:= Tryz.sizeOf3
 v3:= Tryz.zeroValue3
 t4:= Tryz.underlying4
 a4:= Tryz.isAgg4
 z4:= Tryz.sizeOf4
 v4:= Tryz.zeroValue4
 t5:= Tryz.underlying5
 a5:= Tryz.isAgg5
 z5:= Tryz.sizeOf5
 v5:= Tryz.zeroValue5
 t9:= Tryz.underlying9
 a9:= Tryz.isAgg9
 z9:= Tryz.sizeOf9
 v9:= Tryz.zeroValue9
 t22:= Tryz.underlying260
 a22:= Tryz.isAgg260
 z22:= Tryz.sizeOf260
 v22:= Tryz.zeroValue260
 t25:= Tryz.underlying266
 a25:= Tryz.isAgg266
 z25:= Tryz.sizeOf266
 v25:= Tryz.zeroValue266
 t39:= Tryz.underlying190
 a39:= Tryz.isAgg190
 z39:= Tryz.sizeOf190
 v39:= Tryz.zeroValue190
 t45:= Tryz.underlying222
 a45:= Tryz.isAgg222
 z45:= Tryz.sizeOf222
 v45:= Tryz.zeroValue222
 t46:= Tryz.underlying223
 a46:= Tryz.isAgg223
 z46:= Tryz.sizeOf223
 v46:= Tryz.zeroValue223
 t50:= Tryz.underlying116
 a50:= Tryz.isAgg116
 z50:= Tryz.sizeOf116
 v50:= Tryz.zeroValue116
 t53:= Tryz.underlying229
 a53:= Tryz.isAgg229
 z53:= Tryz.sizeOf229
 v53:= Tryz.zeroValue229
 t55:= Tryz.underlying231
 a55:= Tryz.isAgg231
 z55:= Tryz.sizeOf231
 v55:= Tryz.zeroValue231
 t66:= Tryz.underlying253
 a66:= Tryz.isAgg253
 z66:= Tryz.sizeOf253
 v66:= Tryz.zeroValue253
 t70:= Tryz.underlying257
 a70:= Tryz.isAgg257
 z70:= Tryz.sizeOf257
 v70:= Tryz.zeroValue257
 t76:= Tryz.underlying284
 a76:= Tryz.isAgg284
 z76:= Tryz.sizeOf284
 v76:= Tryz.zeroValue284
 t77:= Tryz.underlying285
 a77:= Tryz.isAgg285
 z77:= Tryz.sizeOf285
 v77:= Tryz.zeroValue285 }
end Go.Proofs
namespace Go.Proofs.YtpdmmmdkpipmkaaGreatDoor
open Go.RowKit Go.Lib Go.Shelf Go.Sort
theorem Row.getB {w: World} {b o cap: Nat} {xs: List Bd} (h: Row bK w (some ⟨b,o,none⟩) cap xs) (i: Nat) (hi: i < xs.length):
 w.cell? ⟨b,o + i * 4,none⟩ = some (str xs[i].1) ∧ w.cell? ⟨b,o + i * 4 + 1,none⟩ = some (.bool xs[i].2.num) ∧ w.cell? ⟨b,o + i * 4 + 2,none⟩ = some (.int .i64 xs[i].2.n) ∧ w.cell? ⟨b,o + i * 4 + 3,none⟩ = some (str xs[i].2.s):= by
 have r: w.rangeAt b (o + i * 4) (bv xs[i]):= h.range i hi
 exact ⟨r 0 _ rfl,r 1 _ rfl,r 2 _ rfl,r 3 _ rfl⟩
def cBd (x y: Bd): Int:= cK x.2 y.2
theorem pre_cBd: Pre cBd:= pre_cK.on (fun x: Bd => x.2)
def EvenB (x y: List Bd) (k: Nat): Prop:= ∀ j (hx: j < x.length) (hy: j < y.length),j < k → cBd x[j] y[j] = 0
theorem comp1_at (p q: Bd) (w: World): Calls Tryz.prog 248 #[bval p,bval q] w fun e w' => e = .returned (.int .i64 (cBd p q)) ∧ Grew w w':= by
 have hC:= fun (W: World) => compare_at p.2 q.2 W
 have hg2: ∀ o o': Obj,Grew w ((w.alloc o).alloc o'):= fun o o' => ((Grew.refl w).allocs o).allocs o'
 show Calls _ _ _ _ fun e w' => e = .returned (.int .i64 (cK p.2 q.2)) ∧ Grew w w'
 generalize cK p.2 q.2 = r at *
 obtain ⟨v,⟨a,n,s⟩⟩:= p
 obtain ⟨v',⟨a',n',s'⟩⟩:= q
 go_enter Tryz.func248,Tryz.ntmps248
 go_wp2_with fail
 refine (hC _).mono ?_;rintro e w1 ⟨rfl,hg⟩
 go_wp2_with fail
 go_ret
 exact ⟨rfl,(hg2 _ _).trans hg⟩
theorem compareFuncB_at (a a': Option Addr) (c c': Nat) (x y: List Bd) (w: World) (hx: Row bK w a c x) (hy: Row bK w a' c' y):
 Calls Tryz.prog 247 #[.slice a x.length c,.slice a' y.length c',.func (.func 248) #[] #[]] w
  fun e w' => e = .returned (.int .i64 (cL cBd x y)) ∧ Grew w w':= by
 have hC:= fun (p q: Bd) (W: World) => comp1_at p q W
 have b1:= hx.few;have b2:= hy.few
 have eg: ∀ args w,(callFunc 248 args).run Tryz.prog w = .ok (.enter 248 args) w:= enters_of Tryz.func248 (by kernel_rfl) rfl
 go_enter Tryz.func247,Tryz.ntmps247
 go_wp2_with fail
 go_loopw [7,8,9,10,13] (fun _ _ _ _ v wr => ∃ k: Nat,v = .int .i64 (k: Int) ∧ k ≤ x.length ∧ k ≤ y.length ∧ Hid (EvenB x y k) ∧ Grew w wr) (fun _ _ _ _ v _ => x.length - (RowKit.intOf v).toNat)
 case atStart => exact ⟨0,rfl,by omega,by omega,fun j _ _ h => absurd h (by omega),Grew.refl _⟩
 case round =>
  obtain ⟨k,rfl,hk,hk',hev,hg⟩:= hrel
  by_cases hlt: k < x.length
  ·have q2: (k: Int) < (x.length: Int):= by omega
   obtain ⟨B1,O1,rfl⟩:= hx.addr (by omega)
   obtain ⟨c1,c2,c3,c4⟩:= (hx.below hg.below (Nat.le_refl _)).getB k hlt
   have n1:= cell_block c1
   by_cases hlt': k < y.length
   ·have q3: ¬ (y.length: Int) ≤ (k: Int):= by omega
    have q4: (k: Int) < (y.length: Int):= by omega
    obtain ⟨B2,O2,rfl⟩:= hy.addr (by omega)
    obtain ⟨d1,d2,d3,d4⟩:= (hy.below hg.below (Nat.le_refl _)).getB k hlt'
    have n2:= cell_block d1
    have hn:= hC x[k] y[k]
    have hev': Hid (cBd x[k] y[k] = 0 → EvenB x y (k + 1)):= fun h j hjx hjy hj => by
     by_cases e: j = k
     ·subst e;exact h
     ·exact hev.out j hjx hjy (by omega)
    have hhit: Hid (cBd x[k] y[k] ≠ 0 → cL cBd x y = cBd x[k] y[k]):= fun h => cL_hit cBd x y k hlt hlt' (fun j hjx hjy hj => hev.out j hjx hjy hj) h
    generalize x[k] = p at *
    generalize y[k] = q at *
    by_cases hr: cBd p q = 0
    ·have hev'':= hideP (hev'.out hr)
     simp only [hr] at hn
     go_wp2_with fail
     refine (hn _).mono ?_;rintro e w1 ⟨rfl,hg1⟩
     go_wp2_with fail
     exact ⟨⟨k + 1,by simp,by omega,by omega,hev'',(hg.allocs _).allocs _ |>.trans hg1⟩,by simp [RowKit.intOf];omega⟩
    ·have hhit':= hideP (hhit.out hr)
     generalize cBd p q = r at hn hr hhit'
     go_wp2_with fail
     refine (hn _).mono ?_;rintro e w1 ⟨rfl,hg1⟩
     go_wp2_with fail
     go_ret
     exact ⟨ret_int hhit'.out.symm,(hg.allocs _).allocs _ |>.trans hg1⟩
   ·have q3: (y.length: Int) ≤ (k: Int):= by omega
    go_wp2_with fail
    go_ret
    refine ⟨ret_int ?_,hg.allocs _⟩
    rw [cL_long cBd x y (by omega) fun j hjx hjy => hev.out j hjx hjy (by omega)]
  ·have q2: ¬ (k: Int) < (x.length: Int):= by omega
   by_cases hlt': x.length < y.length
   ·have q3: (x.length: Int) < (y.length: Int):= by omega
    go_wp2_with fail
    go_ret
    refine ⟨ret_int ?_,hg⟩
    rw [cL_short cBd x y (by omega) fun j hjx hjy => hev.out j hjx hjy (by omega)]
   ·have q3: ¬ (x.length: Int) < (y.length: Int):= by omega
    go_wp2_with fail
    go_ret
    refine ⟨ret_int ?_,hg⟩
    rw [cL_even cBd x y (by omega) fun j hjx hjy => hev.out j hjx hjy (by omega)]
theorem compareB_at (a a': Option Addr) (c c': Nat) (x y: List Bd) (w: World) (hx: Row bK w a c x) (hy: Row bK w a' c' y):
 Calls Tryz.prog 225 #[.slice a x.length c,.slice a' y.length c'] w fun e w' => e = .returned (.int .i64 (cL cBd x y)) ∧ Grew w w':= by
 have hC:= compareFuncB_at a a' c c' x y w hx hy
 generalize cL cBd x y = r at *
 go_enter Tryz.func225,Tryz.ntmps225
 go_wp2_with fail
 refine hC.mono ?_;rintro e w1 ⟨rfl,hg⟩
 go_wp2_with fail
 go_ret
 exact ⟨rfl,hg⟩
structure Tk where
 i: Nat
 a: Option Addr
 cap: Nat
 ks: List Bd
def tkv (x: Tk): List Value:= [.int .i64 (x.i: Int),.slice x.a x.ks.length x.cap]
abbrev Tk.val (x: Tk): Value:= .agg #[.int .i64 (x.i: Int),.slice x.a x.ks.length x.cap]
def tkK: Kd Tk:= ⟨tkv,2,fun _ => rfl,fun _ => rfl,by decide⟩
theorem tkv_len (x: Tk): (tkv x).length = 2:= rfl
theorem tkv_one (x: Tk): ∀ u ∈ tkv x,u.oneCell' = true:= by
 intro u hk
 simp only [tkv,List.mem_cons,List.not_mem_nil,or_false] at hk
 rcases hk with rfl | rfl <;> rfl
abbrev Tk.At (w: World) (x: Tk): Prop:= Row bK w x.a x.cap x.ks
theorem Tk.At.grew {w w': World} {x: Tk} (h: Tk.At w x) (hb: Grew w w'): Tk.At w' x:= Row.below h hb.below (Nat.le_refl _)
def cTk (x y: Tk): Int:= cL cBd x.ks y.ks
theorem pre_cTk: Pre cTk:= pre_cBd.list.on Tk.ks
theorem order1_at (x y: Tk) (w: World) (hx: Tk.At w x) (hy: Tk.At w y): Calls Tryz.prog 224 #[x.val,y.val] w fun e w' => e = .returned (.int .i64 (cTk x y)) ∧ ∃ q os,w' = grow (w.drewN q) os:= by
 have hO:= fun (W: World) (hg: Grew w W) => compareB_at x.a y.a x.cap y.cap x.ks y.ks W (hx.grew hg) (hy.grew hg)
 have hg2: ∀ o o': Obj,Grew w ((w.alloc o).alloc o'):= fun o o' => ((Grew.refl w).allocs o).allocs o'
 show Calls _ _ _ _ fun e w' => e = .returned (.int .i64 (cL cBd x.ks y.ks)) ∧ Grew w w'
 generalize cL cBd x.ks y.ks = r at *
 obtain ⟨xi,xa,xc,xk⟩:= x;obtain ⟨yi,ya,yc,yk⟩:= y
 go_enter Tryz.func224,Tryz.ntmps224
 go_wp2_with fail
 refine (hO _ (hg2 _ _)).mono ?_;rintro e w1 ⟨rfl,hg⟩
 go_wp2_with fail
 go_ret
 exact ⟨rfl,(hg2 _ _).trans hg⟩
theorem same1_at (x y: Tk) (w: World) (hx: Tk.At w x) (hy: Tk.At w y): Calls Tryz.prog 227 #[x.val,y.val] w fun e w' => e = .returned (.bool (decide (cTk x y = 0))) ∧ ∃ q os,w' = grow (w.drewN q) os:= by
 have hO:= fun (W: World) (hg: Grew w W) => compareB_at x.a y.a x.cap y.cap x.ks y.ks W (hx.grew hg) (hy.grew hg)
 have hg2: ∀ o o': Obj,Grew w ((w.alloc o).alloc o'):= fun o o' => ((Grew.refl w).allocs o).allocs o'
 show Calls _ _ _ _ fun e w' => e = .returned (.bool (decide (cL cBd x.ks y.ks = 0))) ∧ Grew w w'
 generalize cL cBd x.ks y.ks = r at *
 obtain ⟨xi,xa,xc,xk⟩:= x;obtain ⟨yi,ya,yc,yk⟩:= y
 go_enter Tryz.func227,Tryz.ntmps227
 go_wp2_with fail
 refine (hO _ (hg2 _ _)).mono ?_;rintro e w1 ⟨rfl,hg⟩
 go_wp2_with fail
 go_ret
 refine ⟨ret_bool ?_,(hg2 _ _).trans hg⟩
 rw [Bool.eq_iff_iff];simp
end Go.Proofs.YtpdmmmdkpipmkaaGreatDoor
namespace Go.Proofs.YtpdmmmdkpipmkaaGreatDoor
open Go.RowKit Go.Sort
def RowK2 (w: World) (b: Nat) (xs: List Tk): Prop:= ∀ i (hi: i < xs.length) c,c < 2 → w.cell? ⟨b,i * 2 + c,none⟩ = (tkv xs[i])[c]? ∧ w.frozen? ⟨b,i * 2 + c,none⟩ = false
theorem RowK2.below {w w': World} {b: Nat} {xs: List Tk} {B: Nat} (h: RowK2 w b xs) (hb: Below B w w') (hB: b < B): RowK2 w' b xs:= fun i hi c hc => by
 rw [hb.cell (p:= ⟨b,i * 2 + c,none⟩) hB,hb.frozen (p:= ⟨b,i * 2 + c,none⟩) hB];exact h i hi c hc
theorem RowK2.get {w: World} {b: Nat} {xs: List Tk} (h: RowK2 w b xs) (i: Nat) (hi: i < xs.length):
 w.cell? ⟨b,i * 2,none⟩ = some (.int .i64 (xs[i].i: Int)) ∧ w.cell? ⟨b,i * 2 + 1,none⟩ = some (.slice xs[i].a xs[i].ks.length xs[i].cap):=
 ⟨(h i hi 0 (by omega)).1,(h i hi 1 (by omega)).1⟩
theorem RowK2.thaw {w: World} {b: Nat} {xs: List Tk} (h: RowK2 w b xs) (i: Nat) (hi: i < xs.length): w.frozen? ⟨b,i * 2,none⟩ = false ∧ w.frozen? ⟨b,i * 2 + 1,none⟩ = false:= ⟨(h i hi 0 (by omega)).2,(h i hi 1 (by omega)).2⟩
theorem RowK2.store {w: World} {b: Nat} {ys: List Tk} (h: RowK2 w b ys) (k: Nat) (hk: k < ys.length) (x: Tk):
 RowK2 ((w.setCell ⟨b,k * 2,none⟩ (.int .i64 (x.i: Int))).setCell ⟨b,k * 2 + 1,none⟩ (.slice x.a x.ks.length x.cap)) b (ys.set k x):= by
 obtain ⟨c0,c1⟩:= h.get k hk
 intro i hi c hc
 rw [List.length_set] at hi
 obtain ⟨h1,h2⟩:= h i hi c hc
 refine ⟨?_,by simpa using h2⟩
 by_cases e: k = i
 ·subst e
  rw [List.getElem_set_self]
  match c,hc with
  | 0,_ => simp [World.cell?_setCell_other,World.cell?_setCell_same',c0,tkv]
  | 1,_ => simp [World.cell?_setCell_other,World.cell?_setCell_same',c1,tkv]
 ·rw [List.getElem_set_ne e,← h1]
  rw [World.cell?_setCell_other,World.cell?_setCell_other]
  all_goals (simp only [ne_eq,Addr.mk.injEq,not_and];intros;omega)
abbrev InT (P: Tk → Prop): Type:= { x: Tk // P x }
abbrev encInT (P: Tk → Prop) (x: InT P): List Value:= tkv x.1
def allInT (P: Tk → Prop) (xs: List Tk) (h: ∀ x ∈ xs,P x): List (InT P):= xs.pmap Subtype.mk h
theorem allInT_val (P: Tk → Prop) (xs: List Tk) (h: ∀ x ∈ xs,P x): (allInT P xs h).map (·.1) = xs:= by
 unfold allInT;rw [List.map_pmap];simp
theorem rowT_holdsK (P: Tk → Prop) (w: World) [Inhabited (InT P)] (b: Nat) (d: List (InT P)): RowK2 w b (d.map (·.1)) ↔ HoldsK (encInT P) 2 w b 0 d.toArray:= by
 constructor
 ·intro h t ht
  rw [size_flatK] at ht
  have ht': t < d.length * 2:= by simpa using ht
  have hi: t / 2 < d.length:= by omega
  have h1:= h (t / 2) (by simpa using hi) (t % 2) (Nat.mod_lt _ (by decide))
  rw [show 0 + t = t / 2 * 2 + t % 2 by omega]
  refine ⟨?_,h1.2⟩
  rw [h1.1,get_flatK _ _ _ _ ht,getElem!_pos d.toArray (t / 2) (by simpa using hi)]
  have hc: t % 2 < (tkv d[t / 2].1).length:= by rw [tkv_len];omega
  simp only [List.getElem_map,List.getElem_toArray,encInT,id]
  rw [List.getElem?_eq_getElem hc,getElem!_pos (tkv d[t / 2].1) _ hc]
 ·intro h i hi c hc
  have hi': i < d.length:= by simpa using hi
  have:= h.cell (i:= i) (c:= c) (by simpa using hi') hc
  rw [Nat.zero_add] at this
  refine ⟨?_,this.2⟩
  rw [this.1,getElem!_pos d.toArray i (by simpa using hi')]
  have hc': c < (tkv d[i].1).length:= by rw [tkv_len];omega
  simp only [List.getElem_map,List.getElem_toArray,encInT]
  rw [List.getElem?_eq_getElem hc',getElem!_pos (tkv d[i].1) _ hc']
def SortedT (ys: List Tk): Prop:= ∀ i j (hi: i < ys.length) (hj: j < ys.length),i < j → cTk ys[i] ys[j] ≤ 0
def KeptT (blk: Nat) (w: World) (x: Tk): Prop:= ∀ W,But blk w W → Tk.At W x
theorem sortT_at (w: World) (blk cap: Nat) (xs: List Tk) (hxs: ∀ x ∈ xs,KeptT blk w x) (hrow: RowK2 w blk xs) (hblk: blk < w.heap.size) (hlen: xs.length < 4611686018427387904):
 Calls Tryz.prog 223 #[.slice (some ⟨blk,0,none⟩) xs.length cap,.func (.func 224) #[] #[]] w fun e w' => e = .returned (.tuple #[]) ∧ ∃ ys: List Tk,ys.Perm xs ∧ SortedT ys ∧ RowK2 w' blk ys ∧ But blk w w':= by
 have eg: ∀ args w,(callFunc 224 args).run Tryz.prog w = .ok (.enter 224 args) w:= enters_of Tryz.func224 (by kernel_rfl) rfl
 haveI: Inhabited (InT (KeptT blk w)):= ⟨⟨⟨0,none,0,[]⟩,fun W _ => Row.nil bK W⟩⟩
 have hd: (allInT (KeptT blk w) xs hxs).length = xs.length:= by rw [← List.length_map (f:= fun x: InT (KeptT blk w) => x.1),allInT_val]
 have hH: HoldsK (encInT (KeptT blk w)) 2 w blk 0 (allInT (KeptT blk w) xs hxs).toArray:= (rowT_holdsK (KeptT blk w) w blk _).1 (by rw [allInT_val];exact hrow)
 have hpre:= pre_cTk.on (fun x: InT (KeptT blk w) => x.1)
 have hcmp: CmpLays Tryz.prog 224 #[] (encInT (KeptT blk w)) 2 (fun x y => cTk x.1 y.1) blk 0 (allInT (KeptT blk w) xs hxs).toArray.size w:= fun m os dk _ x y => by
  have hbw: But blk w (sortWorldK (encInT (KeptT blk w)) 2 w blk 0 m dk os):= but_sortWorldK _ _ _ _ _ _ _ _
  exact order1_at x.1 y.1 _ (x.2 _ hbw) (y.2 _ hbw)
 have hO: SWO (ltOf fun x y: InT (KeptT blk w) => cTk x.1 y.1):= by
  refine ⟨fun x => ?_,fun x y z h1 h2 => ?_,fun x y z h1 h2 => ?_⟩
  ·show decide (cTk x.1 x.1 < 0) = false;rw [hpre.refl x];rfl
  ·simp only [ltOf,decide_eq_true_eq] at *;exact hpre.lt_of_lt_of_le h1 (Int.le_of_lt h2)
  ·simp only [ltOf,decide_eq_false_iff_not,Int.not_lt] at *
   have a1:= hpre.anti x y;have a2:= hpre.anti y z;have a3:= hpre.anti x z
   have:= hpre.trans z y x (by omega) (by omega)
   omega
 have:= AnyQ.slices_SortFunc Tryz.sortT 2 Tryz.isAgg263 Tryz.sizeOf263 (encInT (KeptT blk w)) (fun x => tkv_len x.1) (fun x v hv => tkv_one x.1 v hv) (fun x y => cTk x.1 y.1) hO 224 #[] blk 0 cap (allInT (KeptT blk w) xs hxs).toArray w eg hcmp hH hblk (by simpa [hd] using hlen)
 rw [List.size_toArray,hd] at this
 refine this.mono fun e w' ⟨h1,d',n,os,hp,hs,hw⟩ => ⟨h1,d'.toList.map (·.1), ?_, ?_, ?_, ?_⟩
 ·have hsz: d'.size = xs.length:= by rw [hp.1,List.size_toArray,hd]
  have h3:= hp.2.2
  have e1: d'.extract 0 xs.length = d':= by rw [← hsz];exact Array.extract_size
  have e2: (allInT (KeptT blk w) xs hxs).toArray.extract 0 xs.length = (allInT (KeptT blk w) xs hxs).toArray:= by
   have:= Array.extract_size (xs:= (allInT (KeptT blk w) xs hxs).toArray)
   rwa [List.size_toArray,hd] at this
  rw [e1,e2] at h3
  have:= h3.map (fun x: InT (KeptT blk w) => x.1)
  rwa [List.toList_toArray,allInT_val] at this
 ·have hsz: d'.size = xs.length:= by rw [hp.1,List.size_toArray,hd]
  intro i j hi hj hij
  rw [List.length_map,Array.length_toList] at hi hj
  have h3:= hs i j (Nat.zero_le _) hij (by omega)
  rw [getElem!_pos d' i hi,getElem!_pos d' j hj] at h3
  simp only [ltOf,decide_eq_false_iff_not,Int.not_lt] at h3
  simp only [List.getElem_map,Array.getElem_toList]
  have:= pre_cTk.anti d'[i].1 d'[j].1
  omega
 ·rw [rowT_holdsK (KeptT blk w),Array.toArray_toList,hw]
  exact holdsK_sortWorldK_c (encInT (KeptT blk w)) 2 w blk 0 (allInT (KeptT blk w) xs hxs).toArray d' n os hH hblk hp.1
 ·rw [hw];exact but_sortWorldK _ _ _ _ _ _ _ _
theorem sortT_none (p: Option Addr) (cap: Nat) (f: Value) (w: World): Calls Tryz.prog 223 #[.slice p 0 cap,f] w fun e w' => e = .returned (.tuple #[]) ∧ w = w':=
 (AnyF.slices_SortFunc_none Tryz.sortT p cap f w).mono fun _ _ ⟨h1,h2⟩ => ⟨h1,h2.symm⟩
theorem clear_tk (w: World) (b o n c: Nat) (hn: 0 < n) (hc: ∀ j,j < n * 2 → (w.cell? ⟨b,o + j,none⟩).isSome = true) (hf: ∀ j,j < n * 2 → w.frozen? ⟨b,o + j,none⟩ = false):
 ∃ Z: List Value,Z.length = n * 2 ∧ ∀ ty,(Builtin.clear_ #[260] ty #[.slice (some ⟨b,o,none⟩) n c]).run Tryz.prog w = .ok (.tuple #[]) (w.setCells b o Z):=
 run_clear_any 260 263 #[.int .i64 0,.slice none 0 0] 2 Tryz.underlying260 rfl (by decide) (fun i hi => by
  match i,hi with
  | 0,_ => rfl
  | 1,_ => rfl) Tryz.zeroValue263 w b o n c hn fun j hj => ⟨hc j hj,hf j hj⟩
theorem RowK2.head {w: World} {b: Nat} {xs ys: List Tk} (h: RowK2 w b (xs ++ ys)) (Z: List Value): RowK2 (w.setCells b (xs.length * 2) Z) b xs:= fun i hi c hc => by
 obtain ⟨h1,h2⟩:= h i (by rw [List.length_append];omega) c hc
 rw [List.getElem_append_left hi] at h1
 refine ⟨?_,by rw [frozen_setCells];exact h2⟩
 rw [World.cell?_setCells_out,h1]
 intro _ _
 left
 show i * 2 + c < xs.length * 2
 omega
theorem RowK2.some {w: World} {b: Nat} {xs: List Tk} (h: RowK2 w b xs) (j: Nat) (hj: j < xs.length * 2): (w.cell? ⟨b,j,none⟩).isSome = true ∧ w.frozen? ⟨b,j,none⟩ = false:= by
 have:= h (j / 2) (by omega) (j % 2) (Nat.mod_lt _ (by decide))
 rw [show j / 2 * 2 + j % 2 = j by omega] at this
 refine ⟨?_,this.2⟩
 rw [this.1,List.getElem?_eq_getElem (by rw [tkv_len];omega)];rfl
theorem midT_get (xs L: List Tk) (i: Nat) (hi: i < xs.length) (hL: L.length ≤ i): (L ++ xs.drop L.length)[i]'(by simp;omega) = xs[i]:= by
 rw [List.getElem_append_right hL,List.getElem_drop]
 congr 1;omega
theorem midT_set (xs L: List Tk) (x: Tk) (hL: L.length < xs.length): (L ++ xs.drop L.length).set L.length x = (L ++ [x]) ++ xs.drop (L ++ [x]).length:= by
 rw [List.set_append_right _ _ (Nat.le_refl _),Nat.sub_self,List.drop_eq_getElem_cons hL,List.set_cons_zero,List.append_assoc,List.length_append]
 rfl
theorem compactT_at (w: World) (blk cap: Nat) (xs: List Tk) (hxs: ∀ x ∈ xs,KeptT blk w x) (hrow: RowK2 w blk xs) (hblk: blk < w.heap.size) (hcap: xs.length ≤ cap) (hlen: xs.length < 4611686018427387904):
 Calls Tryz.prog 226 #[.slice (some ⟨blk,0,none⟩) xs.length cap,.func (.func 227) #[] #[]] w
  fun e w' => e = .returned (.slice (some ⟨blk,0,none⟩) (kept cTk xs xs.length).length cap) ∧ RowK2 w' blk (kept cTk xs xs.length) ∧ But blk w w':= by
 have mixed: Tryz.prog.follows .mixedOrders = true:= by kernel_rfl
 have eg: ∀ args w,(callFunc 227 args).run Tryz.prog w = .ok (.enter 227 args) w:= enters_of Tryz.func227 (by kernel_rfl) rfl
 have hC:= fun (x y: Tk) (W: World) (hx: Tk.At W x) (hy: Tk.At W y) => same1_at x y W hx hy
 by_cases h2: xs.length < 2
 ·have q1: (xs.length: Int) < 2:= by omega
  have hk: kept cTk xs xs.length = xs:= by
   rw [kept_all cTk xs xs.length (Nat.le_refl _) (fun j h h0 hk => by omega),List.take_length]
  rw [hk]
  go_enter Tryz.func226,Tryz.ntmps226
  go_wp2_with fail
  go_ret
  exact ⟨rfl,hrow,But.refl _ _⟩
 ·have q1: ¬ (xs.length: Int) < 2:= by omega
  go_enter Tryz.func226,Tryz.ntmps226
  go_wp2_with fail
  go_loopw [5,6,7] (fun v _ _ wr => ∃ k: Nat,v = .int .i64 (k: Int) ∧ 1 ≤ k ∧ k ≤ xs.length ∧ Hid (∀ j (h: j < xs.length),0 < j → j < k → cTk xs[j] (xs[j - 1]'(by omega)) ≠ 0) ∧ Grew w wr) (fun v _ _ _ => xs.length - (RowKit.intOf v).toNat)
  case atStart => exact ⟨1,rfl,by omega,by omega,fun j _ h0 h => absurd h (by omega),Grew.refl _⟩
  case round =>
   obtain ⟨k,rfl,hk1,hk,hev,hg⟩:= hrel
   by_cases hlt: k < xs.length
   ·have q2: (k: Int) < (xs.length: Int):= by omega
    obtain ⟨m,hm⟩: ∃ m,k = m + 1:= ⟨k - 1,by omega⟩
    have q3: IntKind.i64.wrap ((k: Int) - 1) = (m: Int):= by simp [IntKind.wrap,IntKind.bits,IntKind.signed];omega
    have q4: (m: Int) < (xs.length: Int):= by omega
    have hml: m < xs.length:= by omega
    have em: k - 1 = m:= by omega
    have hrow':= hrow.below hg.below hblk
    obtain ⟨a1,a2⟩:= hrow'.get k hlt
    obtain ⟨d1,d2⟩:= hrow'.get m hml
    have hBr: But blk w wr:= But.of_below hg.below
    have hxk: Tk.At wr (xs[k]'hlt):= hxs _ (List.getElem_mem _) _ hBr
    have hxj: Tk.At wr (xs[m]'hml):= hxs _ (List.getElem_mem _) _ hBr
    have hn: ∀ n os,Calls Tryz.prog 227 #[Tk.val (xs[k]'hlt),Tk.val (xs[m]'hml)] (grow (wr.drewN n) os) _:= fun n os => hC (xs[k]'hlt) (xs[m]'hml) _ (hxk.grew (Grew.grow _ _ _)) (hxj.grew (Grew.grow _ _ _))
    have A1:= fun n os => cell_grown (cell_block a1) a1 n os
    have A2:= fun n os => cell_grown (cell_block a2) a2 n os
    have D1:= fun n os => cell_grown (cell_block d1) d1 n os
    have D2:= fun n os => cell_grown (cell_block d2) d2 n os
    generalize hp: (xs[k]'hlt) = p at *
    generalize hq: (xs[m]'hml) = q at *
    have Hp:= hideP hp;have Hq:= hideP hq;have Hm:= hideP hm;have Em:= hideP em;have HX:= hideP hxs;have HC:= hideP hC;clear hm em hp hq hC hxk hxj hxs a1 a2 d1 d2
    by_cases hr: cTk p q = 0
    ·simp only [hr,decide_true] at hn
     go_wp2_with fail
     go_quiet_grown (first | (go_at_fn 227;refine Calls.grown_of (hn _ _)))
     have G1: Grew w (grow (wr.drewN nq) osq):= hg.trans (Grew.grow _ _ _)
     generalize grow (wr.drewN nq) osq = w1 at *
     have q5: ¬ cap = k:= by omega
     have q6: k ≤ cap:= by omega
     have q7: (k: Int) ≤ (cap: Int):= by omega
     have q8: (k: Int) ≤ (xs.length: Int):= by omega
     go_wp2_with fail
     have hdup: Hid (kept cTk xs (k + 1) = xs.take k):= by
      show _ = _
      rw [kept_dup cTk xs k (by omega) hlt (by simp only [Em.out,Hp.out,Hq.out];exact hr)]
      exact kept_all cTk xs k (by omega) hev.out
     obtain ⟨n2,hn2⟩: ∃ n2,xs.length - k = n2:= ⟨_,rfl⟩
     have Hn2:= hideP hn2
     rw [hn2]
     clear hn2 hn A1 A2 D1 D2 hr hev hrow' hBr hg
     go_loopw [5,7] (fun v5 v7 wi => ∃ (t: Nat) (L: List Tk),1 ≤ t ∧ t ≤ n2 ∧ v7 = .int .i64 (t: Int) ∧ v5 = .int .i64 (L.length: Int) ∧ Hid (L = kept cTk xs (k + t)) ∧ L.length < k + t ∧ RowK2 wi blk (L ++ xs.drop L.length) ∧ But blk w wi) (fun _ v7 _ => n2 - (RowKit.intOf v7).toNat)
     case atStart =>
      have:= Hn2.out
      have hl: (xs.take k).length = k:= by rw [List.length_take];omega
      exact ⟨1,xs.take k,by omega,by omega,rfl,by rw [hl],hdup.out.symm,by omega,by rw [hl,List.take_append_drop];exact hrow.below G1.below hblk,(But.refl _ _).below G1.below⟩
     case round =>
      obtain ⟨t,L,ht1,ht,rfl,rfl,hL,hLl,hR,hbut⟩:= hrel
      have hnn:= Hn2.out
      by_cases hlt2: t < n2
      ·have q9: (t: Int) < (n2: Int):= by omega
       obtain ⟨m2,hm2⟩: ∃ m2,t = m2 + 1:= ⟨t - 1,by omega⟩
       have qa: IntKind.i64.wrap ((t: Int) - 1) = (m2: Int):= by simp [IntKind.wrap,IntKind.bits,IntKind.signed];omega
       have qb: (m2: Int) < (n2: Int):= by omega
       have hi: k + t < xs.length:= by omega
       have hj: k + m2 < xs.length:= by omega
       have hRl: (L ++ xs.drop L.length).length = xs.length:= by simp;omega
       have gi:= midT_get xs L (k + t) hi (by omega)
       have gj:= midT_get xs L (k + m2) hj (by omega)
       have getI: ∀ W,RowK2 W blk (L ++ xs.drop L.length) → W.cell? ⟨blk,k * 2 + t * 2,none⟩ = some (.int .i64 ((xs[k + t]'hi).i: Int)) ∧ W.cell? ⟨blk,k * 2 + t * 2 + 1,none⟩ = some (.slice (xs[k + t]'hi).a (xs[k + t]'hi).ks.length (xs[k + t]'hi).cap):= fun W h => by
        have:= h.get (k + t) (by omega)
        rwa [gi,Nat.add_mul] at this
       have getJ: ∀ W,RowK2 W blk (L ++ xs.drop L.length) → W.cell? ⟨blk,k * 2 + m2 * 2,none⟩ = some (.int .i64 ((xs[k + m2]'hj).i: Int)) ∧ W.cell? ⟨blk,k * 2 + m2 * 2 + 1,none⟩ = some (.slice (xs[k + m2]'hj).a (xs[k + m2]'hj).ks.length (xs[k + m2]'hj).cap):= fun W h => by
        have:= h.get (k + m2) (by omega)
        rwa [gj,Nat.add_mul] at this
       obtain ⟨a1,a2⟩:= getI _ hR
       obtain ⟨d1,d2⟩:= getJ _ hR
       have hn: ∀ n os,Calls Tryz.prog 227 #[Tk.val (xs[k + t]'hi),Tk.val (xs[k + m2]'hj)] (grow (wr.drewN n) os) _:= fun n os => HC.out (xs[k + t]'hi) (xs[k + m2]'hj) _ ((HX.out _ (List.getElem_mem hi) _ hbut).grew (Grew.grow _ _ _)) ((HX.out _ (List.getElem_mem hj) _ hbut).grew (Grew.grow _ _ _))
       have A1:= fun n os => cell_grown (cell_block a1) a1 n os
       have A2:= fun n os => cell_grown (cell_block a2) a2 n os
       have D1:= fun n os => cell_grown (cell_block d1) d1 n os
       have D2:= fun n os => cell_grown (cell_block d2) d2 n os
       have hdup':= kept_dup cTk xs (k + t) (by omega) hi
       have hnew':= kept_new cTk xs (k + t) (by omega) hi
       have ej: k + t - 1 = k + m2:= by omega
       simp only [ej] at hdup' hnew'
       have Hdup:= hideP hdup';have Hnew:= hideP hnew'
       have GetI:= hideP getI
       have hblkR: blk < wr.heap.size:= cell_block a1
       clear hdup' hnew' a1 a2 d1 d2 getI getJ gi gj
       generalize (xs[k + t]'hi) = p2 at *
       generalize (xs[k + m2]'hj) = r2 at *
       have Hm2:= hideP hm2;have Hej:= hideP ej;have HRl:= hideP hRl;have Hnn:= hideP hnn;clear hm2 ej hRl hnn
       by_cases hr: cTk p2 r2 = 0
       ·simp only [hr,decide_true] at hn
        go_wp2_with fail
        go_quiet_grown (first | (go_at_fn 227;refine Calls.grown_of (hn _ _)))
        go_wp2_with fail
        refine ⟨⟨t + 1,L,by omega,by omega,by simp,rfl, ?_,by omega, ?_, ?_⟩,by simp [RowKit.intOf];omega⟩
        ·show L = _;rw [hL.out];exact (Hdup.out hr).symm
        ·exact hR.below (Grew.grow wr _ _).below hblkR
        ·exact hbut.below (Grew.grow wr _ _).below
       ·simp only [hr,decide_false] at hn
        go_wp2_with fail
        go_quiet_grown (first | (go_at_fn 227;refine Calls.grown_of (hn _ _)))
        have hbut2:= hbut.below (Grew.grow wr nq osq).below
        have hR2:= hR.below (Grew.grow wr nq osq).below hblkR
        clear A1 A2 D1 D2 hn
        generalize grow (wr.drewN nq) osq = w2 at *
        obtain ⟨a1,a2⟩:= GetI.out _ hR2
        have hl: L.length < (L ++ xs.drop L.length).length:= by rw [HRl.out];omega
        obtain ⟨c1,c2⟩:= hR2.get L.length hl
        obtain ⟨f1,f2⟩:= hR2.thaw L.length hl
        have qc: (L.length: Int) < (xs.length: Int):= by omega
        have hst:= hR2.store L.length hl p2
        rw [midT_set xs L p2 (by omega)] at hst
        generalize (L ++ xs.drop L.length)[L.length]'hl = old at *
        go_wp2_with fail
        refine ⟨⟨t + 1,L ++ [p2],by omega,by omega,by simp,by simp, ?_,by simp;omega, ?_, ?_⟩,by simp [RowKit.intOf];omega⟩
        ·show L ++ [p2] = _;rw [hL.out];exact (Hnew.out hr).symm
        ·exact hst
        ·exact (hbut2.set _ _).set _ _
      ·have q9: ¬ (t: Int) < (n2: Int):= by omega
       have hkt: k + t = xs.length:= by omega
       have hRl: (L ++ xs.drop L.length).length = xs.length:= by simp;omega
       have qd: L.length < xs.length:= by omega
       obtain ⟨Z,hZ,hcl⟩:= clear_tk wr blk (L.length * 2) (xs.length - L.length) (cap - L.length) (by omega)
        (fun j hj => (hR.some (L.length * 2 + j) (by rw [hRl];omega)).1) (fun j hj => (hR.some (L.length * 2 + j) (by rw [hRl];omega)).2)
       have qe: (L.length: Int) ≤ (xs.length: Int):= by omega
       have qf: ¬ cap = L.length:= by omega
       have qg: (L.length: Int) ≤ (cap: Int):= by omega
       have qh: L.length ≤ cap:= by omega
       have HL: Hid (kept cTk xs xs.length = L):= by show _ = _;rw [hL.out,hkt]
       clear hL
       go_wp2_with fail
       go_ret
       rw [HL.out]
       exact ⟨rfl,hR.head Z,hbut.cells Z _ _⟩
    ·simp only [hr,decide_false] at hn
     go_wp2_with fail
     go_quiet_grown (first | (go_at_fn 227;refine Calls.grown_of (hn _ _)))
     go_wp2_with fail
     refine ⟨⟨k + 1,by simp,by omega,by omega,fun j h h0 hj => ?_,hg.trans (Grew.grow _ _ _)⟩,by simp [RowKit.intOf];omega⟩
     by_cases e: j = k
     ·subst e;have e2:= Em.out;simp only [e2,Hp.out,Hq.out];exact hr
     ·exact hev.out j h h0 (by omega)
   ·have q2: ¬ (k: Int) < (xs.length: Int):= by omega
    have hk: kept cTk xs xs.length = xs:= by
     rw [kept_all cTk xs xs.length (Nat.le_refl _) (fun j h h0 hk => hev.out j h h0 (by omega)),List.take_length]
    have Hk:= hideP hk;clear hk
    go_wp2_with fail
    go_ret
    rw [Hk.out]
    exact ⟨rfl,hrow.below hg.below hblk,(But.refl _ _).below hg.below⟩
end Go.Proofs.YtpdmmmdkpipmkaaGreatDoor
namespace Go.Proofs.YtpdmmmdkpipmkaaGreatDoor
open Go.RowKit Go.Sort
theorem Pre.zero_trans {α: Type} {c: α → α → Int} (h: Pre c) {x y z: α} (h1: c x y = 0) (h2: c y z = 0): c x z = 0:= by
 have a1:= h.anti x y;have a2:= h.anti y z;have a3:= h.anti x z
 have b1:= h.trans x y z (by omega) (by omega)
 have b2:= h.trans z y x (by omega) (by omega)
 omega
theorem kept_sub {α: Type} (c: α → α → Int) (l: List α): ∀ k,k ≤ l.length → List.Sublist (kept c l k) (l.take k)
 | 0,_ => by simp [kept]
 | k + 1,h => by
  rw [List.take_succ_eq_append_getElem (by omega)]
  by_cases h0: k = 0
  ·subst h0;rw [kept_one c l (by omega)];simp
  ·by_cases he: c l[k] (l[k - 1]'(by omega)) = 0
   ·rw [kept_dup c l k (by omega) (by omega) he]
    exact (kept_sub c l k (by omega)).trans (List.sublist_append_left _ _)
   ·rw [kept_new c l k (by omega) (by omega) he]
    exact (kept_sub c l k (by omega)).append (List.Sublist.refl _)
theorem kept_has {α: Type} {c: α → α → Int} (hc: Pre c) (l: List α): ∀ k,k ≤ l.length → ∀ j (hj: j < l.length),j < k → ∃ y ∈ kept c l k,c l[j] y = 0
 | 0,_,j,_,h => by omega
 | k + 1,h,j,hj,hjk => by
  by_cases h0: k = 0
  ·subst h0
   have: j = 0:= by omega
   subst this
   rw [kept_one c l (by omega)]
   exact ⟨_,List.mem_singleton.2 rfl,hc.refl _⟩
  ·by_cases he: c l[k] (l[k - 1]'(by omega)) = 0
   ·rw [kept_dup c l k (by omega) (by omega) he]
    by_cases e: j = k
    ·subst e
     obtain ⟨y,hy,hz⟩:= kept_has hc l j (by omega) (j - 1) (by omega) (by omega)
     exact ⟨y,hy,hc.zero_trans he hz⟩
    ·exact kept_has hc l k (by omega) j hj (by omega)
   ·rw [kept_new c l k (by omega) (by omega) he]
    by_cases e: j = k
    ·subst e;exact ⟨_,List.mem_append_right _ (List.mem_singleton.2 rfl),hc.refl _⟩
    ·obtain ⟨y,hy,hz⟩:= kept_has hc l k (by omega) j hj (by omega)
     exact ⟨y,List.mem_append_left _ hy,hz⟩
theorem cL_vals: ∀ x y: List Bd,cL cBd x y = cL cK (x.map (·.2)) (y.map (·.2))
 | [],[] => by simp [cL]
 | [],b:: y => by simp [cL]
 | a:: x,[] => by simp [cL]
 | a:: x,b:: y => by
  rw [List.map_cons,List.map_cons,cL,cL,cL_vals x y];rfl
theorem same_binds: ∀ {x y: List Bd},x.map (·.1) = y.map (·.1) → x.map (·.2) = y.map (·.2) → x = y
 | [],[],_,_ => rfl
 | [],_:: _,h,_ => by simp at h
 | _:: _,[],h,_ => by simp at h
 | (a,b):: x,(a',b'):: y,h1,h2 => by
  simp only [List.map_cons,List.cons.injEq] at h1 h2
  obtain ⟨rfl,h1⟩:= h1
  obtain ⟨rfl,h2⟩:= h2
  rw [same_binds h1 h2]
theorem filter_by_var {q: Bd → Bool} (hq: ∀ b b': Bd,b.1 = b'.1 → q b = q b'): ∀ {x y: List Bd},x.map (·.1) = y.map (·.1) → (x.filter q).map (·.1) = (y.filter q).map (·.1)
 | [],[],_ => rfl
 | [],_:: _,h => by simp at h
 | _:: _,[],h => by simp at h
 | a:: x,b:: y,h => by
  simp only [List.map_cons,List.cons.injEq] at h
  rw [List.filter_cons,List.filter_cons,hq a b h.1]
  split
  ·rw [List.map_cons,List.map_cons,h.1,filter_by_var hq h.2]
  ·exact filter_by_var hq h.2
structure TsOk (home: Tm) (l: Lt) (e0: Mt.Env) (m: List F) (q: Bd → Bool) (j: Nat) (ts: List Tk): Prop where
 each: ∀ x ∈ ts,x.i < j ∧ ∃ f e1,m[x.i]? = some f ∧ Mt.lit home l f e0 = some e1 ∧ x.ks = e1.filter fun b => !q b
 nodup: (ts.map Tk.i).Nodup
 all: ∀ i,i < j → ∀ f e1,m[i]? = some f → Mt.lit home l f e0 = some e1 → ∃ x ∈ ts,x.i = i
theorem TsOk.start (home: Tm) (l: Lt) (e0: Mt.Env) (m: List F) (q: Bd → Bool): TsOk home l e0 m q 0 []:= ⟨fun _ h => by simp at h,by simp,fun _ h => by omega⟩
theorem TsOk.skip {home: Tm} {l: Lt} {e0: Mt.Env} {m: List F} {q: Bd → Bool} {j: Nat} {ts: List Tk} (h: TsOk home l e0 m q j ts) (hn: ∀ f,m[j]? = some f → Mt.lit home l f e0 = none): TsOk home l e0 m q (j + 1) ts:=
 ⟨fun x hx => ⟨by have:= (h.each x hx).1;omega,(h.each x hx).2⟩,h.nodup,fun i hi f e1 hf he => by
  by_cases e: i = j
  ·subst e;rw [hn f hf] at he;cases he
  ·exact h.all i (by omega) f e1 hf he⟩
theorem TsOk.put {home: Tm} {l: Lt} {e0: Mt.Env} {m: List F} {q: Bd → Bool} {j: Nat} {ts: List Tk} {x: Tk} {f: F} {e1: Mt.Env} (h: TsOk home l e0 m q j ts) (hx: x.i = j) (hf: m[j]? = some f) (he: Mt.lit home l f e0 = some e1) (hk: x.ks = e1.filter fun b => !q b): TsOk home l e0 m q (j + 1) (ts ++ [x]):=
 ⟨fun y hy => by
  rcases List.mem_append.1 hy with hy | hy
  ·exact ⟨by have:= (h.each y hy).1;omega,(h.each y hy).2⟩
  ·rw [List.mem_singleton] at hy;subst hy;exact ⟨by omega,f,e1,by rw [hx];exact hf,he,hk⟩,
  by
   rw [List.map_append,List.map_cons,List.map_nil,List.nodup_append]
   refine ⟨h.nodup,by simp,fun a ha b hb => ?_⟩
   rw [List.mem_singleton] at hb
   obtain ⟨y,hy,rfl⟩:= List.mem_map.1 ha
   have:= (h.each y hy).1
   omega,
  fun i hi f' e' hf' he' => by
   by_cases e: i = j
   ·subst e;exact ⟨x,by simp,hx⟩
   ·obtain ⟨y,hy,hyi⟩:= h.all i (by omega) f' e' hf' he'
    exact ⟨y,List.mem_append_left _ hy,hyi⟩⟩
theorem TsOk.choice {home: Tm} {l: Lt} {e0: Mt.Env} {m: List F} {fs la: List UInt8 → Nat} {k: Nat} {ts ys: List Tk} (h: TsOk home l e0 m (Ml.own fs la k) m.length ts) (hp: ys.Perm ts): Ml.Ch home fs la e0 m k l ((kept cTk ys ys.length).map Tk.i):= by
 have hsub:= kept_sub cTk ys ys.length (Nat.le_refl _)
 rw [List.take_length] at hsub
 have hmem: ∀ x ∈ kept cTk ys ys.length,x ∈ ts:= fun x hx => hp.mem_iff.1 (hsub.subset hx)
 refine ⟨(hsub.map Tk.i).nodup ((hp.map Tk.i).nodup_iff.2 h.nodup),fun i hi => ?_,fun f hf e1 he => ?_⟩
 ·obtain ⟨x,hx,rfl⟩:= List.mem_map.1 hi
  exact (h.each x (hmem x hx)).1
 ·obtain ⟨i,hi⟩:= List.getElem?_of_mem hf
  obtain ⟨x,hx,rfl⟩:= h.all i (List.getElem?_eq_some_iff.1 hi).1 f e1 hi he
  obtain ⟨jx,hjx,hx2⟩:= List.mem_iff_getElem.1 (hp.mem_iff.2 hx)
  obtain ⟨y,hy,hz⟩:= kept_has pre_cTk ys ys.length (Nat.le_refl _) jx hjx hjx
  rw [hx2] at hz
  obtain ⟨_,f',e',hf',he',hk'⟩:= h.each x hx
  rw [hi] at hf';cases hf'
  rw [he] at he';cases he'
  obtain ⟨_,g,e2,hg,hge,hk2⟩:= h.each y (hmem y hy)
  refine ⟨y.i,List.mem_map_of_mem hy,g,e2,hg,hge, ?_⟩
  rw [← hk',← hk2]
  refine same_binds ?_ ((cL_zero cK_zero _ _).1 (by rw [← cL_vals];exact hz))
  rw [hk',hk2]
  exact filter_by_var (fun b b' hb => by unfold Ml.own;rw [hb]) (Ml.lit_vars rfl he hge)
theorem eqSpan (x y: Nat × Nat) (w: World): (Op.equalIn 10000 235 (spv x) (spv y)).run Tryz.prog w = .ok (decide (x.1 = y.1) && decide (x.2 = y.2)) w:= by
 rw [run_equalIn_struct w 9999 235 _ _ (by kernel_rfl) (by kernel_rfl)]
 simp only [Program.fieldsOf,Tryz.underlying235,Op.eqFields]
 simp [part,Tryz.isAgg3,run_equalIn_int w 9998 _ _ _ _ _ Tryz.underlying3]
 by_cases h1: x.1 = y.1 <;> by_cases h2: x.2 = y.2 <;> simp [h1,h2] <;> omega
theorem ownC_at (b: Bd) (bs bk bm k n: Nat) (f: Ml.SpF) (w: World) (hs: w.heap[bs]? = some (.cells #[.map (some bm)] 193)) (hk: w.heap[bk]? = some (.cells #[.int .i64 (k: Int)] 3)) (S: SpansAt w bm f n) (hb: b.1.length ≤ maxLen):
 Calls Tryz.prog 192 #[bval b,ptr bs,ptr bk] w fun e w' => e = .returned (.bool (Ml.own (Ml.fsOf f) (Ml.laOf f) k b)) ∧ Below w.heap.size w w':= by
 obtain ⟨v,⟨nm,n,s⟩⟩:= b
 simp only at hb
 have A0:= below_alloc w (.cells #[str v,.bool nm,.int .i64 n,str s] 143)
 have n0:= heap_alloc_new w (.cells #[str v,.bool nm,.int .i64 n,str s] 143)
 have s0:= below_heap A0 hs
 have k0:= below_heap A0 hk
 have L0:= (S.next A0).look1 v hb
 have E0:= hideP (fun W => eqSpan ((f v).getD (0,0)) (k,k) W)
 have HR: Hid (Ml.own (Ml.fsOf f) (Ml.laOf f) k (v,⟨nm,n,s⟩) = (decide (((f v).getD (0,0)).1 = k) && decide (((f v).getD (0,0)).2 = k))):= rfl
 generalize (f v).getD (0,0) = x at *
 generalize hW: w.alloc (.cells #[str v,.bool nm,.int .i64 n,str s] 143) = W at *
 have c0: W.cell? ⟨bs,0,none⟩ = some (.map (some bm)):= by rw [heap_cell s0];rfl
 have c1: W.cell? ⟨bk,0,none⟩ = some (.int .i64 (k: Int)):= by rw [heap_cell k0];rfl
 have c2: W.cell? ⟨w.heap.size,0,none⟩ = some (str v):= by rw [heap_cell n0];rfl
 have E:= E0.out
 simp only at E
 go_enter Tryz.func192,Tryz.ntmps192
 go_wp2_with fail
 go_ret
 exact ⟨ret_bool HR.out.symm,A0⟩
theorem own_fn (bs bk bm k n: Nat) (f: Ml.SpF) (w: World) (hs: w.heap[bs]? = some (.cells #[.map (some bm)] 193)) (hk: w.heap[bk]? = some (.cells #[.int .i64 (k: Int)] 3)) (S: SpansAt w bm f n):
 FnB 192 #[ptr bs,ptr bk] (Ml.own (Ml.fsOf f) (Ml.laOf f) k) (fun b => b.1.length ≤ maxLen) w:=
 ⟨enters_of Tryz.func192 (by kernel_rfl) rfl,fun b W hb hW => by
  obtain ⟨es,ck,hm⟩:= S.map
  exact ownC_at b bs bk bm k n f W (hW _ _ hs fun c z e => by cases e) (hW _ _ hk fun c z e => by cases e) (S.block (by rw [hm];exact hW _ _ hm fun c z e => by cases e)) hb⟩
end Go.Proofs.YtpdmmmdkpipmkaaGreatDoor
namespace Go.Proofs.YtpdmmmdkpipmkaaGreatDoor
open Go.RowKit Go.Sort Go.Lib Go.Shelf
def iK: Kd Nat:= ⟨fun n => [.int .i64 (n: Int)],1,fun _ => rfl,fun _ => rfl,by decide⟩
theorem Tryz.iTk: (Tryz.prog.info? 263).map (fun i => (i.zero,i.size,i.bytes)) = some (some (.agg #[.int .i64 0,.slice none 0 0]),tkK.k,32):= by kernel_rfl
theorem Tryz.iIn: (Tryz.prog.info? 3).map (fun i => (i.zero,i.size,i.bytes)) = some (some (.int .i64 0),iK.k,8):= by kernel_rfl
theorem iF4: (Tryz.prog.info? 37).map (·.size) = some 4:= by kernel_rfl
theorem iTk2: (Tryz.prog.info? 263).map (·.size) = some 2:= by kernel_rfl
structure Fts (w: World) (a: Option Addr) (c: Nat) (zs: List Fv): Prop where
 row: Row fK w a c zs
 each: ∀ z ∈ zs,Fv.At w z
theorem Fts.below {w w': World} {a: Option Addr} {c: Nat} {zs: List Fv} (h: Fts w a c zs) (hb: Below w.heap.size w w'): Fts w' a c zs:= ⟨h.row.below hb (Nat.le_refl _),fun z hz => Fv.At.below (h.each z hz) hb (Nat.le_refl _)⟩
theorem blk_rowK2 {w: World} {g: Nat} {ts: List Tk} (h: Blk tkK 263 w g ts): RowK2 w g ts:= fun i hi c hc => by
 have r:= h.range i hi
 obtain ⟨cur,h1,_⟩:= h
 refine ⟨?_,heap_frozen h1 _⟩
 have: c < (tkv ts[i]).length:= by rw [tkv_len];exact hc
 rw [List.getElem?_eq_getElem this]
 exact r c _ (List.getElem?_eq_getElem this)
theorem compactT_none (f: Value) (w: World): Calls Tryz.prog 226 #[.slice none 0 0,f] w fun e w' => e = .returned (.slice none 0 0) ∧ w = w':= by
 go_enter Tryz.func226,Tryz.ntmps226
 go_wp2_with fail
 go_ret
 exact ⟨rfl,rfl⟩
theorem kept_call (w: World) (v: Value) (base: Nat) (ts: List Tk) (hO: w.ownsRow base 263 tkK.k v ts.length (ts.flatMap tkK.enc)) (hr: ∀ x ∈ ts,RowT bK 143 w x.a x.cap x.ks) (hb: base ≤ w.heap.size) (hl: ts.length ≤ 1000000):
 Calls Tryz.prog 223 #[v,.func (.func 224) #[] #[]] w fun e w1 => e = .returned (.tuple #[]) ∧ Below base w w1 ∧
  Calls Tryz.prog 226 #[v,.func (.func 227) #[] #[]] w1 fun e w2 => ∃ (ys: List Tk) (a: Option Addr) (c: Nat),ys.Perm ts ∧ e = .returned (.slice a (kept cTk ys ys.length).length c) ∧ Below base w w2 ∧ (kept cTk ys ys.length).length ≤ ts.length ∧ Row tkK w2 a c (kept cTk ys ys.length):= by
 rcases own_blk (D:= tkK) hO with ⟨rfl,rfl⟩ | ⟨g,cap,rfl,hg,hc,hm,hB⟩
 ·refine (sortT_none none 0 _ w).mono ?_
  rintro e w1 ⟨rfl,rfl⟩
  refine ⟨rfl,Below.refl _ _,(compactT_none _ w).mono ?_⟩
  rintro e w2 ⟨rfl,rfl⟩
  exact ⟨[],none,0,List.Perm.refl _,rfl,Below.refl _ _,by simp [kept],Row.nil _ _⟩
 ·obtain ⟨cur,hcur,_⟩:= id hB
  have hK: ∀ x ∈ ts,KeptT g w x:= fun x hx W hW => ((hr x hx).safe (Safe.but hW hcur (by decide))).row
  refine (sortT_at w g cap ts hK (blk_rowK2 hB) hB.lt (by omega)).mono ?_
  rintro e w1 ⟨rfl,ys,hp,_,hrow,hbut⟩
  have hlen:= hp.length_eq
  refine ⟨rfl,hbut.lower hg hb, ?_⟩
  have hK1: ∀ x ∈ ys,KeptT g w1 x:= fun x hx W hW => hK x (hp.mem_iff.1 hx) W (hbut.trans hW)
  have:= compactT_at w1 g cap ys hK1 hrow (by have:= hB.lt;have:= hbut.size;omega) (by omega) (by omega)
  rw [hlen] at this
  refine this.mono ?_
  rintro e w2 ⟨rfl,h2,hbut2⟩
  have hkl: (kept cTk ys ts.length).length ≤ ts.length:= kept_len cTk ys _ (by omega)
  have RR: Row tkK w2 (some ⟨g,0,none⟩) cap (kept cTk ys ts.length):= by
   refine ⟨by omega,by omega,(fun h => by cases h),fun ad ha j u hu => ?_⟩
   cases ha
   obtain ⟨i,c,hi,hc',rfl,hv⟩:= flat_spot tkv 2 tkv_len _ j u hu
   rw [Addr.add_lit,Nat.zero_add,(h2 i hi c hc').1,hv]
  exact ⟨ys,some ⟨g,0,none⟩,cap,hp,by rw [hlen],(hbut.trans hbut2).lower hg hb,by rw [hlen];exact hkl,by rw [hlen];exact RR⟩
theorem choice_at (home: Tm) (y: Lv) (a: Option Addr) (c: Nat) (e0: List Bd) (ma: Option Addr) (mc: Nat) (zs: List Fv) {F: Nat} {cv: Array Value} (fs la: List UInt8 → Nat) (k: Nat) (w: World) (he: Row bK w a c e0) (hy: Lv.Aw w y) (hz: Fts w ma mc zs)
 (fn: FnB F cv (Ml.own fs la k) (fun b => b.1.length ≤ maxLen) w) (hok: ∀ z ∈ zs,∀ b ∈ litE home y.l z.f e0,b.1.length ≤ maxLen) (hf: e0.length + y.args.length ≤ 800000) (hm: zs.length ≤ 1000000):
 Calls Tryz.prog 193 #[tval home,lval y,.slice a e0.length c,.slice ma zs.length mc,.func (.func F) #[] cv] w fun e w' => (∃ a' c' ns,e = .returned (.slice a' ns.length c') ∧ RowT iK 3 w' a' c' ns ∧ From w.heap.size a' ∧ Ml.Ch home fs la e0 (zs.map Fv.f) k y.l ns) ∧ Below w.heap.size w w':= by
 obtain ⟨h0,h1,A0⟩:= boxes2 w (.cells #[str home.v,.bool home.k.num,.int .i64 home.k.n,str home.k.s] 44) (.cells #[str y.by_.v,.bool y.by_.k.num,.int .i64 y.by_.k.n,str y.by_.k.s,str y.pred,.slice y.a y.args.length y.cap,str y.at_.v,.bool y.at_.k.num,.int .i64 y.at_.k.n,str y.at_.k.s] 52)
 have TT:= Tryz.underlying44
 have TL:= Tryz.underlying52
 have TF:= Tryz.underlying37
 have HOK:= hideP hok
 have FN:= hideP fn
 clear hok fn
 go_enter Tryz.func193,Tryz.ntmps193
 go_wp2_with fail
 generalize hW: (w.alloc (.cells #[str home.v,.bool home.k.num,.int .i64 home.k.n,str home.k.s] 44)).alloc (.cells #[str y.by_.v,.bool y.by_.k.num,.int .i64 y.by_.k.n,str y.by_.k.s,str y.pred,.slice y.a y.args.length y.cap,str y.at_.v,.bool y.at_.k.num,.int .i64 y.at_.k.n,str y.at_.k.s] 52) = W at *
 clear hW
 have S0:= hideP A0.size
 go_loopw [11,12,13,14,15,21] (fun v11 _ _ _ _ v21 wr => ∃ (j: Nat) (ts: List Tk),v21 = .int .i64 (j: Int) ∧ j ≤ zs.length ∧ Hid (TsOk home y.l e0 (zs.map Fv.f) (Ml.own fs la k) j ts) ∧ ts.length ≤ j ∧ wr.ownsRow w.heap.size 263 tkK.k v11 ts.length (ts.flatMap tkK.enc) ∧ (∀ x ∈ ts,RowT bK 143 wr x.a x.cap x.ks) ∧ Below w.heap.size w wr ∧
  wr.heap[w.heap.size]? = some (.cells (tv home).toArray 44) ∧ wr.heap[w.heap.size + 1]? = some (.cells (lv y).toArray 52)) (fun _ _ _ _ _ v21 _ => zs.length - (RowKit.intOf v21).toNat)
 case atStart => exact ⟨0,[],rfl,by omega,TsOk.start ..,by simp,World.ownsRow_nil _ _ _ _,(by simp),A0,h0,h1⟩
 case round =>
  obtain ⟨j,ts,rfl,hj,hts,htl,hown,hrows,B,H0,H1⟩:= hrel
  by_cases hlt: j < zs.length
  ·have q0: (j: Int) < (zs.length: Int):= by omega
   have Zr:= hz.below B
   obtain ⟨b,o,rfl⟩:= Zr.row.addr (by omega)
   have rg: wr.rangeAt b (o + j * 4) (fv (zs[j]'hlt)):= Zr.row.range j hlt
   have zAt:= Zr.each _ (List.getElem_mem hlt)
   have hokj:= HOK.out _ (List.getElem_mem hlt)
   have hmj: Hid ((zs.map Fv.f)[j]? = some (zs[j]'hlt).f):= by show _ = _;rw [List.getElem?_map,List.getElem?_eq_getElem hlt];rfl
   generalize (zs[j]'hlt) = z at *
   have HZ:= hideP hokj
   clear hokj
   have N1:= heap_alloc_new wr (.cells #[.string { data:= #[] },.string { data:= #[] },.string { data:= #[] },.slice none 0 0] 37)
   go_wp2_with (first
    | (refine wpList_load_mid rfl 37 _ rfl b (o + j * 4) rfl (fv z) _ rg TF rfl iF4 ?_)
    | (refine wpList_store_all rfl 37 _ _ rfl wr.heap.size 4 _ 37 (fv z) rfl rfl N1 rfl rfl iF4 rfl ?_;intro w2 N2 b2;have B2:= below_tok b2;have G0:= below_heap B2 H0;have G1:= below_heap B2 H1)
    | (refine wpList_load_all rfl 44 _ rfl w.heap.size 4 44 (tv home) _ rfl (by with_reducible exact G0) rfl TT rfl iT4 ?_)
    | (refine wpList_load_all rfl 52 _ rfl (w.heap.size + 1) 10 52 (lv y) _ rfl (by with_reducible exact G1) rfl TL rfl iL10 ?_)
    | (refine wpList_load_all rfl 37 _ rfl wr.heap.size 4 37 (fv z) _ rfl (by with_reducible exact N2) rfl TF rfl iF4 ?_))
   have BB:= Below.then B B2
   have LEN: (litE home y.l z.f e0).length ≤ e0.length + (y.args.length + 2):= litE_len home y.l z.f e0
   refine (mLiteralO_at home y z a c e0 w2 (he.below BB (Nat.le_refl _)) (by omega) (hy.below BB (Nat.le_refl _)) (zAt.below B2 (Nat.le_refl _))).mono ?_
   rintro e w3 ⟨⟨a3,c3,rfl,o3⟩,b3⟩
   have B3:= Below.then B2 b3
   have K0:= below_heap b3 G0
   have K1:= below_heap b3 G1
   have O3:= ownsRow_keep hown (Safe.below B3)
   have R3:= fun x hx => (hrows x hx).safe (Safe.below B3)
   have WB:= Below.then B B3
   cases hl: Mt.lit home y.l z.f e0 with
   | none =>
    obtain ⟨l1,l2⟩:= lit_of_none hl
    have TS:= hideP (hts.out.skip (fun f hf => by rw [hmj.out] at hf;cases hf;exact hl))
    rw [l1,l2]
    clear hl l1 l2 o3 hts hmj
    go_wp2_with fail
    go_roundw
    case rel => exact ⟨j + 1,ts,rfl,hlt,TS,by omega,O3,R3,WB,K0,K1⟩
    case measure => simp [RowKit.intOf];omega
   | some e1 =>
    obtain ⟨l1,l2⟩:= lit_of_some hl
    rw [l1] at o3 LEN HZ
    rw [l1,l2]
    have HL:= hideP hl
    have s3: w2.heap.size ≤ w3.heap.size:= b3.size
    have TD:= hideP (delB_at w2.heap.size _ e1 w3 o3 s3 (FN.out.next (NoB.below WB)) HZ.out (by omega))
    clear hl l1 l2
    go_wp2_with fail
    refine TD.out.mono ?_
    rintro e w4 ⟨⟨a4,c4,rfl,R4,_⟩,b4,n4⟩
    have T4: Below wr.heap.size wr w4:= B2.trans ((b3.trans b4).mono B2.size)
    obtain ⟨x,hx⟩: ∃ x: Tk,x = ⟨j,a4,c4,e1.filter fun b => !Ml.own fs la k b⟩:= ⟨_,rfl⟩
    have TS:= hideP (hts.out.put (x:= x) (by rw [hx]) hmj.out HL.out (by rw [hx]))
    have X4: RowT bK 143 w4 x.a x.cap x.ks:= by rw [hx];exact R4
    have EV: Hid (x.val = .agg #[.int .i64 (j: Int),.slice a4 (e1.filter fun b => !Ml.own fs la k b).length c4]):= by show _ = _;rw [hx]
    have O4:= ownsRow_keep hown (Safe.below T4)
    have W4:= Below.then B T4
    have hs4:= W4.size
    clear TD R4 hts hmj HL o3
    generalize (e1.filter fun b => !Ml.own fs la k b).length = n4' at *
    have A5:= below_alloc w4 (.cells (tkv x).toArray 263)
    have O5:= ownsRow_keep O4 (Safe.below A5)
    have R5: Row tkK (w4.alloc (.cells (tkv x).toArray 263)) (some ⟨w4.heap.size,0,none⟩) 1 [x]:= row_new tkK w4 _ _ x rfl
    have HE: (.agg #[.int .i64 (j: Int),.slice a4 n4' c4]: Value) = .agg (tkv x).toArray:= EV.out.symm
    have HE':= hideP HE
    clear HE EV hx
    go_wp2_with (first
     | (refine wpList_build_one rfl 260 263 _ rfl (tkv x) _ 2 32 HE'.out rfl (by decide) (by decide) Tryz.underlying260 Tryz.iTk ?_)
     | (at_builtin;refine wpList_append_rec tkK _ rfl _ _ 260 263 rfl _ 32 Tryz.underlying260 Tryz.iTk rfl (by decide) w.heap.size _ ts [x] (some ⟨w4.heap.size,0,none⟩) 1 1 rfl O5 rfl rfl R5 (by have:= A5.size;omega) (by simp only [List.length_cons,List.length_nil];omega) ?_;intro v6 w6 o6 g6))
    have B6: Below w.heap.size w w6:= (Below.then W4 A5).trans (own_below O5 g6 (by have:= A5.size;omega))
    have SF:= fun (ty: TypeId) (hn: ty ≠ 263) => (Safe.below (ty:= ty) A5).trans (Safe.grown O5 g6 hn)
    have F0:= SF _ (by decide) _ _ (below_heap T4 H0)
    have F1:= SF _ (by decide) _ _ (below_heap T4 H1)
    have RX: ∀ x' ∈ ts ++ [x],RowT bK 143 w6 x'.a x'.cap x'.ks:= fun x' hx' => by
     rcases List.mem_append.1 hx' with h | h
     ·exact ((hrows x' h).safe (Safe.below T4)).safe (SF _ (by decide))
     ·rw [List.mem_singleton] at h;subst h;exact X4.safe (SF _ (by decide))
    go_roundw
    case rel => exact ⟨j + 1,ts ++ [x],rfl,hlt,TS,by simp only [List.length_append,List.length_cons,List.length_nil];omega,o6,RX,B6,F0,F1⟩
    case measure => simp [RowKit.intOf];omega
  ·have q0: ¬ (j: Int) < (zs.length: Int):= by omega
   obtain rfl: j = zs.length:= by omega
   have TC:= hideP (kept_call wr _ w.heap.size ts hown hrows (by have:= B.size;omega) (by omega))
   clear hown hrows H0 H1 h0 h1
   go_wp2_with fail
   refine TC.out.mono ?_
   rintro e w3 ⟨rfl,b3,T3⟩
   have TC3:= hideP T3
   clear T3 TC
   go_wp2_with fail
   refine TC3.out.mono ?_
   rintro e w4 ⟨ys,ka,kc,hp,rfl,b4,hkl,Rk⟩
   have CH:= hideP (TsOk.choice (by rw [List.length_map];exact hts.out) hp)
   clear TC3 hts hp
   generalize kept cTk ys ys.length = KS at *
   have B4: Below w.heap.size w w4:= B.trans b4
   have KF:= Rk.few
   go_wp2_with fail
   go_loopw [16,18,50] (fun v16 _ v50 wi => ∃ (t: Nat) (ns: List Nat),v50 = .int .i64 (t: Int) ∧ t ≤ KS.length ∧ Hid (ns = (KS.take t).map Tk.i) ∧ ns.length = t ∧ wi.ownsRow w4.heap.size 3 iK.k v16 ns.length (ns.flatMap iK.enc) ∧ Below w4.heap.size w4 wi) (fun _ _ v50 _ => KS.length - (RowKit.intOf v50).toNat)
   case atStart => exact ⟨0,[],rfl,by omega,rfl,rfl,World.ownsRow_nil _ _ _ _,Below.refl _ _⟩
   case round =>
    obtain ⟨t,ns,rfl,ht,hns,hnl,O,Bi⟩:= hrel
    by_cases hlt2: t < KS.length
    ·have q1: (t: Int) < (KS.length: Int):= by omega
     obtain ⟨b,o,rfl⟩:= Rk.addr (by omega)
     have rg: wr.rangeAt b (o + t * 2) (tkv (KS[t]'hlt2)):= (Rk.below Bi (Nat.le_refl _)).range t hlt2
     have hn2: Hid (ns ++ [(KS[t]'hlt2).i] = (KS.take (t + 1)).map Tk.i):= by
      show _ = _
      rw [List.take_succ_eq_append_getElem hlt2,List.map_append,hns.out];rfl
     generalize (KS[t]'hlt2) = x at *
     have N1:= heap_alloc_new wr (.cells #[.int .i64 0,.slice none 0 0] 263)
     have TKu:= Tryz.underlying263
     clear hns
     go_wp2_with (first
      | (refine wpList_load_mid rfl 263 _ rfl b (o + t * 2) rfl (tkv x) _ rg TKu rfl iTk2 ?_)
      | (refine wpList_store_all rfl 263 _ _ rfl wr.heap.size 2 _ 263 (tkv x) rfl rfl N1 rfl rfl iTk2 rfl ?_;intro w5 N5 b5;have B5:= below_tok b5;have c5: w5.cell? ⟨wr.heap.size,0,none⟩ = some (.int .i64 (x.i: Int)):= (by rw [heap_cell N5];rfl);have A6:= below_alloc w5 (.cells #[.int .i64 (x.i: Int)] 3);have O6:= ownsRow_keep O (Safe.below (Below.then B5 A6));have R6: Row iK (w5.alloc (.cells #[.int .i64 (x.i: Int)] 3)) (some ⟨w5.heap.size,0,none⟩) 1 [x.i]:= row_new iK w5 _ _ x.i rfl;have hs5:= Bi.size;have hs6:= (Below.then B5 A6).size)
      | (at_builtin;refine wpList_append_rec iK _ rfl _ _ 239 3 rfl _ 8 Tryz.underlying239 Tryz.iIn rfl (by decide) w4.heap.size _ ns [x.i] (some ⟨w5.heap.size,0,none⟩) 1 1 rfl O6 rfl rfl R6 (by omega) (by simp only [List.length_cons,List.length_nil];omega) ?_;intro v7 w7 o7 g7))
     have B7: Below w4.heap.size w4 w7:= (Bi.trans ((Below.then B5 A6).mono hs5)).trans (own_below O6 g7 (by omega))
     go_roundw
     case rel => exact ⟨t + 1,ns ++ [x.i],rfl,hlt2,hn2,by simp only [List.length_append,List.length_cons,List.length_nil];omega,o7,B7⟩
     case measure => simp [RowKit.intOf];omega
    ·have q1: ¬ (t: Int) < (KS.length: Int):= by omega
     obtain rfl: t = KS.length:= by omega
     rw [List.take_length] at hns
     obtain ⟨a7,c7,rfl,R7,F7⟩:= own_row (D:= iK) O (by omega)
     go_wp2_with fail
     go_ret
     have hW7: Below w.heap.size w wr:= B4.trans (Bi.mono B4.size)
     refine ⟨⟨a7,c7,ns,by rw [hnl];rfl,R7,From.mono F7 B4.size, ?_⟩,hW7⟩
     rw [hns.out];exact CH.out
end Go.Proofs.YtpdmmmdkpipmkaaGreatDoor
