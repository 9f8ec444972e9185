/-
  step: what is bound behind a literal and asked later, if the walk did not come to the same before.
-/
import Derived.Deep.LoopGhost
import Derived.BigQuiet
import Derived.TacticsInMore
import Derived.OwnWalkIn
import Derived.WalkKit
import Derived.Deep.Cut
import Derived.Test.YtpdmmmdkpipmkaaGreatDoorQSt
set_option maxRecDepth 100000
set_option maxHeartbeats 4000000
namespace Go.Proofs.YtpdmmmdkpipmkaaGreatDoor
open Go.RowKit Go.Lib Go.Shelf
def StepAns (x: Wv) (k: Nat) (y: Lv) (z: Fv) (p: List Bd) (met: List (List UInt8)) (B: Nat) (e: Ending) (w': World): Prop:=
 (e = .returned (.tuple #[.slice none 0 0,.bool false]) ∧ MetAt w' x.bt met ∧ ∀ q,Ml.stp x.r.home (Ml.laOf (Ml.spans x.r.r)) k y.l z.f p = some q → Ml.keyT Lib.itoa k q ∈ met) ∨
 (∃ q a' c' met',Ml.stp x.r.home (Ml.laOf (Ml.spans x.r.r)) k y.l z.f p = some q ∧ e = .returned (.tuple #[.slice a' q.length c',.bool true]) ∧ RowT bK 143 w' a' c' q ∧ From B a' ∧ MetAt w' x.bt met' ∧ (met' = met ∨ met' = met ++ [Ml.keyT Lib.itoa k q]))
theorem StepAns.no {x: Wv} {B k: Nat} {y: Lv} {z: Fv} {p: List Bd} {met: List (List UInt8)} {w': World} (h1: MetAt w' x.bt met) (h2: ∀ q,Ml.stp x.r.home (Ml.laOf (Ml.spans x.r.r)) k y.l z.f p = some q → Ml.keyT Lib.itoa k q ∈ met): StepAns x k y z p met B (.returned (.tuple #[.slice none 0 0,.bool false])) w':= .inl ⟨rfl,h1,h2⟩
theorem StepAns.yes {x: Wv} {B k: Nat} {y: Lv} {z: Fv} {p q: List Bd} {met met': List (List UInt8)} {w': World} {a': Option Addr} {c': Nat} (h0: Ml.stp x.r.home (Ml.laOf (Ml.spans x.r.r)) k y.l z.f p = some q) (h1: RowT bK 143 w' a' c' q) (hf: From B a') (h2: MetAt w' x.bt met') (h3: met' = met ∨ met' = met ++ [Ml.keyT Lib.itoa k q]): StepAns x k y z p met B (.returned (.tuple #[.slice a' q.length c',.bool true])) w':= .inr ⟨q,a',c',met',h0,rfl,h1,hf,h2,h3⟩
theorem TabB.now {B: Nat} {w w': World} (h: TabB B w) (hb: Below B w w') (hB: B ≤ w'.heap.size): TabB w'.heap.size w':= fun W hW => h W (hb.trans (hW.mono hB))
def ClS (S b o k: Nat) (x: Wv) (y: Lv) (z: Fv) (W: World): Prop:=
 W.cell? ⟨S,0,none⟩ = some (str x.r.home.v) ∧ W.cell? ⟨S,1,none⟩ = some (.bool x.r.home.k.num) ∧ W.cell? ⟨S,2,none⟩ = some (.int .i64 x.r.home.k.n) ∧ W.cell? ⟨S,3,none⟩ = some (str x.r.home.k.s) ∧ W.cell? ⟨S,10,none⟩ = some (.slice (some ⟨b,o,none⟩) x.r.body.length x.r.bcap) ∧ W.cell? ⟨S + 1,0,none⟩ = some (.int .i64 (k: Int)) ∧
 W.cell? ⟨b,o + k * 10,none⟩ = some (str y.by_.v) ∧ W.cell? ⟨b,o + k * 10 + 1,none⟩ = some (.bool y.by_.k.num) ∧ W.cell? ⟨b,o + k * 10 + 2,none⟩ = some (.int .i64 y.by_.k.n) ∧ W.cell? ⟨b,o + k * 10 + 3,none⟩ = some (str y.by_.k.s) ∧ W.cell? ⟨b,o + k * 10 + 4,none⟩ = some (str y.pred) ∧ W.cell? ⟨b,o + k * 10 + 5,none⟩ = some (.slice y.a y.args.length y.cap) ∧
 W.cell? ⟨b,o + k * 10 + 6,none⟩ = some (str y.at_.v) ∧ W.cell? ⟨b,o + k * 10 + 7,none⟩ = some (.bool y.at_.k.num) ∧ W.cell? ⟨b,o + k * 10 + 8,none⟩ = some (.int .i64 y.at_.k.n) ∧ W.cell? ⟨b,o + k * 10 + 9,none⟩ = some (str y.at_.k.s) ∧
 W.cell? ⟨S + 2,0,none⟩ = some (str z.at_) ∧ W.cell? ⟨S + 2,1,none⟩ = some (str z.by_) ∧ W.cell? ⟨S + 2,2,none⟩ = some (str z.pred) ∧ W.cell? ⟨S + 2,3,none⟩ = some (.slice z.a z.ks.length z.cap)
theorem clS_of {S b o k: Nat} {x: Wv} {y: Lv} {z: Fv} {W: World} (hba: x.r.ba = some ⟨b,o,none⟩) (h0: W.heap[S]? = some (.cells x.cells 199)) (h1: W.heap[S + 1]? = some (.cells #[.int .i64 (k: Int)] 3)) (h2: W.heap[S + 2]? = some (.cells (fv z).toArray 37)) (r: W.rangeAt b (o + k * 10) (lv y)): ClS S b o k x y z W:= by
 have f:= fun j => heap_cell h0 j
 refine ⟨f 0,f 1,f 2,f 3,(by rw [f 10,← hba];rfl),heap_cell h1 0,r 0 _ rfl,r 1 _ rfl,r 2 _ rfl,r 3 _ rfl,r 4 _ rfl,r 5 _ rfl,r 6 _ rfl,r 7 _ rfl,r 8 _ rfl,r 9 _ rfl,heap_cell h2 0,heap_cell h2 1,heap_cell h2 2,heap_cell h2 3⟩
theorem step_at (x: Wv) (k: Nat) (y: Lv) (z: Fv) (a: Option Addr) (c: Nat) (p: List Bd) (n: Nat) (met: List (List UInt8)) (w: World) (hr: Rv.Aw w x.r) (hky: x.r.body[k]? = some y) (hz: Fv.At w z) (hp: Row bK w a c p) (SP: SpansAt w x.bs (Ml.spans x.r.r) n) (M: MetAt w x.bt met)
 (hk: k ≤ 1000) (hok: ∀ b ∈ p,b.1.length ≤ maxLen) (hokz: ∀ q,Mt.lit x.r.home y.l z.f p = some q → ∀ b ∈ q,b.1.length ≤ maxLen ∧ OkB b) (hpl: p.length + y.args.length ≤ 95000) (hmet: met.length < 1000000) (ht: TabB w.heap.size w):
 Calls Tryz.prog 194 #[x.val,.int .i64 (k: Int),z.val,.slice a p.length c] w fun e w' => StepAns x k y z p met w.heap.size e w' ∧ But x.bt w w':= by
 obtain ⟨hlt,hgy⟩:= List.getElem?_eq_some_iff.1 hky
 obtain ⟨b,o,hba⟩:= hr.body.addr (by omega)
 have hrow:= hr.body
 rw [hba] at hrow
 have few:= hrow.few
 have ry0: w.rangeAt b (o + k * 10) (lv y):= by have:= hrow.range k hlt;rw [hgy] at this;exact this
 have yAt:= hr.each y (by rw [← hgy];exact List.getElem_mem hlt)
 have UL: (litE x.r.home y.l z.f p).length ≤ p.length + (y.args.length + 2):= litE_len x.r.home y.l z.f p
 obtain ⟨h0,h1,h2,A0⟩:= boxes3 w (.cells x.cells 199) (.cells #[.int .i64 (k: Int)] 3) (.cells #[str z.at_,str z.by_,str z.pred,.slice z.a z.ks.length z.cap] 37)
 have rb: ∀ W,Below w.heap.size w W → W.rangeAt b (o + k * 10) (lv y):= fun W hW => by
  have:= (hrow.below hW (Nat.le_refl _)).range k hlt;rw [hgy] at this;exact this
 have q0: (k: Int) < (x.r.body.length: Int):= by omega
 have HBA:= hideP hba
 have HOK:= hideP hok
 have HOZ:= hideP hokz
 have SZ:= A0.size
 clear hba hok hokz hgy hky ry0 hrow hr
 go_enter Tryz.func194,Tryz.ntmps194
 go_wp2_with fail
 generalize hW: ((w.alloc (.cells x.cells 199)).alloc (.cells #[.int .i64 (k: Int)] 3)).alloc (.cells #[str z.at_,str z.by_,str z.pred,.slice z.a z.ks.length z.cap] 37) = W at *
 clear hW
 have gD:= (Below.refl W.heap.size W).drew
 have Ad:= Below.then A0 gD
 have H0:= below_heap gD h0
 have H1:= below_heap gD h1
 have H2:= below_heap gD h2
 have TLt:= hideP (mLiteralO_at x.r.home y z a c p W.drew (hp.below Ad (Nat.le_refl _)) (by omega) (yAt.below Ad (Nat.le_refl _)) (hz.below Ad (Nat.le_refl _)))
 have RD:= rb _ Ad
 have RBH:= hideP rb
 clear rb h0 h1 h2
 go_region_held3 (fun W => W.cell? ⟨w.heap.size,0,none⟩ = some (str x.r.home.v) ∧ W.cell? ⟨w.heap.size,1,none⟩ = some (.bool x.r.home.k.num) ∧ W.cell? ⟨w.heap.size,2,none⟩ = some (.int .i64 x.r.home.k.n) ∧ W.cell? ⟨w.heap.size,3,none⟩ = some (str x.r.home.k.s) ∧ W.cell? ⟨w.heap.size,10,none⟩ = some (.slice (some ⟨b,o,none⟩) x.r.body.length x.r.bcap) ∧ W.cell? ⟨w.heap.size + 1,0,none⟩ = some (.int .i64 (k: Int)) ∧  W.cell? ⟨b,o + k * 10,none⟩ = some (str y.by_.v) ∧ W.cell? ⟨b,o + k * 10 + 1,none⟩ = some (.bool y.by_.k.num) ∧ W.cell? ⟨b,o + k * 10 + 2,none⟩ = some (.int .i64 y.by_.k.n) ∧ W.cell? ⟨b,o + k * 10 + 3,none⟩ = some (str y.by_.k.s) ∧ W.cell? ⟨b,o + k * 10 + 4,none⟩ = some (str y.pred) ∧ W.cell? ⟨b,o + k * 10 + 5,none⟩ = some (.slice y.a y.args.length y.cap) ∧  W.cell? ⟨b,o + k * 10 + 6,none⟩ = some (str y.at_.v) ∧ W.cell? ⟨b,o + k * 10 + 7,none⟩ = some (.bool y.at_.k.num) ∧ W.cell? ⟨b,o + k * 10 + 8,none⟩ = some (.int .i64 y.at_.k.n) ∧ W.cell? ⟨b,o + k * 10 + 9,none⟩ = some (str y.at_.k.s) ∧  W.cell? ⟨w.heap.size + 1 + 1,0,none⟩ = some (str z.at_) ∧ W.cell? ⟨w.heap.size + 1 + 1,1,none⟩ = some (str z.by_) ∧ W.cell? ⟨w.heap.size + 1 + 1,2,none⟩ = some (str z.pred) ∧ W.cell? ⟨w.heap.size + 1 + 1,3,none⟩ = some (.slice z.a z.ks.length z.cap)) (first | exact clS_of HBA.out J0 J1 J2 RJ | exact clS_of HBA.out H0 H1 H2 RD) (first | (go_at_call 221;refine TLt.out.mono ?_;rintro e w4 ⟨⟨a4,c4,rfl,o4⟩,b4⟩;have J0:= below_heap b4 H0;have J1:= below_heap b4 H1;have J2:= below_heap b4 H2;have B4:= Below.then Ad b4;have RJ:= RBH.out _ B4))
 have s4:= b4.size
 have SP4:= SP.next B4
 have M4:= M.next B4
 clear TLt RJ RBH RD H0 H1 H2
 have STP: Hid (Ml.stp x.r.home (Ml.laOf (Ml.spans x.r.r)) k y.l z.f p = (Mt.lit x.r.home y.l z.f p).map fun e => e.filter fun b => !decide (Ml.laOf (Ml.spans x.r.r) b.1 ≤ k)):= rfl
 cases hl: Mt.lit x.r.home y.l z.f p with
 | none =>
  obtain ⟨l1,l2⟩:= lit_of_none hl
  have Z: Hid (∀ q,Ml.stp x.r.home (Ml.laOf (Ml.spans x.r.r)) k y.l z.f p = some q → Ml.keyT Lib.itoa k q ∈ met):= fun q hq => by rw [STP.out,hl] at hq;cases hq
  rw [l1,l2]
  clear hl l1 l2 o4 STP
  go_wp2_with fail
  go_ret2
  exact ⟨StepAns.no M4 Z.out,But.of_below B4⟩
 | some e1 =>
  obtain ⟨l1,l2⟩:= lit_of_some hl
  rw [l1] at o4 UL
  rw [l1,l2]
  have OKE:= hideP (HOZ.out e1 hl)
  have HQ: Hid (Ml.stp x.r.home (Ml.laOf (Ml.spans x.r.r)) k y.l z.f p = some (e1.filter fun b => !decide (Ml.laOf (Ml.spans x.r.r) b.1 ≤ k))):= by show _ = _;rw [STP.out,hl];rfl
  have FN:= done_fn x w.heap.size (w.heap.size + 1) k n (Ml.spans x.r.r) w4 J0 J1 SP4
  have TD:= hideP (delB_at W.drew.heap.size _ e1 w4 o4 s4 FN (fun b hb => (OKE.out b hb).1) (by omega))
  have FLN: (e1.filter fun b => !decide (Ml.laOf (Ml.spans x.r.r) b.1 ≤ k)).length ≤ e1.length:= List.length_filter_le _ _
  have OKQ: Hid (∀ b ∈ e1.filter fun b => !decide (Ml.laOf (Ml.spans x.r.r) b.1 ≤ k),OkB b):= fun b hb => (OKE.out b (List.mem_filter.1 hb).1).2
  clear hl l1 l2 STP OKE HOZ o4
  generalize (e1.filter fun b => !decide (Ml.laOf (Ml.spans x.r.r) b.1 ≤ k)) = q at *
  go_wp2_with fail
  refine TD.out.mono ?_
  rintro e w5 ⟨⟨a5,c5,rfl,R5,F5⟩,b5,n5⟩
  have F6: From w.heap.size a5:= From.mono F5 Ad.size
  clear F5
  have B5: Below w.heap.size w w5:= B4.trans (b5.mono (by have:= Ad.size;omega))
  have hp5:= hp.below B5 (Nat.le_refl _)
  have X0:= n5 _ _ J0 (fun _ _ e => by cases e)
  have X1:= n5 _ _ J1 (fun _ _ e => by cases e)
  obtain ⟨es4,ck4,hm4⟩:= M4.map
  have M5:= M4.block ((n5 _ _ hm4 (fun _ _ e => by cases e)).trans hm4.symm)
  have FN5:= FN.next n5
  have TH:= hideP (hasB_at a c p w5 hp5 FN5 HOK.out)
  clear TD FN FN5 J0 J1 J2 SP4 M4 hm4 n5 b5 hp5 hp
  go_wp2_with fail
  refine TH.out.mono ?_
  rintro e w6 ⟨rfl,b6⟩
  have B6: Below w.heap.size w w6:= Below.then B5 b6
  have R6:= R5.safe (Safe.below b6: Safe 143 _ _)
  have Y0:= below_heap b6 X0
  have Y1:= below_heap b6 X1
  have M6:= M5.next b6
  clear TH X0 X1 M5 R5
  cases hany: p.any fun b => decide (Ml.laOf (Ml.spans x.r.r) b.1 ≤ k) with
  | false =>
   clear hany
   go_wp2_with fail
   go_ret2
   exact ⟨StepAns.yes HQ.out R6 F6 M6 (.inl rfl),But.of_below B6⟩
  | true =>
   clear hany
   have c1: w6.cell? ⟨w.heap.size + 1,0,none⟩ = some (.int .i64 (k: Int)):= by rw [heap_cell Y1];rfl
   have TK:= hideP (key_at k a5 c5 q w6 R6.row OKQ.out (by omega) (by omega) (ht.now B6 B6.size))
   clear OKQ
   go_wp2_with fail
   refine TK.out.mono ?_
   rintro e w7 ⟨rfl,hkl,b7⟩
   have B7: Below w.heap.size w w7:= Below.then B6 b7
   have R7:= R6.safe (Safe.below b7: Safe 143 _ _)
   have Z0:= below_heap b7 Y0
   have M7:= M6.next b7
   have c14: w7.cell? ⟨w.heap.size,14,none⟩ = some (.map (some x.bt)):= by rw [heap_cell Z0];rfl
   have HKL:= hideP hkl
   have LK:= M7.look (Ml.keyT Lib.itoa k q) (by unfold maxLen;omega)
   have A8:= below_alloc w7 (.cells #[] 179)
   have M8:= M7.next A8
   have d14: (w7.alloc (.cells #[] 179)).cell? ⟨w.heap.size,14,none⟩ = some (.map (some x.bt)):= by rw [heap_cell (below_heap A8 Z0)];rfl
   have B8: Below w.heap.size w (w7.alloc (.cells #[] 179)):= Below.then B7 A8
   have R8:= R7.safe (Safe.below A8: Safe 143 _ _)
   have KQ: Hid (Ml.keyT Lib.itoa k q = Ml.keyT Lib.itoa k q):= rfl
   obtain ⟨w9,hput,M9,b9⟩:= M8.put (Ml.keyT Lib.itoa k q) (by unfold maxLen;omega) hmet
   obtain ⟨es8,ck8,hm8⟩:= M8.map
   have R9:= R8.safe (fun kk cur hkk => b9.heap (fun e => by subst e;rw [hm8] at hkk;cases hkk) hkk: Safe 143 _ _)
   have B9: But x.bt w w9:= (But.of_below B8).trans b9
   clear TK hkl M7 M8 b9 R7 R8 R6 M6 hm8 A8
   by_cases hin: Ml.keyT Lib.itoa k q ∈ met
   ·have ZZ: Hid (∀ q',Ml.stp x.r.home (Ml.laOf (Ml.spans x.r.r)) k y.l z.f p = some q' → Ml.keyT Lib.itoa k q' ∈ met):= fun q' hq' => by rw [HQ.out] at hq';cases hq';exact hin
    rw [show decide (Ml.keyT Lib.itoa k q ∈ met) = true by simpa using hin] at LK
    clear hin HQ M9 R9 hput
    have M10:= (M.next B8)
    go_wp2_with fail
    go_ret2
    exact ⟨StepAns.no M10 ZZ.out,But.of_below B8⟩
   ·rw [show decide (Ml.keyT Lib.itoa k q ∈ met) = false by simpa using hin] at LK
    clear hin
    go_wp2_with fail
    go_ret2
    exact ⟨StepAns.yes HQ.out R9 F6 M9 (.inr rfl),B9⟩
end Go.Proofs.YtpdmmmdkpipmkaaGreatDoor
namespace Go.Proofs.YtpdmmmdkpipmkaaGreatDoor
open Go.RowKit Go.Lib Go.Shelf
def isF: Obj → Bool
 | .cells _ t _ => t == 37
 | _ => false
structure Rnd (n0: Nat) (X: Nat → Prop) (W W': World): Prop where
 os: W'.os = W.os
 tape: W'.tape = W.tape
 output: W'.output = W.output
 size: W.heap.size ≤ W'.heap.size
 same: ∀ (k: Nat) (o: Obj),W.heap[k]? = some o → ¬ X k → (k < n0 ∨ isF o = false) → W'.heap[k]? = some o
theorem Rnd.refl (n0: Nat) (X: Nat → Prop) (W: World): Rnd n0 X W W:= ⟨rfl,rfl,rfl,Nat.le_refl _,fun _ _ h _ _ => h⟩
theorem Rnd.trans {n0: Nat} {X: Nat → Prop} {A B C: World} (h: Rnd n0 X A B) (k: Rnd n0 X B C): Rnd n0 X A C:=
 ⟨k.os.trans h.os,k.tape.trans h.tape,k.output.trans h.output,Nat.le_trans h.size k.size,fun i o hi hx ho => k.same i o (h.same i o hi hx ho) hx ho⟩
theorem Rnd.of_below {n0: Nat} {X: Nat → Prop} {W W': World} (h: Below W.heap.size W W'): Rnd n0 X W W':= ⟨h.os,h.tape,h.output,h.size,fun _ _ hk _ _ => below_heap h hk⟩
theorem Rnd.mono {n0: Nat} {X Y: Nat → Prop} {W W': World} (h: Rnd n0 X W W') (hx: ∀ k,X k → Y k): Rnd n0 Y W W':= ⟨h.os,h.tape,h.output,h.size,fun k o hk hy ho => h.same k o hk (fun q => hy (hx k q)) ho⟩
theorem Rnd.but {n0 R: Nat} {X: Nat → Prop} {W W': World} (h: But R W W') (hR: X R): Rnd n0 X W W':= ⟨h.os,h.tape,h.output,h.size,fun _ _ hk hx _ => h.heap (fun e => hx (e ▸ hR)) hk⟩
theorem Rnd.below {n0: Nat} {X: Nat → Prop} {W W': World} (h: Rnd n0 X W W') (hX: ∀ k,X k → n0 ≤ k) (hn: n0 ≤ W.heap.size): Below n0 W W':=
 ⟨h.os,h.tape,h.output,h.size,fun k hk => by
  have hlt: k < W.heap.size:= by omega
  rw [Array.getElem?_eq_getElem hlt]
  exact h.same k _ (Array.getElem?_eq_getElem hlt) (fun hx => by have:= hX k hx;omega) (.inl hk)⟩
theorem Rnd.safe {n0: Nat} {X: Nat → Prop} {W W': World} {ty: TypeId} (h: Rnd n0 X W W') (hn: ty ≠ 37): ∀ (k: Nat) (cur: Array Value),W.heap[k]? = some (.cells cur ty) → ¬ X k → W'.heap[k]? = some (.cells cur ty):= fun k cur hk hx => h.same k _ hk hx (.inr (by simp [isF,hn]))
theorem Rnd.other {n0: Nat} {X: Nat → Prop} {W W': World} {k: Nat} {o: Obj} (h: Rnd n0 X W W') (hk: W.heap[k]? = some o) (hx: ¬ X k) (ho: isF o = false): W'.heap[k]? = some o:= h.same k o hk hx (.inr ho)
theorem RowT.rnd {α: Type} {D: Kd α} {ty: TypeId} {n0: Nat} {X: Nat → Prop} {W W': World} {a: Option Addr} {c: Nat} {xs: List α} (h: RowT D ty W a c xs) (r: Rnd n0 X W W') (hn: ty ≠ 37) (hx: ∀ ad,a = some ad → ¬ X ad.block): RowT D ty W' a c xs:=
 ⟨⟨h.row.room,h.row.few,h.row.void,fun ad ha j u hu => by
  obtain ⟨cur,hc⟩:= h.tag ad ha
  rw [← h.row.cells ad ha j u hu]
  exact World.cell?_of_block (w:= W) (by rw [addr_add_block,r.safe hn _ _ hc (hx ad ha),hc])⟩,fun ad ha => by
  obtain ⟨cur,hc⟩:= h.tag ad ha
  exact ⟨cur,r.safe hn _ _ hc (hx ad ha)⟩⟩
structure Pv where
 a: Option Addr
 cap: Nat
 env: List Bd
 t: Nat
def pvl (x: Pv): List Value:= [.slice x.a x.env.length x.cap,.int .i64 (x.t: Int)]
def pK: Kd Pv:= ⟨pvl,2,fun _ => rfl,fun _ => rfl,by decide⟩
theorem Tryz.iPt: (Tryz.prog.info? 242).map (fun i => (i.zero,i.size,i.bytes)) = some (some (.agg #[.slice none 0 0,.int .i64 0]),pK.k,32):= by kernel_rfl
theorem iPt2: (Tryz.prog.info? 242).map (·.size) = some 2:= by kernel_rfl
abbrev Pv.pt (x: Pv): Mt.Env × Nat:= (x.env,x.t)
theorem own_prefix {α: Type} {D: Kd α} {ty: TypeId} {w: World} {base g n cap: Nat} {xs ys: List α} (h: w.ownsRow base ty D.k (.slice (some ⟨g,0,none⟩) n cap) (xs ++ ys).length ((xs ++ ys).flatMap D.enc)): w.ownsRow base ty D.k (.slice (some ⟨g,0,none⟩) xs.length cap) xs.length (xs.flatMap D.enc):= by
 obtain ⟨h1,h2⟩:= h
 refine ⟨by rw [flat_len D.enc D.k D.len],.inr ?_⟩
 rcases h2 with ⟨hv,_⟩ | ⟨g',cap',cur,hv,hb,hg,hnc,hcm,hcs,ht⟩
 ·cases hv
 ·cases hv
  refine ⟨g,cap,cur,rfl,hb,hg,by rw [List.length_append] at hnc;omega,hcm,hcs, ?_⟩
  have:= congrArg (List.take (xs.length * D.k)) ht
  rw [List.take_take,List.flatMap_append,List.length_append,Nat.min_eq_left (by rw [Nat.add_mul];omega)] at this
  rw [this,List.take_append_of_le_length (by rw [flat_len D.enc D.k D.len];exact Nat.le_refl _),List.take_of_length_le (by rw [flat_len D.enc D.k D.len];exact Nat.le_refl _)]
end Go.Proofs.YtpdmmmdkpipmkaaGreatDoor
namespace Go.Proofs.YtpdmmmdkpipmkaaGreatDoor
namespace Ml
open Mt (Tx Env uni unis by1 lit nm nul)
theorem uni_vals {t: Tm} {c: K} {e e1: Env} {P: K → Prop} (he: ∀ b ∈ e,P b.2) (hc: P c) (h: uni t c e = some e1): ∀ b ∈ e1,P b.2:= by
 rw [uni_eq] at h
 obtain ⟨m,hm,rfl⟩:= Option.map_eq_some_iff.1 h
 intro b hb
 rcases List.mem_append.1 hb with hb | hb
 ·exact he b hb
 ·unfold uniM at hm
  split at hm
  ·split at hm
   ·cases hm;cases hb
   ·cases hm
  ·split at hm
   ·cases hm
   ·cases hm;rw [List.mem_singleton] at hb;subst hb;exact hc
theorem unis_vals {P: K → Prop}: ∀ {ts: List Tm} {cs: List K} {e e1: Env},(∀ b ∈ e,P b.2) → (∀ c ∈ cs,P c) → unis ts cs e = some e1 → ∀ b ∈ e1,P b.2
 | [],[],_,_,he,_,h => by cases h;exact he
 | t:: ts,c:: cs,e,e1,he,hc,h => by
  rw [unis] at h
  obtain ⟨e2,h1,h2⟩:= Option.bind_eq_some_iff.1 h
  exact unis_vals (uni_vals he (hc c (List.mem_cons_self ..)) h1) (fun c' h' => hc c' (List.mem_cons_of_mem _ h')) h2
 | [],_:: _,_,_,_,_,h => by cases h
 | _:: _,[],_,_,_,_,h => by cases h
theorem lit_vals {home: Tm} {l: Lt} {f: F} {e e1: Env} {P: K → Prop} (he: ∀ b ∈ e,P b.2) (h1: P (nm f.at_)) (h2: P (nm f.by_)) (h3: ∀ c ∈ f.ks,P c) (h: lit home l f e = some e1): ∀ b ∈ e1,P b.2:= by
 unfold lit at h
 split at h
 ·obtain ⟨e2,q1,h⟩:= Option.bind_eq_some_iff.1 h
  obtain ⟨e3,q2,q3⟩:= Option.bind_eq_some_iff.1 h
  have p1:= uni_vals he h1 q1
  refine unis_vals ?_ h3 q3
  unfold by1 at q2
  split at q2
  ·split at q2
   ·cases q2;exact p1
   ·cases q2
  ·exact uni_vals p1 h2 q2
 ·cases h
end Ml
open Go.RowKit Go.Lib Go.Shelf
def OkK (k: K): Prop:= -9223372036854775808 ≤ k.n ∧ k.n ≤ 9223372036854775807 ∧ k.s.length ≤ 1048576
structure SmF (f: F): Prop where
 at_: f.at_.length ≤ 1048576
 by_: f.by_.length ≤ 1048576
 ks: ∀ k ∈ f.ks,OkK k
theorem okB_of {b: Bd} (h: OkK b.2): OkB b:= ⟨h.1,h.2.1,h.2.2⟩
theorem SmF.nmAt {f: F} (h: SmF f): OkK (Mt.nm f.at_):= ⟨by show (-9223372036854775808: Int) ≤ 0;omega,by show (0: Int) ≤ 9223372036854775807;omega,h.at_⟩
theorem SmF.nmBy {f: F} (h: SmF f): OkK (Mt.nm f.by_):= ⟨by show (-9223372036854775808: Int) ≤ 0;omega,by show (0: Int) ≤ 9223372036854775807;omega,h.by_⟩
structure OkE (n: Nat) (p: List Bd): Prop where
 each: ∀ b ∈ p,b.1.length ≤ maxLen ∧ OkK b.2
 nodup: (p.map (·.1)).Nodup
 len: p.length ≤ 1 + n * 302
theorem OkE.lit {n: Nat} {p q: List Bd} {home: Tm} {y: Lt} {f: F} (h: OkE n p) (hf: SmF f) (hh: home.v.length ≤ maxLen) (hy: ∀ v ∈ Ml.lvars y,v.length ≤ maxLen) (ha: y.args.length ≤ 300) (hl: Mt.lit home y f p = some q): OkE (n + 1) q:= by
 have hv:= litE_vars (f:= f) (fun b hb => (h.each b hb).1) hh hy h.nodup
 have hn:= litE_len home y f p
 rw [(lit_of_some hl).1] at hv hn
 have hk:= Ml.lit_vals (P:= OkK) (fun b hb => (h.each b hb).2) hf.nmAt hf.nmBy hf.ks hl
 refine ⟨fun b hb => ⟨hv b hb,hk b hb⟩,(Ml.lit_nodup h.nodup hl).1, ?_⟩
 have:= h.len
 rw [Nat.succ_mul];omega
theorem OkE.stp {n: Nat} {p q: List Bd} {home: Tm} {la: List UInt8 → Nat} {k: Nat} {y: Lt} {f: F} (h: OkE n p) (hf: SmF f) (hh: home.v.length ≤ maxLen) (hy: ∀ v ∈ Ml.lvars y,v.length ≤ maxLen) (ha: y.args.length ≤ 300) (hl: Ml.stp home la k y f p = some q): OkE (n + 1) q:= by
 unfold Ml.stp at hl
 obtain ⟨e,he,rfl⟩:= Option.map_eq_some_iff.1 hl
 have o:= h.lit hf hh hy ha he
 refine ⟨fun b hb => o.each b (List.mem_filter.1 hb).1,(List.Sublist.map _ List.filter_sublist).nodup o.nodup,Nat.le_trans (List.length_filter_le _ _) o.len⟩
def EltE (B: Nat) (p: List Bd) (v: Value) (W: World): Prop:= ∃ a c,v = .slice a p.length c ∧ RowT bK 143 W a c p ∧ From B a ∧ p.length ≤ 100000
abbrev Wv.cx (x: Wv): Ml.Cx:= ⟨x.r.r,Ml.laOf (Ml.spans x.r.r),x.zs.map Fv.f,x.nvs.map Nv.ns⟩
structure WkIn (x: Wv) (w0: World) (B: Nat) (e0: List Bd): Prop where
 rule: Rv.Aw w0 x.r
 sm: SmR x.r
 facts: Fts w0 x.fa x.fc x.zs
 small: ∀ z ∈ x.zs,SmF z.f
 tab: TabB w0.heap.size w0
 low: w0.heap.size ≤ B
 bs: B ≤ x.bs
 bt: B ≤ x.bt
 na: From B x.na
 nvs: ∀ y ∈ x.nvs,From B y.a
 chs: Ml.Chs x.r.home (Ml.fsOf (Ml.spans x.r.r)) (Ml.laOf (Ml.spans x.r.r)) e0 (x.zs.map Fv.f) 0 x.r.r.body (x.nvs.map Nv.ns)
 few: (x.cx.P 0 e0).length ≤ 60000
 e0k: OkE 0 e0
 zl: x.zs.length ≤ 1000000
 ne: x.bs ≠ x.bt
structure WkW (x: Wv) (w0: World) (B S n: Nat) (W: World): Prop where
 below: Below w0.heap.size w0 W
 from_: B ≤ W.heap.size
 box: W.heap[S]? = some (.cells x.cells 199)
 sp: SpansAt W x.bs (Ml.spans x.r.r) n
 nums: NumsAt W x.na x.nc x.nvs
theorem WkW.next {x: Wv} {w0: World} {B S n: Nat} {W W': World} (h: WkW x w0 B S n W) (hb: Below W.heap.size W W') (hB: w0.heap.size ≤ B): WkW x w0 B S n W':=
 ⟨h.below.trans (hb.mono (Nat.le_trans hB h.from_)),Nat.le_trans h.from_ hb.size,below_heap hb h.box,h.sp.next hb,h.nums.safe (Safe.below hb) (Safe.below hb)⟩
theorem WkW.round {x: Wv} {w0: World} {B S n: Nat} {X: Nat → Prop} {W W': World} {e0: List Bd} (h: WkW x w0 B S n W) (hi: WkIn x w0 B e0) (r: Rnd w0.heap.size X W W') (hX: ∀ k,X k → w0.heap.size ≤ k ∧ k < B) (hS: B ≤ S): WkW x w0 B S n W':= by
 have no: ∀ k,B ≤ k → ¬ X k:= fun k hk hx => by have:= (hX k hx).2;omega
 obtain ⟨es,ck,hm⟩:= h.sp.map
 have hlow: w0.heap.size ≤ W.heap.size:= Nat.le_trans hi.low h.from_
 exact ⟨h.below.trans (r.below (fun k hk => (hX k hk).1) hlow),Nat.le_trans h.from_ r.size,r.other h.box (no _ hS) rfl,h.sp.block (by rw [hm];exact r.other hm (no _ hi.bs) rfl),
  ⟨h.nums.row.rnd r (by decide) (fun ad ha => no _ (hi.na ad ha)),fun y hy => (h.nums.each y hy).rnd r (by decide) (fun ad ha => no _ (hi.nvs y hy ad ha))⟩⟩
structure WkP (x: Wv) (B: Nat) (e0: List Bd) (ys: List Mt.Env) (L: List Pv) (met: List (Nat × Mt.Env)) (W: World): Prop where
 pts: ∀ (j: Nat) (p: Pv),L[j]? = some p → RowT bK 143 W p.a p.cap p.env ∧ From B p.a ∧ OkE j p.env ∧ p.t ≤ (x.cx.ns j).length
 metA: MetAt W x.bt (met.map fun a => Ml.keyT Lib.itoa a.1 a.2)
 wk: Ml.Wk x.cx e0 ys (L.map Pv.pt) met
 wc: Ml.Wc x.cx e0 (L.map Pv.pt) met.length
 dep: L.length ≤ x.r.body.length + 1
theorem WkP.next {x: Wv} {B: Nat} {e0: List Bd} {ys: List Mt.Env} {L: List Pv} {met: List (Nat × Mt.Env)} {W W': World} (h: WkP x B e0 ys L met W) (hb: Below W.heap.size W W'): WkP x B e0 ys L met W':=
 ⟨fun j p hp => ⟨(h.pts j p hp).1.safe (Safe.below hb),(h.pts j p hp).2⟩,h.metA.next hb,h.wk,h.wc,h.dep⟩
theorem ownsRow_rnd {n0: Nat} {X: Nat → Prop} {W W': World} {base: Nat} {e: TypeId} {size: Nat} {v: Value} {n: Nat} {xs: List Value} (h: W.ownsRow base e size v n xs) (r: Rnd n0 X W W') (hn: e ≠ 37) (hx: ∀ k,base ≤ k → ¬ X k): W'.ownsRow base e size v n xs:= by
 obtain ⟨h1,h2⟩:= h
 refine ⟨h1, ?_⟩
 rcases h2 with h2 | ⟨g,cap,cur,hv,hg,hh,rest⟩
 ·exact .inl h2
 ·exact .inr ⟨g,cap,cur,hv,hg,r.safe hn _ _ hh (hx g hg),rest⟩
theorem WkP.round {x: Wv} {w0: World} {B: Nat} {X: Nat → Prop} {e0: List Bd} {ys: List Mt.Env} {L: List Pv} {met: List (Nat × Mt.Env)} {W W': World} (h: WkP x B e0 ys L met W) (hi: WkIn x w0 B e0) (r: Rnd w0.heap.size X W W') (hX: ∀ k,X k → w0.heap.size ≤ k ∧ k < B): WkP x B e0 ys L met W':= by
 have no: ∀ k,B ≤ k → ¬ X k:= fun k hk hx => by have:= (hX k hx).2;omega
 obtain ⟨es,ck,hm⟩:= h.metA.map
 exact ⟨fun j p hp => ⟨(h.pts j p hp).1.rnd r (by decide) (fun ad ha => no _ ((h.pts j p hp).2.1 ad ha)),(h.pts j p hp).2⟩,h.metA.block (by rw [hm];exact r.other hm (no _ hi.bt) rfl),h.wk,h.wc,h.dep⟩
end Go.Proofs.YtpdmmmdkpipmkaaGreatDoor
namespace Go.Proofs.YtpdmmmdkpipmkaaGreatDoor
open Go.RowKit Go.Lib Go.Shelf
theorem flat_set {α: Type} (D: Kd α) (xs: List α) (i c: Nat) (hi: i < xs.length) (hc: c < D.k) (x': α) (v: Value) (hx: D.enc x' = (D.enc xs[i]).set c v): (xs.set i x').flatMap D.enc = (xs.flatMap D.enc).set (i * D.k + c) v:= by
 have hp:= D.pos
 have hik: (i + 1) * D.k ≤ xs.length * D.k:= Nat.mul_le_mul_right _ hi
 rw [Nat.succ_mul] at hik
 apply List.ext_getElem?
 intro j
 by_cases hj: j < xs.length * D.k
 ·have e1: j / D.k < xs.length:= (Nat.div_lt_iff_lt_mul hp).2 hj
  have e2: j % D.k < D.k:= Nat.mod_lt _ hp
  have e3: j / D.k * D.k + j % D.k = j:= by rw [Nat.mul_comm];exact Nat.div_add_mod j D.k
  have l1:= flat_get D.enc D.k D.len (xs.set i x') (j / D.k) (j % D.k) (by rw [List.length_set];exact e1) e2
  have l2:= flat_get D.enc D.k D.len xs (j / D.k) (j % D.k) e1 e2
  rw [e3] at l1 l2
  rw [l1,List.getElem?_set,flat_len D.enc D.k D.len]
  by_cases hd: j / D.k = i
  ·have hm: j = i * D.k + j % D.k:= by rw [← hd];exact e3.symm
   simp only [hd,List.getElem_set_self,hx,List.getElem?_set,D.len]
   simp only [hd] at l2
   by_cases hcc: c = j % D.k
   ·rw [if_pos hcc,if_pos hc,if_pos (by rw [hcc];exact hm.symm),if_pos (by omega)]
   ·rw [if_neg hcc,if_neg (by omega),l2]
  ·rw [List.getElem_set_ne (Ne.symm hd),if_neg (fun he => hd ?_),l2]
   rw [← he]
   exact Nat.div_eq_of_lt_le (by omega) (by rw [Nat.succ_mul];omega)
 ·rw [List.getElem?_eq_none (by rw [flat_len D.enc D.k D.len,List.length_set];omega),List.getElem?_eq_none (by rw [List.length_set,flat_len D.enc D.k D.len];omega)]
theorem own_cell {α: Type} {D: Kd α} {ty: TypeId} {w w': World} {base g cap: Nat} {xs: List α} (h: w.ownsRow base ty D.k (.slice (some ⟨g,0,none⟩) xs.length cap) xs.length (xs.flatMap D.enc)) (i c: Nat) (hi: i < xs.length) (hc: c < D.k) (x': α) (v: Value) (hx: D.enc x' = (D.enc xs[i]).set c v)
 (hw: ∀ cur: Array Value,w.heap[g]? = some (.cells cur ty) → w'.heap[g]? = some (.cells (cur.setIfInBounds (i * D.k + c) v) ty)): w'.ownsRow base ty D.k (.slice (some ⟨g,0,none⟩) (xs.set i x').length cap) (xs.set i x').length ((xs.set i x').flatMap D.enc):= by
 rcases h.2 with ⟨hv,_⟩ | ⟨g',cap',cur,hv,hb,hg,hnc,hcm,hcs,ht⟩
 ·cases hv
 ·cases hv
  refine ⟨by rw [flat_len D.enc D.k D.len],.inr ⟨g,cap,_,rfl,hb,hw cur hg,by rw [List.length_set];exact hnc,hcm,by rw [Array.size_setIfInBounds];exact hcs, ?_⟩⟩
  rw [flat_set D xs i c hi hc x' v hx,← ht,List.length_set,Array.toList_setIfInBounds,List.take_set]
theorem Ml.Chs.get {home: Tm} {fs la: List UInt8 → Nat} {e0: Mt.Env} {m: List F}: ∀ {ls: List Lt} {nss: List (List Nat)} {k j: Nat} {l: Lt} {ns: List Nat},Ml.Chs home fs la e0 m k ls nss → ls[j]? = some l → nss[j]? = some ns → Ml.Ch home fs la e0 m (k + j) l ns
 | [],_,_,_,_,_,_,h,_ => by cases h
 | _:: _,[],_,_,_,_,h,_,_ => by cases h
 | l:: ls,ns:: nss,k,0,_,_,h,h1,h2 => by cases h1;cases h2;exact h.1
 | l:: ls,ns:: nss,k,j + 1,_,_,h,h1,h2 => by
  have:= Ml.Chs.get (ls:= ls) (nss:= nss) (k:= k + 1) (j:= j) h.2 h1 h2
  rw [show k + (j + 1) = k + 1 + j by omega];exact this
theorem WkW.pt {x: Wv} {w0: World} {B S n g: Nat} {W W': World} {cur: Array Value} (h: WkW x w0 B S n W) (b: But g W W') (hc: W.heap[g]? = some (.cells cur 242)) (hg: B ≤ g) (hB: w0.heap.size ≤ B): WkW x w0 B S n W':= by
 obtain ⟨es,ck,hm⟩:= h.sp.map
 exact ⟨h.below.trans (b.lower (Nat.le_trans hB hg) (Nat.le_trans hB h.from_)),Nat.le_trans h.from_ b.size,Safe.but b hc (by decide) _ _ h.box,h.sp.block (b.block _ (heap_lt hm) (fun e => by rw [e,hc] at hm;cases hm)),h.nums.safe (Safe.but b hc (by decide)) (Safe.but b hc (by decide))⟩
theorem WkP.pt {x: Wv} {B g: Nat} {e0: List Bd} {ys: List Mt.Env} {L: List Pv} {met: List (Nat × Mt.Env)} {W W': World} {cur: Array Value} (h: WkP x B e0 ys L met W) (b: But g W W') (hc: W.heap[g]? = some (.cells cur 242)): WkP x B e0 ys L met W':= by
 obtain ⟨es,ck,hm⟩:= h.metA.map
 exact ⟨fun j p hp => ⟨(h.pts j p hp).1.safe (Safe.but b hc (by decide)),(h.pts j p hp).2⟩,h.metA.block (b.block _ (heap_lt hm) (fun e => by rw [e,hc] at hm;cases hm)),h.wk,h.wc,h.dep⟩
theorem WkW.met {x: Wv} {w0: World} {B S n: Nat} {W W': World} {es: Array MapEntry} {ck: Nat} (h: WkW x w0 B S n W) (b: But x.bt W W') (hm: W.heap[x.bt]? = some (.map es ck)) (hne: x.bs ≠ x.bt) (hg: B ≤ x.bt) (hB: w0.heap.size ≤ B): WkW x w0 B S n W':= by
 have sf: ∀ ty: TypeId,Safe ty W W':= fun ty k cur hk => b.heap (fun e => by subst e;rw [hm] at hk;cases hk) hk
 exact ⟨h.below.trans (b.lower (Nat.le_trans hB hg) (Nat.le_trans hB h.from_)),Nat.le_trans h.from_ b.size,sf _ _ _ h.box,h.sp.block (b.block _ h.sp.lt hne),h.nums.safe (sf _) (sf _)⟩
theorem Itr.grown {pt: TypeId} {B base k n: Nat} {w w': World} {v: Value} {xs: List Value} (hown: w.ownsRow base pt k v n xs) (hg: w.grownBy w' v.ownBlock) (hb: B ≤ base) (hB: B ≤ w.heap.size): Itr pt B w w':= by
 have hlow: ∀ j,v.ownBlock = some j → B ≤ j:= fun j hj => Nat.le_trans hb (hown.lt j hj).1
 refine ⟨hg.os,hg.tape,hg.output,hg.size,fun j hj => hg.block j (by omega) (fun e => by have:= hlow j e.symm;omega),fun j c t z hj ht => ?_⟩
 rw [hg.block j (heap_lt hj) (fun e => ?_)]
 ·exact hj
 ·rcases hown.2 with ⟨h0,_⟩ | ⟨g,cap,cur',hv,_,hh,_⟩
  ·rw [h0] at e;cases e
  ·rw [hv] at e
   have e': j = g:= by cases e;rfl
   rw [e',hh] at hj
   cases hj;exact ht rfl
theorem met_mem {x: Wv} {B: Nat} {e0 p q: List Bd} {ys: List Mt.Env} {L: List Pv} {met: List (Nat × Mt.Env)} {W: World} {k i: Nat} (h: WkP x B e0 ys L met W) (hp: x.cx.V e0 k (p.map (·.1))) (hs: x.cx.st k i p = some q) (hm: Ml.keyT Lib.itoa k q ∈ met.map fun a => Ml.keyT Lib.itoa a.1 a.2): (k,q) ∈ met:= by
 obtain ⟨a,ha,he⟩:= List.mem_map.1 hm
 obtain ⟨h1,h2⟩:= Ml.key_inj Ml.dec_itoa (k:= a.1) (j:= k) (e:= a.2) (p:= q) (fun hk => by have h1:= (h.wk.met a ha).1;rw [hk] at h1;exact Ml.Cx.V_one h1 (Ml.Cx.V_next hp hs)) he
 have: a = (k,q):= by rw [← h1,← h2]
 rw [← this];exact ha
theorem met_few {x: Wv} {B: Nat} {e0: List Bd} {ys: List Mt.Env} {L: List Pv} {met: List (Nat × Mt.Env)} {W: World} (h: WkP x B e0 ys L met W) (hf: (x.cx.P 0 e0).length ≤ 60000): met.length ≤ 60000:= by
 have:= h.wc
 unfold Ml.Wc at this
 omega
theorem st_eq {x: Wv} {k i: Nat} {y: Lv} {z: Fv} {p: List Bd} (hy: x.r.body[k]? = some y) (hz: x.zs[i]? = some z): x.cx.st k i p = Ml.stp x.r.home (Ml.laOf (Ml.spans x.r.r)) k y.l z.f p:= by
 unfold Ml.Cx.st
 rw [show x.cx.r.body[k]? = some y.l by show (x.r.body.map Lv.l)[k]? = _;rw [List.getElem?_map,hy];rfl,show x.cx.m[i]? = some z.f by show (x.zs.map Fv.f)[i]? = _;rw [List.getElem?_map,hz];rfl]
 rfl
theorem wk_skip {x: Wv} {e0: List Bd} {ys: List Mt.Env} {L': List Pv} {pp p1: Pv} {met: List (Nat × Mt.Env)} {k i: Nat} (h: Ml.Wk x.cx e0 ys ((L' ++ [pp]).map Pv.pt) met) (hc: Ml.Wc x.cx e0 ((L' ++ [pp]).map Pv.pt) met.length) (hk: L'.length = k) (hn: k < x.cx.n) (hi: (x.cx.ns k)[pp.t]? = some i) (hp: p1.pt = (pp.env,pp.t + 1)) (hs: ∀ q,x.cx.st k i pp.env = some q → (k,q) ∈ met):
 Ml.Wk x.cx e0 ys ((L' ++ [p1]).map Pv.pt) met ∧ Ml.Wc x.cx e0 ((L' ++ [p1]).map Pv.pt) met.length ∧ x.cx.lefts 0 ((L' ++ [p1]).map Pv.pt) < x.cx.lefts 0 ((L' ++ [pp]).map Pv.pt):= by
 subst hk
 obtain ⟨ht,hg⟩:= List.getElem?_eq_some_iff.1 hi
 have hl: (L'.map Pv.pt).length = L'.length:= List.length_map _
 rw [List.map_append,List.map_cons,List.map_nil] at h hc ⊢
 rw [List.map_append,List.map_cons,List.map_nil,hp]
 rw [← hl] at hn
 have ht': pp.t < (x.cx.ns (L'.map Pv.pt).length).length:= by rw [hl];exact ht
 have hg': (x.cx.ns (L'.map Pv.pt).length)[pp.t] = i:= by
  have: (x.cx.ns (L'.map Pv.pt).length)[pp.t]? = some i:= by rw [hl];exact hi
  exact (List.getElem?_eq_some_iff.1 this).2
 refine ⟨Ml.Wk.skip h hn ht' (fun q hq => ?_),Ml.Wc.skip hc hn ht',Ml.Cx.lefts_skip x.cx hn ht'⟩
 rw [hg',hl] at hq
 rw [hl];exact hs q hq
theorem wk_push {x: Wv} (hnl: x.cx.nums.length = x.cx.n) {e0 q: List Bd} {ys: List Mt.Env} {L': List Pv} {pp p1 p2: Pv} {met met': List (Nat × Mt.Env)} {k i: Nat} (h: Ml.Wk x.cx e0 ys ((L' ++ [pp]).map Pv.pt) met) (hc: Ml.Wc x.cx e0 ((L' ++ [pp]).map Pv.pt) met.length) (hk: L'.length = k) (hn: k < x.cx.n) (hi: (x.cx.ns k)[pp.t]? = some i) (hp: p1.pt = (pp.env,pp.t + 1)) (hp2: p2.pt = (q,0)) (hs: x.cx.st k i pp.env = some q) (hm: met' = met ∨ met' = met ++ [(k,q)]):
 Ml.Wk x.cx e0 ys ((L' ++ [p1] ++ [p2]).map Pv.pt) met' ∧ Ml.Wc x.cx e0 ((L' ++ [p1] ++ [p2]).map Pv.pt) met'.length ∧ x.cx.lefts 0 ((L' ++ [p1] ++ [p2]).map Pv.pt) < x.cx.lefts 0 ((L' ++ [pp]).map Pv.pt):= by
 subst hk
 obtain ⟨ht,hg⟩:= List.getElem?_eq_some_iff.1 hi
 have hl: (L'.map Pv.pt).length = L'.length:= List.length_map _
 rw [List.map_append,List.map_cons,List.map_nil] at h hc ⊢
 rw [List.map_append,List.map_append,List.map_cons,List.map_nil,List.map_cons,List.map_nil,hp,hp2]
 rw [← hl] at hn
 have ht': pp.t < (x.cx.ns (L'.map Pv.pt).length).length:= by rw [hl];exact ht
 have hg': (x.cx.ns (L'.map Pv.pt).length)[pp.t] = i:= by
  have: (x.cx.ns (L'.map Pv.pt).length)[pp.t]? = some i:= by rw [hl];exact hi
  exact (List.getElem?_eq_some_iff.1 this).2
 have hs': x.cx.st (L'.map Pv.pt).length (x.cx.ns (L'.map Pv.pt).length)[pp.t] pp.env = some q:= by rw [hg',hl];exact hs
 refine ⟨Ml.Wk.push hnl h hn ht' hs' (fun a ha => ?_), ?_,Ml.Cx.lefts_push x.cx hn ht'⟩
 ·rcases hm with rfl | rfl
  ·exact .inl ha
  ·rcases List.mem_append.1 ha with ha | ha
   ·exact .inl ha
   ·rw [List.mem_singleton] at ha;exact .inr (by rw [hl];exact ha)
 ·refine (Ml.Wc.push hnl hc hn ht' hs').less ?_
  rcases hm with rfl | rfl
  ·omega
  ·simp
theorem own_not {w: World} {base k n b: Nat} {ty: TypeId} {v: Value} {xs: List Value} {es: Array MapEntry} {ck: Nat} (hown: w.ownsRow base ty k v n xs) (hm: w.heap[b]? = some (.map es ck)): some b ≠ v.ownBlock:= fun e => by
 rcases hown.2 with ⟨h0,_⟩ | ⟨g,cap,cur',hv,_,hh,_⟩
 ·rw [h0] at e;cases e
 ·rw [hv] at e
  have e': b = g:= by cases e;rfl
  rw [e',hh] at hm
  cases hm
theorem WkW.grown {x: Wv} {w0: World} {B S n k m: Nat} {W W': World} {v: Value} {xs: List Value} (h: WkW x w0 B S n W) (hown: W.ownsRow B 242 k v m xs) (hg: W.grownBy W' v.ownBlock) (hB: w0.heap.size ≤ B): WkW x w0 B S n W':= by
 obtain ⟨es,ck,hm⟩:= h.sp.map
 have it:= Itr.grown hown hg (Nat.le_refl _) h.from_
 exact ⟨h.below.trans ((it.mono hB).toBelow),Nat.le_trans h.from_ it.size,it.safe (by decide) _ _ h.box,h.sp.block (hg.block _ h.sp.lt (own_not hown hm)),h.nums.safe (it.safe (by decide)) (it.safe (by decide))⟩
theorem MetAt.grown {W W': World} {bm B k m: Nat} {L: List (List UInt8)} {v: Value} {xs: List Value} (h: MetAt W bm L) (hown: W.ownsRow B 242 k v m xs) (hg: W.grownBy W' v.ownBlock): MetAt W' bm L:= by
 obtain ⟨es,ck,hm⟩:= h.map
 exact h.block (hg.block _ h.lt (own_not hown hm))
end Go.Proofs.YtpdmmmdkpipmkaaGreatDoor
namespace Go.Proofs.YtpdmmmdkpipmkaaGreatDoor
open Go.RowKit Go.Lib Go.Shelf
theorem iW15: (Tryz.prog.info? 199).map (·.size) = some 15:= by kernel_rfl
theorem last_split {α: Type} (L: List α) (h: L ≠ []): ∃ L' p,L = L' ++ [p]:= ⟨L.dropLast,L.getLast h,(List.dropLast_concat_getLast h).symm⟩
theorem get_last {α: Type} (L: List α) (p: α): (L ++ [p])[L.length]? = some p:= by rw [List.getElem?_append_right (Nat.le_refl _),Nat.sub_self];rfl
theorem through_at (x: Wv) (w0: World) (B n: Nat) (X: Nat → Prop) (e0: List Bd) (a: Option Addr) (c: Nat) (l: Nat) (J Jx: List Mt.Env → World → Prop) (W: World) (hi: WkIn x w0 B e0) (hX: ∀ k,X k → w0.heap.size ≤ k ∧ k < B)
 (hJ: ∀ s A A',J s A → Itr 242 B A A' → J s A') (hJx: ∀ s A A',Jx s A → Itr 242 B A A' → Jx s A')
 (hY: ∀ pre p v W1,J pre W1 → EltE B p v W1 → pre.length < (x.cx.Y 0 e0).length → p ∈ x.cx.Y 0 e0 → YieldAt Fence.wide 0 Tryz.prog l #[v] W1 fun e W' => (e = .returned (.bool true) ∧ J (pre ++ [p]) W' ∧ Rnd w0.heap.size X W1 W') ∨ (e = .returned (.bool false) ∧ Jx (pre ++ [p]) W'))
 (hb: Below w0.heap.size w0 W) (hB: B ≤ W.heap.size) (hsp: SpansAt W x.bs (Ml.spans x.r.r) n) (hnu: NumsAt W x.na x.nc x.nvs) (hme: MetAt W x.bt []) (he: RowT bK 143 W a c e0) (hef: From B a) (h0: J [] W):
 Calls Tryz.prog 148 #[x.val,.slice a e0.length c,.func (.yield l) #[] #[]] W fun e W' => (∃ v,e = .returned v) ∧ ((∃ ys,((∀ y,y ∈ ys ↔ y ∈ x.cx.Y 0 e0) ∧ ys.length ≤ (x.cx.Y 0 e0).length) ∧ J ys W') ∨ (∃ pre,Jx pre W')):= by
 have hnl: x.cx.nums.length = x.cx.n:= by
  have:= hi.chs.len
  show (x.nvs.map Nv.ns).length = x.r.r.body.length
  exact this
 have A1:= below_alloc W (.cells x.cells 199)
 obtain ⟨p0,hp0⟩: ∃ p0: Pv,p0 = ⟨a,c,e0,0⟩:= ⟨_,rfl⟩
 have HP0:= hideP hp0
 have A2:= below_alloc (W.alloc (.cells x.cells 199)) (.cells (pvl p0).toArray 242)
 have A:= Below.then A1 A2
 have HV: Hid ((.agg #[.slice a e0.length c,.int .i64 0]: Value) = .agg (pvl p0).toArray):= by show _ = _;rw [hp0];rfl
 have WW: WkW x w0 B W.heap.size n ((W.alloc (.cells x.cells 199)).alloc (.cells (pvl p0).toArray 242)):=
  ⟨hb.trans (A.mono (Nat.le_trans hi.low hB)),Nat.le_trans hB A.size,below_heap A2 (heap_alloc_new W _),hsp.next A,hnu.safe (Safe.below A) (Safe.below A)⟩
 have OW: ((W.alloc (.cells x.cells 199)).alloc (.cells (pvl p0).toArray 242)).ownsRow B 242 pK.k (.slice (some ⟨W.heap.size + 1,0,none⟩) [p0].length 1) [p0].length ([p0].flatMap pK.enc):= by
  refine ⟨rfl,.inr ⟨W.heap.size + 1,1,(pvl p0).toArray,rfl,by omega, ?_,Nat.le_refl _,by unfold maxLen;omega,rfl,rfl⟩⟩
  have:= heap_alloc_new (W.alloc (.cells x.cells 199)) (.cells (pvl p0).toArray 242)
  rw [World.size_alloc] at this
  exact this
 have pa: p0.a = a:= by rw [hp0]
 have pc: p0.cap = c:= by rw [hp0]
 have pe: p0.env = e0:= by rw [hp0]
 have pt: p0.pt = (e0,0):= by rw [hp0]
 have pz: p0.t ≤ (x.cx.ns 0).length:= by
  rw [hp0];exact Nat.zero_le _
 have PP: WkP x B e0 [] [p0] [] ((W.alloc (.cells x.cells 199)).alloc (.cells (pvl p0).toArray 242)):= by
  refine ⟨fun j p hp => ?_,hme.next A, ?_, ?_,by simp⟩
  ·cases j with
   | zero => cases hp;rw [pa,pc,pe];exact ⟨he.safe (Safe.below A),hef,hi.e0k,pz⟩
   | succ j => cases hp
  ·rw [List.map_cons,List.map_nil,pt];exact Ml.Wk.start x.cx hnl e0
  ·rw [List.map_cons,List.map_nil,pt];exact Ml.Wc.start x.cx hnl e0
 have J0:= hJ [] W _ h0 (Itr.below A hB)
 have HI:= hideP hi
 have HY:= hideP hY
 have HJ:= hideP hJ
 have HJX:= hideP hJx
 have HX:= hideP hX
 have HNL:= hideP hnl
 have SZ:= A1.size
 have lowB:= hi.low
 clear hi hY hJ hJx hX hnl hp0 pa pc pe pt pz he hme hnu hsp hb h0 A1 A2
 go_enter Tryz.func148,Tryz.ntmps148
 go_wp2_with (refine wpList_build_one rfl 243 242 _ rfl (pvl p0) _ 2 32 HV.out rfl (by decide) (by decide) Tryz.underlying243 Tryz.iPt ?_)
 generalize hW1: (W.alloc (.cells x.cells 199)).alloc (.cells (pvl p0).toArray 242) = W1 at *
 clear hW1 A
 generalize hS: W.heap.size = S at *
 have HS: B ≤ S:= hB
 go_loopg [6,7,8,9,10,11] (x.cx.lefts 0 ([p0].map Pv.pt)) (fun m v6 _ _ _ _ _ wr => ∃ (L: List Pv) (ys: List Mt.Env) (met: List (Nat × Mt.Env)) (g cap: Nat),v6 = .slice (some ⟨g,0,none⟩) L.length cap ∧ m = x.cx.lefts 0 (L.map Pv.pt) ∧ wr.ownsRow B 242 pK.k (.slice (some ⟨g,0,none⟩) L.length cap) L.length (L.flatMap pK.enc) ∧ WkW x w0 B S n wr ∧ WkP x B e0 ys L met wr ∧ J ys wr)
 case atStart => exact ⟨[p0],[],[],S + 1,1,rfl,rfl,OW,WW,PP,J0⟩
 case round =>
  obtain ⟨L,ys,met,g,cap,rfl,rfl,O,WA,PA,HJr⟩:= hrel
  have dep:= PA.dep
  have b300:= HI.out.sm.body
  by_cases hL: L = []
  ·subst hL
   have FIN:= hideP PA.wk.fin
   go_wp2_with fail
   go_end0
   exact ⟨⟨_,rfl⟩,.inl ⟨ys,FIN.out,HJr⟩⟩
  ·obtain ⟨L',pp,rfl⟩:= last_split L hL
   clear hL
   have BLK: Blk pK 242 wr g (L' ++ [pp]):= by
    rcases own_blk (D:= pK) O with ⟨h,_⟩ | ⟨g',cap',h,_,_,_,hB'⟩
    ·cases h
    ·cases h;exact hB'
   have rg: wr.rangeAt g (L'.length * 2) (pvl pp):= by
    have h1:= BLK.range L'.length (by simp)
    have e1: (L' ++ [pp])[L'.length]'(by simp) = pp:= by simp
    rw [e1] at h1
    exact h1
   obtain ⟨k,hk⟩: ∃ k,L'.length = k:= ⟨_,rfl⟩
   have ll: (L' ++ [pp]).length = k + 1:= by simp [hk]
   have HK:= hideP hk
   have PT:= hideP (PA.pts k pp (by rw [← hk];exact get_last L' pp))
   rw [hk] at rg
   rw [ll]
   have LL:= hideP ll
   have DEP: k ≤ x.r.body.length:= by rw [ll] at dep;omega
   clear hk ll dep
   have N1:= heap_alloc_new wr (.cells #[.slice none 0 0,.int .i64 0] 242)
   have TPu:= Tryz.underlying242
   have c13: ∀ W: World,W.heap[S]? = some (.cells x.cells 199) → W.cell? ⟨S,13,none⟩ = some (.slice x.na x.nvs.length x.nc):= fun W h => by rw [heap_cell h];rfl
   have c11: ∀ W: World,W.heap[S]? = some (.cells x.cells 199) → W.cell? ⟨S,11,none⟩ = some (.slice x.fa x.zs.length x.fc):= fun W h => by rw [heap_cell h];rfl
   have C13:= hideP c13
   have C11:= hideP c11
   clear c13 c11
   have nvl: x.nvs.length = x.r.body.length:= by have:= HI.out.chs.len;simpa [Rv.r] using this
   have NVL:= hideP nvl
   have fewn:= WA.nums.row.row.few
   by_cases hend: k = x.r.body.length
   ·have q2: ((k: Int) == (x.nvs.length: Int)) = true:= by simp;omega
    have HEND:= hideP hend
    have kw: wrap64 (k: Int) = (k: Int):= by simp only [wrap64];omega
    clear nvl hend DEP
    go_upto_region 11 with (first
     | (refine wpList_load_mid rfl 242 _ rfl g (k * 2) rfl (pvl pp) _ rg TPu rfl iPt2 ?_)
     | (refine wpList_store_all rfl 242 _ _ rfl wr.heap.size 2 _ 242 (pvl pp) rfl rfl N1 rfl rfl iPt2 rfl ?_;intro w2 N2 b2;have B2:= below_tok b2;have W2:= WA.next B2 lowB;have P2:= PA.next B2;have J2:= HJ.out _ _ _ HJr (Itr.below B2 WA.from_);have d13:= C13.out _ W2.box;have d0: w2.cell? ⟨wr.heap.size,0,none⟩ = some (.slice pp.a pp.env.length pp.cap):= (by rw [heap_cell N2];rfl)))
    refine (wpIn_wide (n:= 0)).1 ?_
    obtain ⟨fn,tmps,assign,body,hy,hR⟩:= HY.out ys pp.env (.slice pp.a pp.env.length pp.cap) w2 J2 ⟨pp.a,pp.cap,rfl,PT.out.1.safe (Safe.below B2),PT.out.2.1,by have:= PT.out.2.2.1.len;have:= HEND.out;omega⟩ (by
     have:= P2.wk
     rw [List.map_append] at this
     exact (this.told (by rw [List.length_map];have:= HK.out;have:= HEND.out;show x.cx.n ≤ _;unfold Ml.Cx.n;simp [Rv.r];omega)).2) (by
     have:= P2.wk
     rw [List.map_append] at this
     exact (this.told (by rw [List.length_map];have:= HK.out;have:= HEND.out;show x.cx.n ≤ _;unfold Ml.Cx.n;simp [Rv.r];omega)).1)
    gi_wp2
    refine ⟨rfl,hR.mono ?_⟩
    have no: Hid (∀ k,B ≤ k → ¬ X k):= fun k hk hx => by have:= (HX.out k hx).2;omega
    rintro e W3 (⟨rfl,J3,r3⟩ | ⟨rfl,Jx3⟩)
    ·have WA3:= W2.round HI.out r3 HX.out HS
     have PA3:= P2.round HI.out r3 HX.out
     have O3:= ownsRow_rnd (ownsRow_keep O (Safe.below B2)) r3 (by decide) no.out
     clear hR hy r3 HY
     have hcap: k + 1 ≤ cap:= by
      rcases own_blk (D:= pK) O3 with ⟨h,_⟩ | ⟨g',cap',h,_,h2,_⟩
      ·cases h
      ·cases h;rw [LL.out] at h2;exact h2
     have qc: (k: Int) ≤ (cap: Int):= by omega
     have O4:= own_prefix O3
     have TL:= hideP (by
      have:= PA3.wk
      rw [List.map_append] at this
      exact this.tell (by rw [List.length_map];have:= HK.out;have:= HEND.out;show x.cx.n ≤ _;unfold Ml.Cx.n;simp [Rv.r];omega))
     have TC:= hideP (by
      have:= PA3.wc
      rw [List.map_append] at this
      exact this.drop)
     have PA4: WkP x B e0 (ys ++ [pp.env]) L' met W3:= ⟨fun j p hp => PA3.pts j p (by rw [List.getElem?_append_left (List.getElem?_eq_some_iff.1 hp).1];exact hp),PA3.metA,TL.out,TC.out,by have:= PA3.dep;rw [List.length_append] at this;omega⟩
     rw [HK.out] at O4
     gi_wp2
     go_wp2_with fail
     go_roundg (x.cx.lefts 0 (L'.map Pv.pt))
     case measure => rw [List.map_append];exact x.cx.lefts_drop pp.env pp.t _
     case rel => exact ⟨L',ys ++ [pp.env],met,g,cap,by rw [HK.out],rfl,by rw [HK.out];exact O4,WA3,PA4,J3⟩
    ·clear hR hy HY
     gi_wp2
     go_wp2_with fail
     refine bodyPost_ret (results_none rfl _ _ _) rfl ?_
     exact ⟨⟨_,rfl⟩,.inr ⟨_,Jx3⟩⟩
   ·have q2: ((k: Int) == (x.nvs.length: Int)) = false:= by rw [beq_eq_false_iff_ne];omega
    have kw: wrap64 (k: Int) = (k: Int):= by simp only [wrap64];omega
    have hkb: k < x.r.body.length:= by omega
    have hkn: k < x.nvs.length:= by omega
    obtain ⟨b,o,hna⟩:= WA.nums.row.row.addr (by omega)
    have qn: (k: Int) < (x.nvs.length: Int):= by omega
    obtain ⟨nv,hnv⟩: ∃ nv,x.nvs[k]? = some nv:= ⟨_,List.getElem?_eq_getElem hkn⟩
    have NVm: nv ∈ x.nvs:= List.mem_of_getElem? hnv
    have gn: ∀ W: World,NumsAt W x.na x.nc x.nvs → W.cell? ⟨b,o + k,none⟩ = some (.slice nv.a nv.ns.length nv.cap):= fun W h => by
     have h1:= h.row.row
     rw [hna] at h1
     have h2:= h1.range k hkn 0
     have e1: x.nvs[k] = nv:= (List.getElem?_eq_some_iff.1 hnv).2
     rw [e1] at h2
     have:= h2 _ rfl
     simpa [nK] using this
    have GN:= hideP gn
    have HNA:= hideP hna
    have HNV:= hideP hnv
    have NS: Hid (x.cx.ns k = nv.ns):= by
     show (x.nvs.map Nv.ns).getD k [] = nv.ns
     rw [List.getD_eq_getElem?_getD,List.getElem?_map,hnv];rfl
    clear gn nvl hend DEP hkn hnv
    have hc13: ∀ W: World,W.heap[S]? = some (.cells x.cells 199) → W.cell? ⟨S,13,none⟩ = some (.slice (some ⟨b,o,none⟩) x.nvs.length x.nc):= fun W h => by rw [C13.out W h,hna]
    have HC13:= hideP hc13
    clear hc13 hna
    go_upto_region 13 with (first
     | (refine wpList_load_mid rfl 242 _ rfl g (k * 2) rfl (pvl pp) _ rg TPu rfl iPt2 ?_)
     | (refine wpList_store_all rfl 242 _ _ rfl wr.heap.size 2 _ 242 (pvl pp) rfl rfl N1 rfl rfl iPt2 rfl ?_;intro w2 N2 b2;have B2:= below_tok b2;have W2:= WA.next B2 lowB;have P2:= PA.next B2;have J2:= HJ.out _ _ _ HJr (Itr.below B2 WA.from_);have d13:= HC13.out _ W2.box;have d0: w2.cell? ⟨wr.heap.size,0,none⟩ = some (.slice pp.a pp.env.length pp.cap):= (by rw [heap_cell N2];rfl);have d1: w2.cell? ⟨wr.heap.size,1,none⟩ = some (.int .i64 (pp.t: Int)):= (by rw [heap_cell N2];rfl);have dn:= GN.out _ W2.nums;have O2:= ownsRow_keep O (Safe.below B2)))
    have D13:= d13;have DN:= dn;have D1:= d1
    go_quiet (fail)
    have gD: Below w2.heap.size w2 (w2.drewN nq):= below_drewN (Below.refl _ _) _
    have W3:= W2.next gD lowB
    have P3:= P2.next gD
    have J3:= HJ.out _ _ _ J2 (Itr.below gD W2.from_)
    have O3:= ownsRow_keep O2 (Safe.below gD)
    have N3:= below_heap gD N2
    clear d0 d1 dn d13 D13 DN D1 J2 P2 W2 O2 gD
    generalize w2.drewN nq = w3 at *
    by_cases hpop: pp.t = nv.ns.length
    ·have hcap: k + 1 ≤ cap:= by
      rcases own_blk (D:= pK) O3 with ⟨h,_⟩ | ⟨g',cap',h,_,h2,_⟩
      ·cases h
      ·cases h;rw [LL.out] at h2;exact h2
     have qc: (k: Int) ≤ (cap: Int):= by omega
     have qt: ((pp.t: Int) == (nv.ns.length: Int)) = true:= by simp;omega
     have O4:= own_prefix O3
     have TL:= hideP (by
      have:= P3.wk
      rw [List.map_append] at this
      exact this.pop (by rw [List.length_map];have:= HK.out;show _ < x.cx.n;unfold Ml.Cx.n;simp [Rv.r];omega) (by rw [List.length_map,HK.out,NS.out,hpop];exact Nat.le_refl _))
     have TC:= hideP (by
      have:= P3.wc
      rw [List.map_append] at this
      exact this.drop)
     have PA4: WkP x B e0 ys L' met w3:= ⟨fun j p hp => P3.pts j p (by rw [List.getElem?_append_left (List.getElem?_eq_some_iff.1 hp).1];exact hp),P3.metA,TL.out,TC.out,by have:= P3.dep;rw [List.length_append] at this;omega⟩
     rw [HK.out] at O4
     clear hpop TL TC
     go_wp2_with fail
     go_roundg (x.cx.lefts 0 (L'.map Pv.pt))
     case measure => rw [List.map_append];exact x.cx.lefts_drop pp.env pp.t _
     case rel => exact ⟨L',ys,met,g,cap,by rw [HK.out],rfl,by rw [HK.out];exact O4,W3,PA4,J3⟩
    ·have qt: ((pp.t: Int) == (nv.ns.length: Int)) = false:= by rw [beq_eq_false_iff_ne];omega
     have ht: pp.t < nv.ns.length:= by
      have:= PT.out.2.2.2
      rw [NS.out] at this
      omega
     obtain ⟨cur,hcur,hg0,hcs,hBg⟩: ∃ cur: Array Value,w3.heap[g]? = some (.cells cur 242) ∧ (k + 1) * 2 ≤ cur.size ∧ k + 1 ≤ cap ∧ B ≤ g:= by
      rcases O3.2 with ⟨h,_⟩ | ⟨g',cap',cur,h,h1,h2,h3,_,h5,_⟩
      ·cases h
      ·cases h
       rw [LL.out] at h3
       exact ⟨cur,h2,by rw [h5];exact Nat.mul_le_mul_right _ h3,h3,h1⟩
     have BLK3: w3.cell? ⟨g,k * 2 + 1,none⟩ = some (.int .i64 (pp.t: Int)):= by
      rcases own_blk (D:= pK) O3 with ⟨h,_⟩ | ⟨g',cap',h,_,_,_,hB'⟩
      ·cases h
      ·cases h
       have h1:= hB'.range L'.length (by simp)
       have e1: (L' ++ [pp])[L'.length]'(by simp) = pp:= by simp
       rw [e1,HK.out] at h1
       exact h1 1 _ rfl
     have qk: (k: Int) < ((k: Int) + 1):= by omega
     have iI: (Tryz.prog.info? 3).map (·.size) = some 1:= by kernel_rfl
     have tb: pp.t ≤ 4398046510976:= by
      have:= (W3.nums.each nv NVm).row.few
      omega
     clear hpop
     go_upto_region 6 with (first
      | (refine wpList_store_cel rfl 3 _ _ rfl g (k * 2 + 1) cur.size 242 (.int .i64 ((pp.t: Int) + 1)) (cur.setIfInBounds (k * 2 + 1) (.int .i64 ((pp.t: Int) + 1))) rfl rfl (by with_reducible exact hcur) rfl (by omega) iI rfl rfl ?_;intro w4 H4 b4))
     have hgl: g < wr.heap.size:= BLK.lt
     have W4:= W3.pt b4 hcur hBg lowB
     have P4:= P3.pt b4 hcur
     have J4:= HJ.out _ _ _ J3 (Itr.but b4 hcur hBg)
     have N4:= b4.heap (by omega) N3
     obtain ⟨p1,hp1⟩: ∃ p1: Pv,p1 = ⟨pp.a,pp.cap,pp.env,pp.t + 1⟩:= ⟨_,rfl⟩
     have O4: w4.ownsRow B 242 pK.k (.slice (some ⟨g,0,none⟩) (L' ++ [p1]).length cap) (L' ++ [p1]).length ((L' ++ [p1]).flatMap pK.enc):= by
      have e1: (L' ++ [pp])[k]'(by rw [LL.out];omega) = pp:= by
       have:= get_last L' pp
       rw [HK.out] at this
       exact (List.getElem?_eq_some_iff.1 this).2
      have e2: (L' ++ [pp]).set k p1 = L' ++ [p1]:= by
       rw [List.set_append_right _ _ (by rw [HK.out];exact Nat.le_refl _),HK.out,Nat.sub_self];rfl
      have:= own_cell O3 k 1 (by rw [LL.out];omega) (by decide) p1 (.int .i64 ((pp.t: Int) + 1)) (by rw [e1,hp1];show [_,_] = _;simp [pK,pvl]) (w':= w4) (fun c hc => by rw [hcur] at hc;cases hc;exact H4)
      rw [e2] at this
      exact this
     have HP1:= hideP hp1
     clear H4 b4 W3 P3 J3 O3 N3 BLK3 hcur hp1 BLK rg O PA WA HJr
     obtain ⟨bi,oi,hna2⟩:= (W4.nums.each nv NVm).row.addr (by omega)
     obtain ⟨i,hi'⟩: ∃ i,nv.ns[pp.t]? = some i:= ⟨_,List.getElem?_eq_getElem ht⟩
     obtain ⟨yl,hyl⟩: ∃ yl,x.r.body[k]? = some yl:= ⟨_,List.getElem?_eq_getElem hkb⟩
     have hCh:= HI.out.chs.get (j:= k) (l:= yl.l) (ns:= nv.ns) (by show (x.r.body.map Lv.l)[k]? = _;rw [List.getElem?_map,hyl];rfl) (by rw [List.getElem?_map,HNV.out];rfl)
     have hil: i < x.zs.length:= by have:= hCh.lt i (List.mem_of_getElem? hi');simpa using this
     obtain ⟨z,hz⟩: ∃ z,x.zs[i]? = some z:= ⟨_,List.getElem?_eq_getElem hil⟩
     have FT:= HI.out.facts
     obtain ⟨bf,ofs,hfa⟩:= FT.row.addr (by omega)
     have gi: ∀ W: World,NumsAt W x.na x.nc x.nvs → W.cell? ⟨bi,oi + pp.t,none⟩ = some (.int .i64 (i: Int)):= fun W h => by
      have h1:= (h.each nv NVm).row
      rw [hna2] at h1
      have h2:= h1.range pp.t ht 0
      rw [(List.getElem?_eq_some_iff.1 hi').2] at h2
      have:= h2 _ rfl
      simpa [iK] using this
     have gf: ∀ W: World,Below w0.heap.size w0 W → W.rangeAt bf (ofs + i * 4) (fv z):= fun W h => by
      have h1:= FT.row.below h (Nat.le_refl _)
      rw [hfa] at h1
      have h2:= h1.range i hil
      rw [(List.getElem?_eq_some_iff.1 hz).2] at h2
      exact h2
     have hc11: ∀ W: World,W.heap[S]? = some (.cells x.cells 199) → W.cell? ⟨S,11,none⟩ = some (.slice (some ⟨bf,ofs,none⟩) x.zs.length x.fc):= fun W h => by rw [C11.out W h,hfa]
     have gn2: ∀ W: World,NumsAt W x.na x.nc x.nvs → W.cell? ⟨b,o + k,none⟩ = some (.slice (some ⟨bi,oi,none⟩) nv.ns.length nv.cap):= fun W h => by rw [GN.out W h,hna2]
     have CELLS: ∀ W: World,WkW x w0 B S n W → W.heap[wr.heap.size]? = some (.cells (pvl pp).toArray 242) → (W.cell? ⟨S,11,none⟩ = some (.slice (some ⟨bf,ofs,none⟩) x.zs.length x.fc) ∧ W.cell? ⟨S,13,none⟩ = some (.slice (some ⟨b,o,none⟩) x.nvs.length x.nc) ∧ W.cell? ⟨b,o + k,none⟩ = some (.slice (some ⟨bi,oi,none⟩) nv.ns.length nv.cap) ∧ W.cell? ⟨wr.heap.size,1,none⟩ = some (.int .i64 (pp.t: Int)) ∧ W.cell? ⟨bi,oi + pp.t,none⟩ = some (.int .i64 (i: Int)) ∧
      W.cell? ⟨bf,ofs + i * 4,none⟩ = some (str z.at_) ∧ W.cell? ⟨bf,ofs + i * 4 + 1,none⟩ = some (str z.by_) ∧ W.cell? ⟨bf,ofs + i * 4 + 2,none⟩ = some (str z.pred) ∧ W.cell? ⟨bf,ofs + i * 4 + 3,none⟩ = some (.slice z.a z.ks.length z.cap)):= fun W h1 h2 => by
      have f:= gf W h1.below
      exact ⟨hc11 W h1.box,HC13.out W h1.box,gn2 W h1.nums,by rw [heap_cell h2];rfl,gi W h1.nums,f 0 _ rfl,f 1 _ rfl,f 2 _ rfl,f 3 _ rfl⟩
     have HCELLS:= hideP CELLS
     have HCH:= hideP hCh
     have HIl:= hideP hi'
     have HZ:= hideP hz
     have HYL:= hideP hyl
     have qi: (i: Int) < (x.zs.length: Int):= by omega
     have qt2: (pp.t: Int) < (nv.ns.length: Int):= by omega
     have zf:= FT.row.few
     clear CELLS gi gf hc11 gn2 hna2 hfa hCh hi' hz hyl FT
     have gDr:= (Below.refl w4.heap.size w4).drew
     have W4d:= W4.next gDr lowB
     have N4d:= below_heap gDr N4
     have A5d: Below w4.heap.size w4 (w4.alloc (.cells #[.string { data:= #[] },.string { data:= #[] },.string { data:= #[] },.slice none 0 0] 37)).drew:= (below_alloc w4 (.cells #[.string { data:= #[] },.string { data:= #[] },.string { data:= #[] },.slice none 0 0] 37)).drew
     have W5d:= W4.next A5d lowB
     have N5d:= below_heap A5d N4
     have A6: Below w4.heap.size w4 (w4.alloc (.cells #[str z.at_,str z.by_,str z.pred,.slice z.a z.ks.length z.cap] 37)).drew:= (below_alloc w4 (.cells #[str z.at_,str z.by_,str z.pred,.slice z.a z.ks.length z.cap] 37)).drew
     have W6:= W4.next A6 lowB
     have N6:= below_heap A6 N4
     have F6: (w4.alloc (.cells #[str z.at_,str z.by_,str z.pred,.slice z.a z.ks.length z.cap] 37)).drew.heap[w4.heap.size]? = some (.cells (fv z).toArray 37):= heap_alloc_new w4 (.cells #[str z.at_,str z.by_,str z.pred,.slice z.a z.ks.length z.cap] 37)
     have P6:= P4.next A6
     have J6:= HJ.out _ _ _ J4 (Itr.below A6 W4.from_)
     have O6:= ownsRow_keep O4 (Safe.below A6)
     generalize hR: wr.heap.size = R at *
     go_region_held3 (fun W => W.cell? ⟨S,11,none⟩ = some (.slice (some ⟨bf,ofs,none⟩) x.zs.length x.fc) ∧ W.cell? ⟨S,13,none⟩ = some (.slice (some ⟨b,o,none⟩) x.nvs.length x.nc) ∧ W.cell? ⟨b,o + k,none⟩ = some (.slice (some ⟨bi,oi,none⟩) nv.ns.length nv.cap) ∧ W.cell? ⟨R,1,none⟩ = some (.int .i64 (pp.t: Int)) ∧ W.cell? ⟨bi,oi + pp.t,none⟩ = some (.int .i64 (i: Int)) ∧
      W.cell? ⟨bf,ofs + i * 4,none⟩ = some (str z.at_) ∧ W.cell? ⟨bf,ofs + i * 4 + 1,none⟩ = some (str z.by_) ∧ W.cell? ⟨bf,ofs + i * 4 + 2,none⟩ = some (str z.pred) ∧ W.cell? ⟨bf,ofs + i * 4 + 3,none⟩ = some (.slice z.a z.ks.length z.cap)) (first | with_reducible exact HCELLS.out _ W6 N6 | with_reducible exact HCELLS.out _ W5d N5d | exact HCELLS.out _ W4d N4d) (fail)
     clear W4 W4d N4 N4d P4 J4 O4 HCELLS gDr A5d W5d N5d
     generalize hw6: (w4.alloc (.cells #[str z.at_,str z.by_,str z.pred,.slice z.a z.ks.length z.cap] 37)).drew = w6 at *
     have c60: w6.cell? ⟨R,0,none⟩ = some (.slice pp.a pp.env.length pp.cap):= by rw [heap_cell N6];rfl
     have TWu:= Tryz.underlying199
     have TFu:= Tryz.underlying37
     have BX6: w6.heap[S]? = some (.cells x.list.toArray 199):= W6.box
     have zm:= List.mem_of_getElem? HZ.out
     have ym:= List.mem_of_getElem? HYL.out
     have ENV:= (P6.pts k pp (by have:= get_last L' pp;rw [HK.out] at this;exact this))
     have mf:= met_few P6 HI.out.few
     have TS:= hideP (step_at x k yl z pp.a pp.cap pp.env n _ w6 (HI.out.rule.below W6.below (Nat.le_refl _)) HYL.out (Fv.At.below (HI.out.facts.each z zm) W6.below (Nat.le_refl _)) ENV.1.row W6.sp P6.metA (by omega) (fun b hb => (ENV.2.2.1.each b hb).1)
      (fun q hq b hb => by
        have o:= ENV.2.2.1.lit (HI.out.small z zm) (HI.out.sm.head _ (List.mem_cons_self ..)) (HI.out.sm.lits yl ym) (HI.out.sm.each yl ym) hq
        exact ⟨(o.each b hb).1,okB_of (o.each b hb).2⟩)
      (by have:= ENV.2.2.1.len;have:= HI.out.sm.each yl ym;omega) (by rw [List.length_map];omega) (HI.out.tab.now W6.below (Nat.le_trans lowB W6.from_)))
     have OKQ: Hid (∀ q,Ml.stp x.r.home (Ml.laOf (Ml.spans x.r.r)) k yl.l z.f pp.env = some q → OkE (k + 1) q):= fun q hq => ENV.2.2.1.stp (HI.out.small z zm) (HI.out.sm.head _ (List.mem_cons_self ..)) (HI.out.sm.lits yl ym) (HI.out.sm.each yl ym) hq
     have EV:= hideP ENV
     clear hw6 A6 ENV
     go_wp2_with (first
      | (refine wpList_load_all rfl 199 _ rfl S 15 199 x.list _ rfl (by with_reducible exact BX6) rfl TWu rfl iW15 ?_)
      | (refine wpList_load_all rfl 37 _ rfl w4.heap.size 4 37 (fv z) _ rfl (by with_reducible exact F6) rfl TFu rfl iF4 ?_))
     refine TS.out.mono ?_
     rintro e w7 ⟨ANS,b7⟩
     obtain ⟨es6,ck6,hm6⟩:= P6.metA.map
     have HIo:= HI.out
     have W7:= W6.met b7 hm6 HIo.ne HIo.bt lowB
     have J7:= HJ.out _ _ _ J6 (Itr.butO b7 hm6 rfl HIo.bt)
     have sf: ∀ ty: TypeId,Safe ty w6 w7:= fun ty k' cur' hk' => b7.heap (fun e => by subst e;rw [hm6] at hk';cases hk') hk'
     have O7:= ownsRow_keep O6 (sf _)
     have HN: Hid (k < x.cx.n):= by show k < x.r.r.body.length;simpa [Rv.r] using hkb
     have HIX: Hid ((x.cx.ns k)[pp.t]? = some i):= by show _ = _;rw [NS.out];exact HIl.out
     have HPT: Hid (p1.pt = (pp.env,pp.t + 1)):= by show _ = _;rw [HP1.out]
     have HSE:= hideP (st_eq (p:= pp.env) HYL.out HZ.out)
     have VP: Hid (x.cx.V e0 k (pp.env.map (·.1))):= by
      have:= P6.wk
      rw [List.map_append,List.map_cons,List.map_nil] at this
      have:= this.top
      rwa [List.length_map,HK.out] at this
     have LL1: (L' ++ [p1]).length = k + 1:= by rw [List.length_append,HK.out];rfl
     have PTS: Hid (∀ (j: Nat) (p: Pv),(L' ++ [p1])[j]? = some p → RowT bK 143 w7 p.a p.cap p.env ∧ From B p.a ∧ OkE j p.env ∧ p.t ≤ (x.cx.ns j).length):= fun j p hp => by
      rcases Ml.get_snoc hp with hp | ⟨rfl,hb⟩
      ·have h:= P6.pts j p (by rw [List.getElem?_append_left (List.getElem?_eq_some_iff.1 hp).1];exact hp)
       exact ⟨h.1.safe (sf _),h.2⟩
      ·have h:= EV.out
       rw [HK.out,hb,HP1.out]
       refine ⟨h.1.safe (sf _),h.2.1,h.2.2.1, ?_⟩
       show pp.t + 1 ≤ _
       rw [NS.out];omega
     have DEPh:= hideP P6.dep
     clear TS c60 BX6 F6 N6 O6 J6 hm6 HIo
     rcases ANS with ⟨rfl,M7,HNO⟩ | ⟨q,a7,c7,met7,HYES,rfl,R7,F7,M7,HM⟩
     ·have SK:= hideP (wk_skip (p1:= p1) P6.wk P6.wc HK.out HN.out HIX.out HPT.out (fun q hq => met_mem P6 VP.out hq (HNO q (by rw [← HSE.out];exact hq))))
      have P7: WkP x B e0 ys (L' ++ [p1]) met w7:= ⟨PTS.out,M7,SK.out.1,SK.out.2.1,by have:= DEPh.out;rw [LL.out] at this;rw [LL1];exact this⟩
      have HLL1:= hideP LL1
      clear HNO LL1 b7 P6
      rw [HLL1.out] at O7
      go_wp2_with fail
      go_roundg (x.cx.lefts 0 ((L' ++ [p1]).map Pv.pt))
      case measure => exact SK.out.2.2
      case rel => exact ⟨L' ++ [p1],ys,met,g,cap,by rw [HLL1.out],rfl,by rw [HLL1.out];exact O7,W7,P7,J7⟩
     ·obtain ⟨met',HM1,HM2⟩: ∃ met': List (Nat × Mt.Env),(met' = met ∨ met' = met ++ [(k,q)]) ∧ met7 = met'.map fun a => Ml.keyT Lib.itoa a.1 a.2:= by
       rcases HM with h | h
       ·exact ⟨met,.inl rfl,h⟩
       ·exact ⟨met ++ [(k,q)],.inr rfl,by rw [h,List.map_append];rfl⟩
      obtain ⟨p2,hp2⟩: ∃ p2: Pv,p2 = ⟨a7,c7,q,0⟩:= ⟨_,rfl⟩
      have HV2: Hid ((.agg #[.slice a7 q.length c7,.int .i64 0]: Value) = .agg (pvl p2).toArray):= by show _ = _;rw [hp2];rfl
      have HP2:= hideP hp2
      have PS:= hideP (wk_push HNL.out (p1:= p1) (p2:= p2) P6.wk P6.wc HK.out HN.out HIX.out HPT.out (by rw [hp2]) (by rw [HSE.out];exact HYES) HM1)
      have OQ:= hideP (OKQ.out q HYES)
      have FQ: Hid (From B a7):= From.mono F7 W6.from_
      rw [HM2] at M7
      have HLL1:= hideP LL1
      rw [HLL1.out] at O7
      have A8:= below_alloc w7 (.cells (pvl p2).toArray 242)
      have O8:= ownsRow_keep O7 (Safe.below A8)
      have R8: Row pK (w7.alloc (.cells (pvl p2).toArray 242)) (some ⟨w7.heap.size,0,none⟩) 1 [p2]:= row_new pK w7 _ _ p2 rfl
      have W8:= W7.next A8 lowB
      have M8:= M7.next A8
      have J8:= HJ.out _ _ _ J7 (Itr.below A8 W7.from_)
      have B8:= W8.from_
      have O8': (w7.alloc (.cells (pvl p2).toArray 242)).ownsRow B 242 pK.k (.slice (some ⟨g,0,none⟩) (k + 1) cap) (L' ++ [p1]).length ((L' ++ [p1]).flatMap pK.enc):= by rw [HLL1.out];exact O8
      have few1: (L' ++ [p1]).length ≤ 1000:= by rw [HLL1.out];omega
      have FW1:= hideP few1
      clear HM HM1 HM2 hp2 LL1 HYES OKQ few1 b7 P6 W7 M7 J7 O7 O8
      go_wp2_with (first
       | (refine wpList_build_one rfl 243 242 _ rfl (pvl p2) _ 2 32 HV2.out rfl (by decide) (by decide) Tryz.underlying243 Tryz.iPt ?_)
       | (at_builtin;refine wpList_append_rec pK _ rfl _ _ 243 242 rfl _ 32 Tryz.underlying243 Tryz.iPt rfl (by decide) B (.slice (some ⟨g,0,none⟩) (k + 1) cap) (L' ++ [p1]) [p2] (some ⟨w7.heap.size,0,none⟩) 1 1 rfl O8' rfl rfl R8 B8 (by have:= FW1.out;simp only [List.length_cons,List.length_nil];omega) ?_;intro v9 w9 o9 g9))
      have W9:= W8.grown O8' g9 lowB
      have M9:= M8.grown O8' g9
      have I9:= Itr.grown O8' g9 (Nat.le_refl _) B8
      have J9:= HJ.out _ _ _ J8 I9
      have s9: Safe 143 w7 w9:= (Safe.below A8).trans (I9.safe (by decide))
      obtain ⟨g9',cap9,rfl⟩: ∃ g9' cap9,v9 = .slice (some ⟨g9',0,none⟩) (L' ++ [p1] ++ [p2]).length cap9:= by
       rcases own_blk (D:= pK) o9 with ⟨_,h⟩ | ⟨g',c',h,_⟩
       ·simp at h
       ·exact ⟨g',c',h⟩
      have P9: WkP x B e0 ys (L' ++ [p1] ++ [p2]) met' w9:= by
       refine ⟨fun j p hp => ?_,M9,PS.out.1,PS.out.2.1, ?_⟩
       ·rcases Ml.get_snoc hp with hp | ⟨rfl,hb⟩
        ·have h:= PTS.out j p hp
         exact ⟨h.1.safe s9,h.2⟩
        ·rw [HLL1.out,hb,HP2.out]
         exact ⟨R7.safe s9,FQ.out,OQ.out,Nat.zero_le _⟩
       ·rw [List.length_append,HLL1.out]
        show k + 1 + 1 ≤ _
        omega
      go_roundg (x.cx.lefts 0 ((L' ++ [p1] ++ [p2]).map Pv.pt))
      case measure => exact PS.out.2.2
      case rel => exact ⟨L' ++ [p1] ++ [p2],ys,met',g9',cap9,rfl,rfl,o9,W9,P9,J9⟩
end Go.Proofs.YtpdmmmdkpipmkaaGreatDoor
namespace Go.Proofs.YtpdmmmdkpipmkaaGreatDoor
open Go.RowKit Go.Lib Go.Shelf
structure BCap (w0: World) (B b1 b2 b3: Nat) (r: Rv) (home: List UInt8) (fa: Option Addr) (fc: Nat) (zs: List Fv) (W: World): Prop where
 rule: W.heap[b1]? = some (.cells (rv r).toArray 48)
 home: W.heap[b2]? = some (.cells #[str home] 9)
 facts: W.heap[b3]? = some (.cells #[.slice fa zs.length fc] 32)
structure BIn (w0: World) (r: Rv) (home: List UInt8) (fa: Option Addr) (fc: Nat) (zs: List Fv): Prop where
 rule: Rv.Aw w0 r
 sm: SmR r
 hlen: home.length ≤ 1048576
 facts: Fts w0 fa fc zs
 small: ∀ z ∈ zs,SmF z.f
 tab: TabB w0.heap.size w0
 zl: zs.length ≤ 1000000
 few: ∀ e0,Mt.uni r.home (Mt.nm home) [] = some e0 → (Ml.parts r.home (zs.map Fv.f) r.r.body e0).length ≤ 60000
def BGot (r: Ru) (home: List UInt8) (m: List F) (ys: List Mt.Env): Prop:=
 (∀ w: Ml.Wd,∀ x,x ∈ ys.flatMap (Ml.hd w r) ↔ x ∈ Ml.heads w r m home) ∧ ys.length ≤ 60001
theorem BGot.none {r: Ru} {home: List UInt8} {m: List F} (h: ∀ w: Ml.Wd,Ml.heads w r m home = []): BGot r home m []:= ⟨fun w x => by rw [h w];simp,by simp⟩
theorem heads_none {r: Ru} {home: List UInt8} {m: List F} (h: Mt.uni r.home (Mt.nm home) [] = none) (w: Ml.Wd): Ml.heads w r m home = []:= by unfold Ml.heads;rw [h]
theorem heads_nil {r: Ru} {home: List UInt8} {m: List F} {e0: Mt.Env} (h: Mt.uni r.home (Mt.nm home) [] = some e0) (he: Ml.envs r.home m r.body e0 = []) (w: Ml.Wd): Ml.heads w r m home = []:= by unfold Ml.heads;rw [h];simp only;rw [he];rfl
theorem BGot.of {x: Wv} {home: List UInt8} {e0: List Bd} {ys: List Mt.Env} (hu: Mt.uni x.r.home (Mt.nm home) [] = some e0) (hc: Ml.Chs x.r.home (Ml.fsOf (Ml.spans x.r.r)) (Ml.laOf (Ml.spans x.r.r)) e0 (x.zs.map Fv.f) 0 x.r.r.body (x.nvs.map Nv.ns)) (hp: (Ml.parts x.r.home (x.zs.map Fv.f) x.r.r.body e0).length ≤ 60000) (hy: ∀ y,y ∈ ys ↔ y ∈ x.cx.Y 0 e0) (hl: ys.length ≤ (x.cx.Y 0 e0).length): BGot x.r.r home (x.zs.map Fv.f) ys:= by
 have hY: x.cx.Y 0 e0 = Ml.Yw x.r.r.home (Ml.laOf (Ml.spans x.r.r)) (x.zs.map Fv.f) 0 x.r.r.body (x.nvs.map Nv.ns) e0:= by unfold Ml.Cx.Y;rw [List.drop_zero,List.drop_zero]
 refine ⟨fun w y => ?_, ?_⟩
 ·have h:= (Ml.Yw_heads (w:= w) (Ml.spans_spn x.r.r) hu hc).1 y
  rw [← hY] at h
  have e: Ml.heads w x.r.r (x.zs.map Fv.f) home = (Ml.envs x.r.r.home (x.zs.map Fv.f) x.r.r.body e0).flatMap (Ml.hd w x.r.r):= by unfold Ml.heads;rw [show Mt.uni x.r.r.home (Mt.nm home) [] = some e0 from hu]
  rw [e,← h,List.mem_flatMap,List.mem_flatMap]
  exact ⟨fun ⟨p,hp,hx⟩ => ⟨p,(hy p).1 hp,hx⟩,fun ⟨p,hp,hx⟩ => ⟨p,(hy p).2 hp,hx⟩⟩
 ·have h:= (Ml.Yw_heads (w:= ⟨[],[]⟩) (Ml.spans_spn x.r.r) hu hc).2
  rw [← hY] at h
  have:= Ml.envs_parts (home:= x.r.home) (m:= x.zs.map Fv.f) x.r.r.body e0
  have h2: (Ml.envs x.r.r.home (x.zs.map Fv.f) x.r.r.body e0).length = (Ml.envs x.r.home (x.zs.map Fv.f) x.r.r.body e0).length:= rfl
  omega
def HdIn (r: Ru) (home: List UInt8) (m: List F) (p: Mt.Env): Prop:= ∀ w: Ml.Wd,∀ x ∈ Ml.hd w r p,x ∈ Ml.heads w r m home
theorem HdIn.of {x: Wv} {home: List UInt8} {e0: List Bd} (hu: Mt.uni x.r.home (Mt.nm home) [] = some e0) (hc: Ml.Chs x.r.home (Ml.fsOf (Ml.spans x.r.r)) (Ml.laOf (Ml.spans x.r.r)) e0 (x.zs.map Fv.f) 0 x.r.r.body (x.nvs.map Nv.ns)) {p: Mt.Env} (hp: p ∈ x.cx.Y 0 e0): HdIn x.r.r home (x.zs.map Fv.f) p:= fun w y hy => by
 have hY: x.cx.Y 0 e0 = Ml.Yw x.r.r.home (Ml.laOf (Ml.spans x.r.r)) (x.zs.map Fv.f) 0 x.r.r.body (x.nvs.map Nv.ns) e0:= by unfold Ml.Cx.Y;rw [List.drop_zero,List.drop_zero]
 have h:= (Ml.Yw_heads (w:= w) (Ml.spans_spn x.r.r) hu hc).1 y
 rw [← hY] at h
 have e: Ml.heads w x.r.r (x.zs.map Fv.f) home = (Ml.envs x.r.r.home (x.zs.map Fv.f) x.r.r.body e0).flatMap (Ml.hd w x.r.r):= by unfold Ml.heads;rw [show Mt.uni x.r.r.home (Mt.nm home) [] = some e0 from hu]
 rw [e,← h,List.mem_flatMap]
 exact ⟨p,hp,hy⟩
theorem iR11: (Tryz.prog.info? 48).map (·.size) = some 11:= by kernel_rfl
theorem bind_at (w0: World) (b1 b2 b3: Nat) (r: Rv) (home: List UInt8) (fa: Option Addr) (fc: Nat) (zs: List Fv) (X: Nat → Prop) (l: Nat) (J Jx: List Mt.Env → World → Prop) (W: World) (hi: BIn w0 r home fa fc zs) (hc: BCap w0 W.heap.size b1 b2 b3 r home fa fc zs W) (hX: ∀ k,X k → w0.heap.size ≤ k ∧ k < W.heap.size)
 (hJ: ∀ s A A',J s A → Itr 242 W.heap.size A A' → J s A') (hJx: ∀ s A A',Jx s A → Itr 242 W.heap.size A A' → Jx s A')
 (hY: ∀ pre p v W1,J pre W1 → EltE W.heap.size p v W1 → pre.length < 60001 → HdIn r.r home (zs.map Fv.f) p → YieldAt Fence.wide 0 Tryz.prog l #[v] W1 fun e W' => (e = .returned (.bool true) ∧ J (pre ++ [p]) W' ∧ Rnd w0.heap.size X W1 W') ∨ (e = .returned (.bool false) ∧ Jx (pre ++ [p]) W'))
 (hb: Below w0.heap.size w0 W) (h0: J [] W):
 Calls Tryz.prog 144 #[.func (.yield l) #[] #[],ptr b1,ptr b2,ptr b3] W fun e W' => (∃ v,e = .returned v) ∧ ((∃ ys,BGot r.r home (zs.map Fv.f) ys ∧ J ys W') ∨ (∃ pre,Jx pre W')):= by
 have TRu:= Tryz.underlying48
 have TTu:= Tryz.underlying44
 have RB: ∀ W',Below W.heap.size W W' → BCap w0 W.heap.size b1 b2 b3 r home fa fc zs W':= fun W' h => ⟨below_heap h hc.rule,below_heap h hc.home,below_heap h hc.facts⟩
 have hlow:= hb.size
 have r0: W.rangeAt b1 0 (tv r.home):= World.rangeAt_of_block hc.rule 0 4
 have c2: W.cell? ⟨b2,0,none⟩ = some (str home):= by rw [heap_cell hc.home];rfl
 have TU:= hideP (mUnifyO_at r.home (Mt.nm home) none 0 [] W (Row.nil _ _) (by simp))
 have HI:= hideP hi
 have HY:= hideP hY
 have HJ:= hideP hJ
 have HJX:= hideP hJx
 have HX:= hideP hX
 have HRB:= hideP RB
 clear hi hY hJ hJx hX RB hc
 go_enter Tryz.func144,Tryz.ntmps144
 go_wp2_with (refine wpList_load_mid rfl 44 _ rfl b1 0 rfl (tv r.home) _ r0 TTu rfl iT4 ?_)
 refine TU.out.mono ?_
 rintro e w1 ⟨⟨a1,c1,rfl,R1,F1⟩,B1⟩
 cases hu: Mt.uni r.home (Mt.nm home) [] with
 | none =>
  have hE: uniE r.home (Mt.nm home) [] = []:= by unfold uniE;rw [hu];rfl
  have hB: uniB r.home (Mt.nm home) [] = false:= by unfold uniB;rw [hu];rfl
  have G:= hideP (BGot.none (heads_none (r:= r.r) (m:= zs.map Fv.f) hu))
  have J1:= HJ.out _ _ _ h0 (Itr.below B1 (Nat.le_refl _))
  rw [hE,hB]
  clear hu hE hB R1
  go_wp2_with fail
  refine bodyPost_ret (results_none rfl _ _ _) rfl ?_
  exact ⟨⟨_,rfl⟩,.inl ⟨[],G.out,J1⟩⟩
 | some e0 =>
  have hE: uniE r.home (Mt.nm home) [] = e0:= by unfold uniE;rw [hu];rfl
  have hB: uniB r.home (Mt.nm home) [] = true:= by unfold uniB;rw [hu];rfl
  rw [hE] at R1
  rw [hE,hB]
  have HU:= hideP hu
  clear hu hE hB TU
  have C1:= HRB.out w1 B1
  have L1: w1.heap[b1]? = some (.cells [str r.home.v,.bool r.home.k.num,.int .i64 r.home.k.n,str r.home.k.s,str r.pred,.slice r.a r.args.length r.cap,str r.to_.v,.bool r.to_.k.num,.int .i64 r.to_.k.n,str r.to_.k.s,.slice r.ba r.body.length r.bcap].toArray 48):= C1.rule
  have hbw1: Below w0.heap.size w0 w1:= hb.trans (B1.mono hlow)
  have TS:= hideP (spansOf_at r w1 (HI.out.rule.below hbw1 (Nat.le_refl _)) HI.out.sm)
  go_wp2_with (refine wpList_load_all rfl 48 _ rfl b1 11 48 [str r.home.v,.bool r.home.k.num,.int .i64 r.home.k.n,str r.home.k.s,str r.pred,.slice r.a r.args.length r.cap,str r.to_.v,.bool r.to_.k.num,.int .i64 r.to_.k.n,str r.to_.k.s,.slice r.ba r.body.length r.bcap] _ rfl (by with_reducible exact L1) rfl TRu rfl iR11 ?_)
  refine TS.out.mono ?_
  rintro e w2 ⟨bs,rfl,S2,hbs,B2⟩
  have T2:= Below.then B1 B2
  have C2:= HRB.out w2 T2
  have L2: w2.heap[b1]? = some (.cells [str r.home.v,.bool r.home.k.num,.int .i64 r.home.k.n,str r.home.k.s,str r.pred,.slice r.a r.args.length r.cap,str r.to_.v,.bool r.to_.k.num,.int .i64 r.to_.k.n,str r.to_.k.s,.slice r.ba r.body.length r.bcap].toArray 48):= C2.rule
  have d2: w2.cell? ⟨b3,0,none⟩ = some (.slice fa zs.length fc):= by rw [heap_cell C2.facts];rfl
  have hbw2: Below w0.heap.size w0 w2:= hb.trans (T2.mono hlow)
  have R2:= R1.safe (Safe.below B2: Safe 143 _ _)
  have TC:= hideP (choices_at r a1 c1 e0 (Mt.nm home) fa fc zs bs 100000 w2 (HI.out.rule.below hbw2 (Nat.le_refl _)) HI.out.sm R2.row (HI.out.facts.below hbw2) S2 HU.out HI.out.zl)
  clear TS L1 C1 R1
  go_wp2_with (refine wpList_load_all rfl 48 _ rfl b1 11 48 [str r.home.v,.bool r.home.k.num,.int .i64 r.home.k.n,str r.home.k.s,str r.pred,.slice r.a r.args.length r.cap,str r.to_.v,.bool r.to_.k.num,.int .i64 r.to_.k.n,str r.to_.k.s,.slice r.ba r.body.length r.bcap] _ rfl (by with_reducible exact L2) rfl TRu rfl iR11 ?_)
  refine TC.out.mono ?_
  rintro e w3 ⟨hcase,B3⟩
  have T3:= Below.then T2 B3
  rcases hcase with ⟨na,nc,nvs,rfl,NU,FN,FNs,CH⟩ | ⟨rfl,hnone⟩
  ·have C3:= HRB.out w3 T3
   have L3: w3.heap[b1]? = some (.cells [str r.home.v,.bool r.home.k.num,.int .i64 r.home.k.n,str r.home.k.s,str r.pred,.slice r.a r.args.length r.cap,str r.to_.v,.bool r.to_.k.num,.int .i64 r.to_.k.n,str r.to_.k.s,.slice r.ba r.body.length r.bcap].toArray 48):= C3.rule
   have d3: w3.cell? ⟨b3,0,none⟩ = some (.slice fa zs.length fc):= by rw [heap_cell C3.facts];rfl
   have hmk:= @run_makeMap Tryz.prog
   have A4:= below_alloc w3 (.map #[] 0)
   have A5:= below_alloc (w3.alloc (.map #[] 0)) (.cells (Wv.cells ⟨r,fa,fc,zs,bs,na,nc,nvs,w3.heap.size⟩) 199)
   have A45:= Below.then A4 A5
   have T5:= Below.then T3 A45
   have hbw5: Below w0.heap.size w0 _:= hb.trans (T5.mono hlow)
   have M5:= (met_new w3).next A5
   have S3:= S2.next B3
   have S5:= S3.next A45
   have hne: bs ≠ w3.heap.size:= by have:= S3.lt;omega
   have R5:= (R2.safe (Safe.below B3: Safe 143 _ _)).safe (Safe.below A45: Safe 143 _ _)
   have N5:= NU.safe (Safe.below A45) (Safe.below A45)
   have J5:= HJ.out _ _ _ h0 (Itr.below T5 (Nat.le_refl _))
   have PF:= HI.out.few e0 HU.out
   have E0:= Ml.E0.of (r:= r.r) HU.out
   have e0l: e0.length ≤ 1:= by have:= Mt.uni_len HU.out;simpa using this
   have OK0: OkE 0 e0:= ⟨fun b hb => ⟨by rw [E0.home b.1 (List.mem_map_of_mem hb)];exact HI.out.sm.head _ (List.mem_cons_self ..),Ml.uni_vals (P:= OkK) (fun _ h => by cases h) ⟨by show (-9223372036854775808: Int) ≤ 0;omega,by show (0: Int) ≤ 9223372036854775807;omega,HI.out.hlen⟩ HU.out b hb⟩,E0.nodup,by omega⟩
   have YL: (Ml.Cx.Y (Wv.cx ⟨r,fa,fc,zs,bs,na,nc,nvs,w3.heap.size⟩) 0 e0).length ≤ 60001:= by
    have h1:= (Ml.Yw_heads (w:= ⟨[],[]⟩) (Ml.spans_spn r.r) HU.out CH).2
    have h2:= Ml.envs_parts (home:= r.home) (m:= zs.map Fv.f) r.r.body e0
    have h3: (Ml.envs r.r.home (zs.map Fv.f) r.r.body e0).length = (Ml.envs r.home (zs.map Fv.f) r.r.body e0).length:= rfl
    have h4: (Ml.Cx.Y (Wv.cx ⟨r,fa,fc,zs,bs,na,nc,nvs,w3.heap.size⟩) 0 e0).length = (Ml.Yw r.r.home (Ml.laOf (Ml.spans r.r)) (zs.map Fv.f) 0 r.r.body (nvs.map Nv.ns) e0).length:= by unfold Ml.Cx.Y;rw [List.drop_zero,List.drop_zero]
    omega
   have PL: (Ml.Cx.P (Wv.cx ⟨r,fa,fc,zs,bs,na,nc,nvs,w3.heap.size⟩) 0 e0).length ≤ 60000:= by
    have h1:= Ml.Pw_len (Ml.spans_spn r.r) r.r.body (nvs.map Nv.ns) 0 e0 e0 (by simp) CH (Ml.Sim.refl _ _ _)
    have h4: (Ml.Cx.P (Wv.cx ⟨r,fa,fc,zs,bs,na,nc,nvs,w3.heap.size⟩) 0 e0).length = (Ml.Pw r.r.home (Ml.laOf (Ml.spans r.r)) (zs.map Fv.f) 0 r.r.body (nvs.map Nv.ns) e0).length:= by unfold Ml.Cx.P;rw [List.drop_zero,List.drop_zero]
    have h5: (Ml.parts r.r.home (zs.map Fv.f) r.r.body e0).length = (Ml.parts r.home (zs.map Fv.f) r.r.body e0).length:= rfl
    omega
   have WI: WkIn ⟨r,fa,fc,zs,bs,na,nc,nvs,w3.heap.size⟩ w0 W.heap.size e0:= ⟨HI.out.rule,HI.out.sm,HI.out.facts,HI.out.small,HI.out.tab,hlow,by show W.heap.size ≤ bs;have:= B1.size;omega,T3.size,From.mono FN T2.size,fun y hy => From.mono (FNs y hy) T2.size,CH,PL,OK0,HI.out.zl,hne⟩
   have TT:= hideP (through_at ⟨r,fa,fc,zs,bs,na,nc,nvs,w3.heap.size⟩ w0 W.heap.size 100000 X e0 a1 c1 l J Jx _ WI HX.out HJ.out HJX.out (fun pre p v W1 h1 h2 h3 h4 => HY.out pre p v W1 h1 h2 (by omega) (HdIn.of (x:= ⟨r,fa,fc,zs,bs,na,nc,nvs,w3.heap.size⟩) HU.out CH h4)) hbw5 T5.size S5 N5 M5 R5 F1 J5)
   have GOT:= hideP (fun ys (h: (∀ y,y ∈ ys ↔ y ∈ Ml.Cx.Y (Wv.cx ⟨r,fa,fc,zs,bs,na,nc,nvs,w3.heap.size⟩) 0 e0) ∧ ys.length ≤ (Ml.Cx.Y (Wv.cx ⟨r,fa,fc,zs,bs,na,nc,nvs,w3.heap.size⟩) 0 e0).length) => BGot.of (x:= ⟨r,fa,fc,zs,bs,na,nc,nvs,w3.heap.size⟩) HU.out CH PF h.1 h.2)
   clear TC WI PL YL OK0 E0 J5 N5 R5 S5 M5 hbw5 CH PF NU FN FNs S3
   go_wp2_with (refine wpList_load_all rfl 48 _ rfl b1 11 48 [str r.home.v,.bool r.home.k.num,.int .i64 r.home.k.n,str r.home.k.s,str r.pred,.slice r.a r.args.length r.cap,str r.to_.v,.bool r.to_.k.num,.int .i64 r.to_.k.n,str r.to_.k.s,.slice r.ba r.body.length r.bcap] _ rfl (by with_reducible exact L3) rfl TRu rfl iR11 ?_)
   refine TT.out.mono ?_
   rintro e w6 ⟨⟨v,rfl⟩,⟨ys,hys,J6⟩ | ⟨pre,J6⟩⟩
   ·have G:= hideP (GOT.out ys hys)
    clear hys GOT TT
    go_wp2_with fail
    go_end0
    exact ⟨⟨_,rfl⟩,.inl ⟨ys,G.out,J6⟩⟩
   ·clear GOT TT
    go_wp2_with fail
    go_end0
    exact ⟨⟨_,rfl⟩,.inr ⟨pre,J6⟩⟩
  ·have G:= hideP (BGot.none (heads_nil (r:= r.r) (m:= zs.map Fv.f) HU.out hnone))
   have J3:= HJ.out _ _ _ h0 (Itr.below T3 (Nat.le_refl _))
   clear hnone TC
   go_wp2_with fail
   refine bodyPost_ret (results_none rfl _ _ _) rfl ?_
   exact ⟨⟨_,rfl⟩,.inl ⟨[],G.out,J3⟩⟩
end Go.Proofs.YtpdmmmdkpipmkaaGreatDoor
