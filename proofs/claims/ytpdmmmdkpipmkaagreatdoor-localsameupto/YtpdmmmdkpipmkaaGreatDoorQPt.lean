/-
  The program's printer: what it writes of a term, an atom, a literal, a rule.
-/
import Derived.Test.YtpdmmmdkpipmkaaGreatDoorQLe12
import Derived.Test.YtpdmmmdkpipmkaaGreatDoorQFrame
import Derived.StillTailTactics
set_option maxRecDepth 100000
namespace Go.Proofs.YtpdmmmdkpipmkaaGreatDoor
open Go.RowKit Go.Lib Go.Shelf
theorem Bdr.keep {B b: Nat} {l: List UInt8} {w w': World} (h: Bdr B b l w) (hb: Below w.heap.size w w'): Bdr B b l w':= by
 have key: ∀ p,Lib.BuilderAt 173 5 B b p (Lib.byteCells l) w → Lib.BuilderAt 173 5 B b p (Lib.byteCells l) w':= by
  rintro p ⟨h1,v,h2,h3,h4⟩
  exact ⟨h1,v,below_heap hb h2,ownsRow_keep h3 (Safe.below hb),h4⟩
 exact h.imp (key _) (key _)
structure PS (w0: World) (b: Nat) (l: List UInt8) (w: World): Prop where
 laid: Laid w0
 low: Below w0.heap.size w0 w
 bld: Bdr w0.heap.size b l w
theorem PS.below {w0 w w': World} {b: Nat} {l: List UInt8} (h: PS w0 b l w) (hb: Below w.heap.size w w'): PS w0 b l w':= ⟨h.laid,h.low.trans (hb.mono h.low.size),h.bld.keep hb⟩
theorem PS.laidW {w0 w: World} {b: Nat} {l: List UInt8} (h: PS w0 b l w): Laid w:= h.laid.below h.low
theorem PS.lt {w0 w: World} {b: Nat} {l: List UInt8} (h: PS w0 b l w): b < w.heap.size:= by
 obtain ⟨p,h1⟩:= h.bld.at_
 exact h1.lt
theorem pwstr {w0 w: World} {b: Nat} {l: List UInt8} (h: PS w0 b l w) (s: List UInt8) (hlen: l.length + s.length ≤ 140737488355328):
 Calls Tryz.prog 166 #[ptr b,str s] w fun e w' => e = .returned (.tuple #[.int .i64 (s.length: Int),.nilIface]) ∧ PS w0 b (l ++ s) w' ∧ Kp b w w':= by
 refine (writeString_at w0.heap.size b l s w h.bld hlen h.low.size).mono ?_
 rintro e w' ⟨rfl,h1,h2,h3⟩
 exact ⟨rfl,⟨h.laid,h.low.trans h2,h1⟩,h3⟩
theorem pwbyte {w0 w: World} {b: Nat} {l: List UInt8} (h: PS w0 b l w) (c: UInt8) (hlen: l.length + 1 ≤ 140737488355328):
 Calls Tryz.prog 170 #[ptr b,.int .u8 (c.toNat: Int)] w fun e w' => e = .returned .nilIface ∧ PS w0 b (l ++ [c]) w' ∧ Kp b w w':= by
 refine (writeByte_at w0.heap.size b l c w h.bld hlen h.low.size).mono ?_
 rintro e w' ⟨rfl,h1,h2,h3⟩
 exact ⟨rfl,⟨h.laid,h.low.trans h2,h1⟩,h3⟩
theorem Kp.cell {b N: Nat} {w w': World} {C: Array Value} {T: TypeId} (k: Kp b w w') (h: w.heap[N]? = some (.cells C T)) (hn: N ≠ b) (hT: T ≠ 5) (j: Nat): w'.cell? ⟨N,j,none⟩ = C[j]?:= heap_cell (k N C T h hn hT) j
set_option maxHeartbeats 2000000 in
theorem pterm_at {w0 w: World} {b: Nat} {l s: List UInt8} (t: Tm) (h: PS w0 b l w) (hi: Sh.KIn t) (hs: Sh.termS t = some s) (hlen: l.length + 34 ≤ 140737488355328):
 Calls Tryz.prog 165 #[ptr b,tval t] w fun e w' => e = .returned (.tuple #[]) ∧ PS w0 b (l ++ s) w' ∧ Kp b w w':= by
 have mixed: Tryz.prog.follows .mixedOrders = true:= by kernel_rfl
 have hsl:= Sh.term_len hi hs
 obtain ⟨v,⟨a,n,c⟩⟩:= t
 have A0:= below_alloc w (.cells #[str v,.bool a,.int .i64 n,str c] 44)
 have K0: Kp b w _:= Kp.of A0
 have P0:= h.below A0
 have L0:= P0.laidW
 unfold Sh.termS at hs
 simp only at hs
 by_cases hv: v = []
 ·subst hv
  rw [if_neg (by simp)] at hs
  cases a
  ·rw [if_neg (by simp)] at hs
   split at hs
   ·rename_i hp
    have hc: c.length ≤ 32:= by
     have:= hp.2
     unfold Sh.plainB at this
     simp only [Bool.and_eq_true,decide_eq_true_eq] at this
     exact this.1.2
    have I:= hideP (isWord_at c _ L0)
    split at hs
    ·rename_i hw
     obtain rfl: c = s:= Option.some.inj hs
     rw [hw] at I
     clear hp hw
     go_enter Tryz.func165,Tryz.ntmps165
     go_wp2_with fail
     refine I.out.mono ?_
     rintro e w1 ⟨rfl,b1⟩
     have P1:= P0.below b1
     have H1:= below_heap b1 (heap_alloc_new w (.cells #[str [],.bool false,.int .i64 n,str c] 44))
     have c3: w1.cell? ⟨w.heap.size,3,none⟩ = some (str c):= by rw [heap_cell H1];rfl
     go_wp2_with fail
     go_still_tail 6,(by kernel_rfl)
     go_wp2_with fail
     refine (pwstr (P1.below (Below.refl _ _).drew) c (by omega)).mono ?_
     rintro e w2 ⟨rfl,P2,k2⟩
     go_wp2_with fail
     go_end0
     exact ⟨rfl,P2,(K0.below b1).trans k2⟩
    ·rename_i hw
     obtain rfl: 34:: (c ++ [34]) = s:= Option.some.inj hs
     have hw': Sh.wordB c = false:= by simpa using hw
     rw [hw'] at I
     have Q:= hideP (fun W => quoted_at c W hc)
     clear hp hw hw' hs
     generalize 34:: (c ++ [34]) = s at *
     go_enter Tryz.func165,Tryz.ntmps165
     go_wp2_with fail
     refine I.out.mono ?_
     rintro e w1 ⟨rfl,b1⟩
     have P1:= P0.below b1
     have H1:= below_heap b1 (heap_alloc_new w (.cells #[str [],.bool false,.int .i64 n,str c] 44))
     have c3: w1.cell? ⟨w.heap.size,3,none⟩ = some (str c):= by rw [heap_cell H1];rfl
     go_wp2_with fail
     have hne: w.heap.size ≠ b:= by have:= h.lt;omega
     go_region_held3 (fun W => W.cell? ⟨w.heap.size,3,none⟩ = some (str c)) (first | exact c3 | exact z3) (first
      | (go_at_call 205;refine (Q.out _).mono ?_;rintro e w2 ⟨rfl,rfl⟩)
      | (go_at_call 166;refine (pwstr (P1.below (Below.refl _ _).drew) s (by omega)).mono ?_;rintro e w3 ⟨rfl,P3,k3⟩;have z3: w3.cell? ⟨w.heap.size,3,none⟩ = some (str c):= k3.cell (show w1.drew.heap[w.heap.size]? = _ from H1) hne (by decide) 3))
     all_goals (go_wp2_with fail;go_end0;exact ⟨rfl,P3,(K0.below b1).trans k3⟩)
   ·cases hs
  ·rw [if_pos rfl] at hs
   split at hs
   ·rename_i hc0
    subst hc0
    obtain rfl: Go.Lib.itoa n = s:= Option.some.inj hs
    have H1:= heap_alloc_new w (.cells #[str [],.bool true,.int .i64 n,str []] 44)
    have I:= hideP (fun W (h: Laid W) => itoa_at n W hi.1 hi.2 h)
    clear hs
    generalize Go.Lib.itoa n = s at *
    go_enter Tryz.func165,Tryz.ntmps165
    go_wp2_with fail
    generalize w.alloc (.cells #[str [],.bool true,.int .i64 n,str []] 44) = w1 at *
    have c2: w1.cell? ⟨w.heap.size,2,none⟩ = some (.int .i64 n):= by rw [heap_cell H1];rfl
    have hne: w.heap.size ≠ b:= by have:= h.lt;omega
    go_region_held3 (fun W => W.cell? ⟨w.heap.size,2,none⟩ = some (.int .i64 n)) (first | exact c2 | exact z2 | exact z3) (first
     | (go_at_call 78;refine (I.out _ L0.drew).mono ?_;rintro e w2 ⟨rfl,b2⟩;have H2:= below_heap b2 (show w1.drew.heap[w.heap.size]? = _ from H1);have z2: w2.cell? ⟨w.heap.size,2,none⟩ = some (.int .i64 n):= heap_cell H2 2)
     | (go_at_call 166;refine (pwstr ((P0.below (Below.refl _ _).drew).below b2) s (by omega)).mono ?_;rintro e w3 ⟨rfl,P3,k3⟩;have z3: w3.cell? ⟨w.heap.size,2,none⟩ = some (.int .i64 n):= k3.cell H2 hne (by decide) 2))
    all_goals (go_wp2_with fail;go_end0;exact ⟨rfl,P3,((K0.below (Below.refl _ _).drew).below b2).trans k3⟩)
   ·cases hs
 ·rw [if_pos hv] at hs
  split at hs
  ·obtain rfl: v = s:= Option.some.inj hs
   have q: v.isEmpty = false:= by simpa using hv
   clear hs hv
   have H1:= heap_alloc_new w (.cells #[str v,.bool a,.int .i64 n,str c] 44)
   go_enter Tryz.func165,Tryz.ntmps165
   go_wp2_with fail
   generalize w.alloc (.cells #[str v,.bool a,.int .i64 n,str c] 44) = w1 at *
   have c0: w1.cell? ⟨w.heap.size,0,none⟩ = some (str v):= by rw [heap_cell H1];rfl
   go_still_tail 5,(by kernel_rfl)
   go_wp2_with fail
   refine (pwstr (P0.below (Below.refl _ _).drew) v (by omega)).mono ?_
   rintro e w2 ⟨rfl,P2,k2⟩
   go_wp2_with fail
   go_end0
   exact ⟨rfl,P2,(K0.below (Below.refl _ _).drew).trans k2⟩
  ·cases hs
end Go.Proofs.YtpdmmmdkpipmkaaGreatDoor
