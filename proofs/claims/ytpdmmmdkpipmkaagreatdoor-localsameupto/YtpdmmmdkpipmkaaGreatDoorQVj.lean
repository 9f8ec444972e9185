/-
  The program's fault: what is wrong first with a rule.
-/
import Derived.Test.YtpdmmmdkpipmkaaGreatDoorQVi
set_option maxRecDepth 100000
namespace Go.Proofs.YtpdmmmdkpipmkaaGreatDoor
open Go.RowKit Go.Lib Go.Shelf
def FaultAns (bm: Nat) (r: Except (Int × Int) Ck.Seen) (e: Ending) (w': World): Prop:=
 match r with
 | .error y => e = .returned (.tuple #[.int .i64 y.1,.int .i64 y.2])
 | .ok s' => e = .returned (.tuple #[.int .i64 0,.int .i64 (-1)]) ∧ SizesAt w' bm s'
theorem odd_len (s: Ck.Seen) (p: List UInt8) (n: Nat): (Ck.odd s p n).1.length ≤ s.length + 1:= by
 unfold Ck.odd;split <;> simp
theorem aritL_len: ∀ (s: Ck.Seen) (i: Nat) (l: List Lt),(Ck.aritL s i l).1.length ≤ s.length + l.length
 | s,i,[] => by simp [Ck.aritL]
 | s,i,y:: r => by
  rw [Ck.aritL,List.length_cons]
  have h1:= odd_len s y.pred y.args.length
  split
  ·simp only;omega
  ·have:= aritL_len (Ck.odd s y.pred y.args.length).1 (i + 1) r
   omega
theorem arit_len {s: Ck.Seen} {r: Ru} (h: r.body.length ≤ 4): (Ck.arit s r).1.length ≤ s.length + 5:= by
 unfold Ck.arit
 have h1:= odd_len s r.pred r.args.length
 split
 ·simp only;omega
 ·have:= aritL_len (Ck.odd s r.pred r.args.length).1 0 r.body
  omega
set_option maxHeartbeats 2000000 in
theorem fault_at (bm: Nat) (x: Rv) (s: Ck.Seen) (w: World) (hL: Laid w) (hs: SizesAt w bm s) (hx: Rv.Aw w x) (hi: Sh.RIn x.r) (hl: s.length ≤ 400):
 Calls Tryz.prog 42 #[rval x,.map (some bm)] w fun e w' => FaultAns bm (Ck.one s x.r) e w' ∧ But bm w w':= by
 have HO:= hideP (Ck.one_srch s x.r)
 have A0:= below_alloc w (.cells (rv x).toArray 48)
 have H0:= heap_alloc_new w (.cells (rv x).toArray 48)
 have T1:= hideP (showRule_at x _ (hL.below A0) (hx.below A0 (Nat.le_refl _)) hi)
 obtain ⟨es,clock,hm0⟩:= hs.map
 have hne: w.heap.size ≠ bm:= fun e => by have:= hs.lt;omega
 go_enter Tryz.func42,Tryz.ntmps42
 go_wp2_with (refine wpList_load_all rfl 48 _ rfl w.heap.size 11 48 (rv x) _ rfl H0 rfl Tryz.underlying48 rfl Tryz.iR11 ?_)
 refine T1.out.mono ?_
 rintro e w1 ⟨rfl,b1⟩
 have B1: But bm w w1:= But.of_below (Below.then A0 b1)
 have H1:= below_heap b1 H0
 have S1: SizesAt w1 bm s:= hs.next (Below.then A0 b1)
 clear T1 b1
 cases hr: Sh.ruleS x.r with
 | none =>
  rw [hr,if_pos (by rfl)] at HO
  simp only [sv]
  clear hr
  go_wp2_with fail
  go_ret2
  rw [HO.out]
  exact ⟨rfl,B1⟩
 | some t =>
  have hsh:= Ck.shown (r:= x.r) (by rw [hr];rfl)
  have hN:= hideP (Ck.srch_N (s:= s) (r:= x.r) (by rw [hr];rfl))
  have hbl: x.r.body.length ≤ 4:= hsh.few
  have LA:= arit_len (s:= s) (r:= x.r) hbl
  rw [← Ck.srch_A] at LA
  rw [hr,if_neg (by rw [Option.isSome];exact Bool.noConfusion)] at HO
  simp only [sv]
  clear hr hbl
  have X1:= hx.map B1 hm0
  go_wp2_with (refine wpList_load_all rfl 48 _ rfl w.heap.size 11 48 (rv x) _ rfl H1 rfl Tryz.underlying48 rfl Tryz.iR11 ?_)
  refine (search0_at 74 Ck.fN bm x s w1 enter_hasNumber (fn_N bm w1) X1 S1 hsh (by omega) (fun _ _ _ => by simp [Ck.fN])).mono ?_
  rintro e w2 ⟨rfl,S2,b2⟩
  rw [show (Ck.srch Ck.fN s x.r).1 = s by rw [hN.out]] at S2
  have B2:= B1.trans b2
  have H2:= b2.heap hne H1
  clear X1 S1 H1 b2 B1 H0 A0
  have KK: ∀ W: World,W.heap[w.heap.size]? = some (.cells (rv x).toArray 48) → (W.cell? ⟨w.heap.size,0,none⟩ = some (str x.home.v) ∧ W.cell? ⟨w.heap.size,1,none⟩ = some (.bool x.home.k.num) ∧ W.cell? ⟨w.heap.size,2,none⟩ = some (.int .i64 x.home.k.n) ∧ W.cell? ⟨w.heap.size,3,none⟩ = some (str x.home.k.s) ∧ W.cell? ⟨w.heap.size,4,none⟩ = some (str x.pred) ∧ W.cell? ⟨w.heap.size,5,none⟩ = some (.slice x.a x.args.length x.cap) ∧ W.cell? ⟨w.heap.size,6,none⟩ = some (str x.to_.v) ∧ W.cell? ⟨w.heap.size,7,none⟩ = some (.bool x.to_.k.num) ∧ W.cell? ⟨w.heap.size,8,none⟩ = some (.int .i64 x.to_.k.n) ∧ W.cell? ⟨w.heap.size,9,none⟩ = some (str x.to_.k.s) ∧ W.cell? ⟨w.heap.size,10,none⟩ = some (.slice x.ba x.body.length x.bcap)):= fun W h => by
   refine ⟨?_, ?_, ?_, ?_, ?_, ?_, ?_, ?_, ?_, ?_, ?_⟩
   all_goals (rw [heap_cell h];rfl)
  have HKK:= hideP KK
  clear KK
  cases h2: (Ck.srch Ck.fN s x.r).2 with
  | some k2 =>
   rw [h2] at HO
   simp only [srV]
   clear h2
   go_wp2_with fail
   go_ret2
   rw [HO.out]
   exact ⟨rfl,B2⟩
  | none =>
   rw [h2] at HO
   simp only [srV] at HO ⊢
   clear h2
   go_wp2_with fail
   have gD:= (Below.refl w2.heap.size w2).drew
   have HD:= below_heap gD H2
   have SD:= S2.next gD
   have BD:= B2.below gD
   have TS:= hideP (fun W p f X S => search1_at 124 (ptr p) Ck.fA bm x s W enter_other1 f X S hsh (by omega) (fun s _ y => odd_len s y.pred y.args.length))
   cases h4: (Ck.srch Ck.fA s x.r).2 with
   | some k =>
    rw [h4] at HO TS
    simp only [srV] at TS
    clear h4
    go_region_held3 (fun W => W.cell? ⟨w.heap.size,0,none⟩ = some (str x.home.v) ∧ W.cell? ⟨w.heap.size,1,none⟩ = some (.bool x.home.k.num) ∧ W.cell? ⟨w.heap.size,2,none⟩ = some (.int .i64 x.home.k.n) ∧ W.cell? ⟨w.heap.size,3,none⟩ = some (str x.home.k.s) ∧ W.cell? ⟨w.heap.size,4,none⟩ = some (str x.pred) ∧ W.cell? ⟨w.heap.size,5,none⟩ = some (.slice x.a x.args.length x.cap) ∧ W.cell? ⟨w.heap.size,6,none⟩ = some (str x.to_.v) ∧ W.cell? ⟨w.heap.size,7,none⟩ = some (.bool x.to_.k.num) ∧ W.cell? ⟨w.heap.size,8,none⟩ = some (.int .i64 x.to_.k.n) ∧ W.cell? ⟨w.heap.size,9,none⟩ = some (str x.to_.k.s) ∧ W.cell? ⟨w.heap.size,10,none⟩ = some (.slice x.ba x.body.length x.bcap)) (first | exact HKK.out _ HD | exact HKK.out _ H3 | exact HKK.out _ H4) (first
     | (go_at_call 75;refine (hasOther_at bm s _ SD).mono ?_;rintro e w3 ⟨⟨p3,rfl,f3⟩,b3⟩;have H3:= below_heap b3 HD)
     | (go_at_call 73;refine (TS.out w3 p3 f3 (hx.map (BD.below b3) hm0) (SD.next b3)).mono ?_;rintro e w4 ⟨rfl,S4,b4⟩;have H4:= b4.heap hne H3))
    go_wp2_with fail
    go_ret2
    rw [HO.out]
    exact ⟨rfl,(BD.below b3).trans b4⟩
   | none =>
    rw [h4] at HO TS
    simp only [srV] at HO TS
    clear h4
    go_region_held3 (fun W => W.cell? ⟨w.heap.size,0,none⟩ = some (str x.home.v) ∧ W.cell? ⟨w.heap.size,1,none⟩ = some (.bool x.home.k.num) ∧ W.cell? ⟨w.heap.size,2,none⟩ = some (.int .i64 x.home.k.n) ∧ W.cell? ⟨w.heap.size,3,none⟩ = some (str x.home.k.s) ∧ W.cell? ⟨w.heap.size,4,none⟩ = some (str x.pred) ∧ W.cell? ⟨w.heap.size,5,none⟩ = some (.slice x.a x.args.length x.cap) ∧ W.cell? ⟨w.heap.size,6,none⟩ = some (str x.to_.v) ∧ W.cell? ⟨w.heap.size,7,none⟩ = some (.bool x.to_.k.num) ∧ W.cell? ⟨w.heap.size,8,none⟩ = some (.int .i64 x.to_.k.n) ∧ W.cell? ⟨w.heap.size,9,none⟩ = some (str x.to_.k.s) ∧ W.cell? ⟨w.heap.size,10,none⟩ = some (.slice x.ba x.body.length x.bcap)) (first | exact HKK.out _ HD | exact HKK.out _ H3 | exact HKK.out _ H4) (first
     | (go_at_call 75;refine (hasOther_at bm s _ SD).mono ?_;rintro e w3 ⟨⟨p3,rfl,f3⟩,b3⟩;have H3:= below_heap b3 HD)
     | (go_at_call 73;refine (TS.out w3 p3 f3 (hx.map (BD.below b3) hm0) (SD.next b3)).mono ?_;rintro e w4 ⟨rfl,S4,b4⟩;have H4:= b4.heap hne H3))
    have B4:= (BD.below b3).trans b4
    clear gD HD SD BD TS H3 f3 b3 b4
    generalize (Ck.srch Ck.fA s x.r).1 = sA at *
    go_wp2_with fail
    have gD:= (Below.refl w4.heap.size w4).drew
    have HD:= below_heap gD H4
    have SD:= S4.next gD
    have BD:= B4.below gD
    have TS:= hideP (fun W p f X S => search1_at 125 (ptr p) (Ck.fF x.r) bm x sA W enter_free1 f X S hsh (by omega) (fun _ _ _ => by simp [Ck.fF]))
    cases h6: (Ck.srch (Ck.fF x.r) sA x.r).2 with
    | some k =>
     rw [h6] at HO TS
     simp only [srV] at TS
     clear h6
     go_region_held3 (fun W => W.cell? ⟨w.heap.size,0,none⟩ = some (str x.home.v) ∧ W.cell? ⟨w.heap.size,1,none⟩ = some (.bool x.home.k.num) ∧ W.cell? ⟨w.heap.size,2,none⟩ = some (.int .i64 x.home.k.n) ∧ W.cell? ⟨w.heap.size,3,none⟩ = some (str x.home.k.s) ∧ W.cell? ⟨w.heap.size,4,none⟩ = some (str x.pred) ∧ W.cell? ⟨w.heap.size,5,none⟩ = some (.slice x.a x.args.length x.cap) ∧ W.cell? ⟨w.heap.size,6,none⟩ = some (str x.to_.v) ∧ W.cell? ⟨w.heap.size,7,none⟩ = some (.bool x.to_.k.num) ∧ W.cell? ⟨w.heap.size,8,none⟩ = some (.int .i64 x.to_.k.n) ∧ W.cell? ⟨w.heap.size,9,none⟩ = some (str x.to_.k.s) ∧ W.cell? ⟨w.heap.size,10,none⟩ = some (.slice x.ba x.body.length x.bcap)) (first | exact HKK.out _ HD | exact HKK.out _ H3 | exact HKK.out _ H6) (first
      | (go_at_call 76;refine (isFree_at bm x sA _ SD (hx.map BD hm0) hsh.ok).mono ?_;rintro e w3 ⟨⟨p3,rfl,f3⟩,b3⟩;have H3:= below_heap b3 HD)
      | (go_at_call 73;refine (TS.out w3 p3 f3 (hx.map (BD.below b3) hm0) (SD.next b3)).mono ?_;rintro e w6 ⟨rfl,S6,b6⟩;have H6:= b6.heap hne H3))
     go_wp2_with fail
     go_ret2
     rw [HO.out]
     exact ⟨rfl,(BD.below b3).trans b6⟩
    | none =>
     rw [h6] at HO TS
     simp only [srV] at HO TS
     clear h6
     go_region_held3 (fun W => W.cell? ⟨w.heap.size,0,none⟩ = some (str x.home.v) ∧ W.cell? ⟨w.heap.size,1,none⟩ = some (.bool x.home.k.num) ∧ W.cell? ⟨w.heap.size,2,none⟩ = some (.int .i64 x.home.k.n) ∧ W.cell? ⟨w.heap.size,3,none⟩ = some (str x.home.k.s) ∧ W.cell? ⟨w.heap.size,4,none⟩ = some (str x.pred) ∧ W.cell? ⟨w.heap.size,5,none⟩ = some (.slice x.a x.args.length x.cap) ∧ W.cell? ⟨w.heap.size,6,none⟩ = some (str x.to_.v) ∧ W.cell? ⟨w.heap.size,7,none⟩ = some (.bool x.to_.k.num) ∧ W.cell? ⟨w.heap.size,8,none⟩ = some (.int .i64 x.to_.k.n) ∧ W.cell? ⟨w.heap.size,9,none⟩ = some (str x.to_.k.s) ∧ W.cell? ⟨w.heap.size,10,none⟩ = some (.slice x.ba x.body.length x.bcap)) (first | exact HKK.out _ HD | exact HKK.out _ H3 | exact HKK.out _ H6) (first
      | (go_at_call 76;refine (isFree_at bm x sA _ SD (hx.map BD hm0) hsh.ok).mono ?_;rintro e w3 ⟨⟨p3,rfl,f3⟩,b3⟩;have H3:= below_heap b3 HD)
      | (go_at_call 73;refine (TS.out w3 p3 f3 (hx.map (BD.below b3) hm0) (SD.next b3)).mono ?_;rintro e w6 ⟨rfl,S6,b6⟩;have H6:= b6.heap hne H3))
     have B6:= (BD.below b3).trans b6
     rw [show (Ck.srch (Ck.fF x.r) sA x.r).1 = sA by rw [Ck.srch_F]] at S6
     clear gD HD SD BD TS H3 f3 b3 b6
     go_wp2_with fail
     have gD:= (Below.refl w6.heap.size w6).drew
     have HD:= below_heap gD H6
     have SD:= S6.next gD
     have BD:= B6.below gD
     have TS:= hideP (fun W p f X S => search1_at 129 (ptr p) (Ck.fR x.r) bm x sA W enter_out2 f X S hsh (by omega) (fun _ _ _ => by simp [Ck.fR]))
     cases h8: (Ck.srch (Ck.fR x.r) sA x.r).2 with
     | some k =>
      rw [h8] at HO TS
      simp only [srV] at TS
      clear h8
      go_region_held3 (fun W => W.cell? ⟨w.heap.size,0,none⟩ = some (str x.home.v) ∧ W.cell? ⟨w.heap.size,1,none⟩ = some (.bool x.home.k.num) ∧ W.cell? ⟨w.heap.size,2,none⟩ = some (.int .i64 x.home.k.n) ∧ W.cell? ⟨w.heap.size,3,none⟩ = some (str x.home.k.s) ∧ W.cell? ⟨w.heap.size,4,none⟩ = some (str x.pred) ∧ W.cell? ⟨w.heap.size,5,none⟩ = some (.slice x.a x.args.length x.cap) ∧ W.cell? ⟨w.heap.size,6,none⟩ = some (str x.to_.v) ∧ W.cell? ⟨w.heap.size,7,none⟩ = some (.bool x.to_.k.num) ∧ W.cell? ⟨w.heap.size,8,none⟩ = some (.int .i64 x.to_.k.n) ∧ W.cell? ⟨w.heap.size,9,none⟩ = some (str x.to_.k.s) ∧ W.cell? ⟨w.heap.size,10,none⟩ = some (.slice x.ba x.body.length x.bcap)) (first | exact HKK.out _ HD | exact HKK.out _ H3 | exact HKK.out _ H8) (first
       | (go_at_call 77;refine (isOut_at bm x sA _ SD (hx.map BD hm0) hsh.ok).mono ?_;rintro e w3 ⟨⟨p3,rfl,f3⟩,b3⟩;have H3:= below_heap b3 HD)
       | (go_at_call 73;refine (TS.out w3 p3 f3 (hx.map (BD.below b3) hm0) (SD.next b3)).mono ?_;rintro e w8 ⟨rfl,S8,b8⟩;have H8:= b8.heap hne H3))
      go_wp2_with fail
      go_ret2
      rw [HO.out]
      exact ⟨rfl,(BD.below b3).trans b8⟩
     | none =>
      rw [h8] at HO TS
      simp only [srV] at HO TS
      clear h8
      go_region_held3 (fun W => W.cell? ⟨w.heap.size,0,none⟩ = some (str x.home.v) ∧ W.cell? ⟨w.heap.size,1,none⟩ = some (.bool x.home.k.num) ∧ W.cell? ⟨w.heap.size,2,none⟩ = some (.int .i64 x.home.k.n) ∧ W.cell? ⟨w.heap.size,3,none⟩ = some (str x.home.k.s) ∧ W.cell? ⟨w.heap.size,4,none⟩ = some (str x.pred) ∧ W.cell? ⟨w.heap.size,5,none⟩ = some (.slice x.a x.args.length x.cap) ∧ W.cell? ⟨w.heap.size,6,none⟩ = some (str x.to_.v) ∧ W.cell? ⟨w.heap.size,7,none⟩ = some (.bool x.to_.k.num) ∧ W.cell? ⟨w.heap.size,8,none⟩ = some (.int .i64 x.to_.k.n) ∧ W.cell? ⟨w.heap.size,9,none⟩ = some (str x.to_.k.s) ∧ W.cell? ⟨w.heap.size,10,none⟩ = some (.slice x.ba x.body.length x.bcap)) (first | exact HKK.out _ HD | exact HKK.out _ H3 | exact HKK.out _ H8) (first
       | (go_at_call 77;refine (isOut_at bm x sA _ SD (hx.map BD hm0) hsh.ok).mono ?_;rintro e w3 ⟨⟨p3,rfl,f3⟩,b3⟩;have H3:= below_heap b3 HD)
       | (go_at_call 73;refine (TS.out w3 p3 f3 (hx.map (BD.below b3) hm0) (SD.next b3)).mono ?_;rintro e w8 ⟨rfl,S8,b8⟩;have H8:= b8.heap hne H3))
      have B8:= (BD.below b3).trans b8
      rw [show (Ck.srch (Ck.fR x.r) sA x.r).1 = sA by rw [Ck.srch_R]] at S8
      clear gD HD SD BD TS H3 f3 b3 b8
      go_wp2_with fail
      go_ret2
      rw [HO.out]
      exact ⟨⟨rfl,S8⟩,B8⟩
end Go.Proofs.YtpdmmmdkpipmkaaGreatDoor
