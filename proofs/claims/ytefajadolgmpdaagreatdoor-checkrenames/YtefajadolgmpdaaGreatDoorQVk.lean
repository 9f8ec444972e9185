/-
  The program's fault and Program: what is wrong first.
-/
import Derived.Test.YtefajadolgmpdaaGreatDoorQVh
namespace Go.Proofs.YtefajadolgmpdaaGreatDoor
open Go.RowKit Go.Lib Go.Shelf

theorem enter_hasNumber (args : Array Value) (w : World) : (callFunc 38 args).run Tryz.prog w = .ok (.enter 38 args) w := enters_of Tryz.func38 (by kernel_rfl) rfl args w
theorem enter_other1 (args : Array Value) (w : World) : (callFunc 55 args).run Tryz.prog w = .ok (.enter 55 args) w := enters_of Tryz.func55 (by kernel_rfl) rfl args w
theorem enter_free1 (args : Array Value) (w : World) : (callFunc 56 args).run Tryz.prog w = .ok (.enter 56 args) w := enters_of Tryz.func56 (by kernel_rfl) rfl args w
theorem enter_out2 (args : Array Value) (w : World) : (callFunc 59 args).run Tryz.prog w = .ok (.enter 59 args) w := enters_of Tryz.func59 (by kernel_rfl) rfl args w

set_option maxRecDepth 100000 in
set_option maxHeartbeats 400000 in
theorem hasOther_at (bm : Nat) (s : Ck.Seen) (w : World) (hs : SizesAt w bm s) :
    Calls Tryz.prog 39 #[.map (some bm)] w fun e w' => (∃ p, e = .returned (.func (.func 55) #[] #[ptr p]) ∧ FnAt 55 #[ptr p] Ck.fA bm w') ∧ Below w.heap.size w w' := by
  have A0 := below_alloc w (.cells #[.map (some bm)] 57)
  have H0 := heap_alloc_new w (.cells #[.map (some bm)] 57)
  go_enter Tryz.func39, Tryz.ntmps39
  go_wp2_with fail
  go_ret
  exact ⟨⟨_, rfl, fn_A bm _ _ s (hs.next A0) H0⟩, A0⟩

set_option maxRecDepth 100000 in
set_option maxHeartbeats 400000 in
theorem isFree_at (bm : Nat) (x : Rv) (s : Ck.Seen) (w : World) (hs : SizesAt w bm s) (hx : Rv.Aw w x) (hv : Ck.Vok x.r) :
    Calls Tryz.prog 40 #[rval x] w fun e w' => (∃ p, e = .returned (.func (.func 56) #[] #[ptr p]) ∧ FnAt 56 #[ptr p] (Ck.fF x.r) bm w') ∧ Below w.heap.size w w' := by
  have A0 := below_alloc w (.cells (rv x).toArray 42)
  have H0 := heap_alloc_new w (.cells (rv x).toArray 42)
  go_enter Tryz.func40, Tryz.ntmps40
  go_wp2_with fail
  go_ret
  exact ⟨⟨_, rfl, fn_F bm _ x _ s (hs.next A0) H0 (hx.below A0 (Nat.le_refl _)) hv⟩, A0⟩

set_option maxRecDepth 100000 in
set_option maxHeartbeats 400000 in
theorem isOut_at (bm : Nat) (x : Rv) (s : Ck.Seen) (w : World) (hs : SizesAt w bm s) (hx : Rv.Aw w x) (hv : Ck.Vok x.r) :
    Calls Tryz.prog 41 #[rval x] w fun e w' => (∃ p, e = .returned (.func (.func 59) #[] #[ptr p]) ∧ FnAt 59 #[ptr p] (Ck.fR x.r) bm w') ∧ Below w.heap.size w w' := by
  have A0 := below_alloc w (.cells (rv x).toArray 42)
  have H0 := heap_alloc_new w (.cells (rv x).toArray 42)
  have T := hideP (vars_at x _ (hx.below A0 (Nat.le_refl _)) hv)
  go_enter Tryz.func41, Tryz.ntmps41
  go_wp2_with (refine wpList_load_all rfl 42 _ rfl w.heap.size 11 42 (rv x) _ rfl H0 rfl Tryz.underlying42 rfl Tryz.iR11 ?_)
  refine T.out.mono ?_
  rintro e w1 ⟨⟨a, c, rfl, r1⟩, b1⟩
  have B1 := Below.then A0 b1
  have V1 := heap_alloc_new w1 (.cells #[.slice none 0 0] 44)
  have U1 := below_alloc w1 (.cells #[.slice none 0 0] 44)
  go_upto_region 2 with (refine wpList_store_cel rfl 44 _ _ rfl w1.heap.size 0 1 44 (.slice a (Ck.vars x.r).length c) #[.slice a (Ck.vars x.r).length c] rfl rfl V1 rfl (by decide) (by kernel_rfl) rfl rfl ?_; intro w2 h2 t2; have b2 := below_tok t2)
  have V2 := heap_alloc_new w2 (.cells #[.nilFunc] 91)
  go_wp2_with (refine wpList_store_cel rfl 91 _ _ rfl w2.heap.size 0 1 91 (.func (.func 58) #[] #[ptr w1.heap.size]) #[.func (.func 58) #[] #[ptr w1.heap.size]] rfl rfl V2 rfl (by decide) (by kernel_rfl) rfl rfl ?_; intro w3 h3 t3; have b3 := below_tok t3)
  have B2 := Below.then B1 b2
  have B3 := Below.then B2 b3
  go_ret
  exact ⟨⟨_, rfl, fn_R bm _ _ x.r a c w3 s (hs.next B3) h3 (below_heap b3 h2) ((r1.below b2 (Nat.le_refl _)).below b3 (Nat.le_refl _))⟩, B3⟩
end Go.Proofs.YtefajadolgmpdaaGreatDoor

/-
  The program's fault: what is wrong first with a rule.
-/
namespace Go.Proofs.YtefajadolgmpdaaGreatDoor
open Go.RowKit Go.Lib Go.Shelf

/-- what fault answers -/
def FaultAns (bm : Nat) (r : Except (Int × Int) Ck.Seen) (e : Ending) (w' : World) : Prop :=
  match r with
  | .error y => e = .returned (.tuple #[.int .i64 y.1, .int .i64 y.2])
  | .ok s' => e = .returned (.tuple #[.int .i64 0, .int .i64 (-1)]) ∧ SizesAt w' bm s'
theorem odd_len (s : Ck.Seen) (p : List UInt8) (n : Nat) : (Ck.odd s p n).1.length ≤ s.length + 1 := by
  unfold Ck.odd; split <;> simp
theorem aritL_len : ∀ (s : Ck.Seen) (i : Nat) (l : List Lt), (Ck.aritL s i l).1.length ≤ s.length + l.length
  | s, i, [] => by simp [Ck.aritL]
  | s, i, y :: r => by
    rw [Ck.aritL, List.length_cons]
    have h1 := odd_len s y.pred y.args.length
    split
    · simp only; omega
    · have := aritL_len (Ck.odd s y.pred y.args.length).1 (i + 1) r
      omega
theorem arit_len {s : Ck.Seen} {r : Ru} (h : r.body.length ≤ 4) : (Ck.arit s r).1.length ≤ s.length + 5 := by
  unfold Ck.arit
  have h1 := odd_len s r.pred r.args.length
  split
  · simp only; omega
  · have := aritL_len (Ck.odd s r.pred r.args.length).1 0 r.body
    omega

set_option maxRecDepth 100000 in
set_option maxHeartbeats 2000000 in
theorem fault_at (bm : Nat) (x : Rv) (s : Ck.Seen) (w : World) (hL : Laid w) (hs : SizesAt w bm s) (hx : Rv.Aw w x) (hi : Sh.RIn x.r) (hl : s.length ≤ 400) :
    Calls Tryz.prog 24 #[rval x, .map (some bm)] w fun e w' => FaultAns bm (Ck.one s x.r) e w' ∧ But bm w w' := by
  have HO := hideP (Ck.one_srch s x.r)
  have A0 := below_alloc w (.cells (rv x).toArray 42)
  have H0 := heap_alloc_new w (.cells (rv x).toArray 42)
  have T1 := hideP (showRule_at x _ (hL.below A0) (hx.below A0 (Nat.le_refl _)) hi)
  obtain ⟨es, clock, hm0⟩ := hs.map
  have hne : w.heap.size ≠ bm := fun e => by have := hs.lt; omega
  go_enter Tryz.func24, Tryz.ntmps24
  go_wp2_with (refine wpList_load_all rfl 42 _ rfl w.heap.size 11 42 (rv x) _ rfl H0 rfl Tryz.underlying42 rfl Tryz.iR11 ?_)
  refine T1.out.mono ?_
  rintro e w1 ⟨rfl, b1⟩
  have B1 : But bm w w1 := But.of_below (Below.then A0 b1)
  have H1 := below_heap b1 H0
  have S1 : SizesAt w1 bm s := hs.next (Below.then A0 b1)
  clear T1 b1
  cases hr : Sh.ruleS x.r with
  | none =>
    rw [hr, if_pos (by rfl)] at HO
    simp only [sv]
    clear hr
    go_wp2_with fail
    go_ret2
    rw [HO.out]
    exact ⟨rfl, B1⟩
  | some t =>
    have hsh := Ck.shown (r := x.r) (by rw [hr]; rfl)
    have hN := hideP (Ck.srch_N (s := s) (r := x.r) (by rw [hr]; rfl))
    have hbl : x.r.body.length ≤ 4 := hsh.few
    have LA := arit_len (s := s) (r := x.r) hbl
    rw [← Ck.srch_A] at LA
    rw [hr, if_neg (by rw [Option.isSome]; exact Bool.noConfusion)] at HO
    simp only [sv]
    clear hr hbl
    have X1 := hx.map B1 hm0
    go_wp2_with (refine wpList_load_all rfl 42 _ rfl w.heap.size 11 42 (rv x) _ rfl H1 rfl Tryz.underlying42 rfl Tryz.iR11 ?_)
    refine (search0_at 38 Ck.fN bm x s w1 enter_hasNumber (fn_N bm w1) X1 S1 hsh (by omega) (fun _ _ _ => by simp [Ck.fN])).mono ?_
    rintro e w2 ⟨rfl, S2, b2⟩
    rw [show (Ck.srch Ck.fN s x.r).1 = s by rw [hN.out]] at S2
    have B2 := B1.trans b2
    have H2 := b2.heap hne H1
    clear X1 S1 H1 b2 B1 H0 A0
    have KK : ∀ W : World, W.heap[w.heap.size]? = some (.cells (rv x).toArray 42) → (W.cell? ⟨w.heap.size, 0, none⟩ = some (str x.home.v) ∧ W.cell? ⟨w.heap.size, 1, none⟩ = some (.bool x.home.k.num) ∧ W.cell? ⟨w.heap.size, 2, none⟩ = some (.int .i64 x.home.k.n) ∧ W.cell? ⟨w.heap.size, 3, none⟩ = some (str x.home.k.s) ∧ W.cell? ⟨w.heap.size, 4, none⟩ = some (str x.pred) ∧ W.cell? ⟨w.heap.size, 5, none⟩ = some (.slice x.a x.args.length x.cap) ∧ W.cell? ⟨w.heap.size, 6, none⟩ = some (str x.to_.v) ∧ W.cell? ⟨w.heap.size, 7, none⟩ = some (.bool x.to_.k.num) ∧ W.cell? ⟨w.heap.size, 8, none⟩ = some (.int .i64 x.to_.k.n) ∧ W.cell? ⟨w.heap.size, 9, none⟩ = some (str x.to_.k.s) ∧ W.cell? ⟨w.heap.size, 10, none⟩ = some (.slice x.ba x.body.length x.bcap)) := fun W h => by
      refine ⟨?_, ?_, ?_, ?_, ?_, ?_, ?_, ?_, ?_, ?_, ?_⟩
      all_goals (rw [heap_cell h]; rfl)
    have HKK := hideP KK
    clear KK
    cases h2 : (Ck.srch Ck.fN s x.r).2 with
    | some k2 =>
      rw [h2] at HO
      simp only [srV]
      clear h2
      go_wp2_with fail
      go_ret2
      rw [HO.out]
      exact ⟨rfl, B2⟩
    | none =>
      rw [h2] at HO
      simp only [srV] at HO ⊢
      clear h2
      go_wp2_with fail
      have gD := (Below.refl w2.heap.size w2).drew
      have HD := below_heap gD H2
      have SD := S2.next gD
      have BD := B2.below gD
      have TS := hideP (fun W p f X S => search1_at 55 (ptr p) Ck.fA bm x s W enter_other1 f X S hsh (by omega) (fun s _ y => odd_len s y.pred y.args.length))
      cases h4 : (Ck.srch Ck.fA s x.r).2 with
      | some k =>
        rw [h4] at HO TS
        simp only [srV] at TS
        clear h4
        go_region_held3 (fun W => W.cell? ⟨w.heap.size, 0, none⟩ = some (str x.home.v) ∧ W.cell? ⟨w.heap.size, 1, none⟩ = some (.bool x.home.k.num) ∧ W.cell? ⟨w.heap.size, 2, none⟩ = some (.int .i64 x.home.k.n) ∧ W.cell? ⟨w.heap.size, 3, none⟩ = some (str x.home.k.s) ∧ W.cell? ⟨w.heap.size, 4, none⟩ = some (str x.pred) ∧ W.cell? ⟨w.heap.size, 5, none⟩ = some (.slice x.a x.args.length x.cap) ∧ W.cell? ⟨w.heap.size, 6, none⟩ = some (str x.to_.v) ∧ W.cell? ⟨w.heap.size, 7, none⟩ = some (.bool x.to_.k.num) ∧ W.cell? ⟨w.heap.size, 8, none⟩ = some (.int .i64 x.to_.k.n) ∧ W.cell? ⟨w.heap.size, 9, none⟩ = some (str x.to_.k.s) ∧ W.cell? ⟨w.heap.size, 10, none⟩ = some (.slice x.ba x.body.length x.bcap)) (first | exact HKK.out _ HD | exact HKK.out _ H3 | exact HKK.out _ H4) (first
          | (go_at_call 39; refine (hasOther_at bm s _ SD).mono ?_; rintro e w3 ⟨⟨p3, rfl, f3⟩, b3⟩; have H3 := below_heap b3 HD)
          | (go_at_call 37; refine (TS.out w3 p3 f3 (hx.map (BD.below b3) hm0) (SD.next b3)).mono ?_; rintro e w4 ⟨rfl, S4, b4⟩; have H4 := b4.heap hne H3))
        go_wp2_with fail
        go_ret2
        rw [HO.out]
        exact ⟨rfl, (BD.below b3).trans b4⟩
      | none =>
        rw [h4] at HO TS
        simp only [srV] at HO TS
        clear h4
        go_region_held3 (fun W => W.cell? ⟨w.heap.size, 0, none⟩ = some (str x.home.v) ∧ W.cell? ⟨w.heap.size, 1, none⟩ = some (.bool x.home.k.num) ∧ W.cell? ⟨w.heap.size, 2, none⟩ = some (.int .i64 x.home.k.n) ∧ W.cell? ⟨w.heap.size, 3, none⟩ = some (str x.home.k.s) ∧ W.cell? ⟨w.heap.size, 4, none⟩ = some (str x.pred) ∧ W.cell? ⟨w.heap.size, 5, none⟩ = some (.slice x.a x.args.length x.cap) ∧ W.cell? ⟨w.heap.size, 6, none⟩ = some (str x.to_.v) ∧ W.cell? ⟨w.heap.size, 7, none⟩ = some (.bool x.to_.k.num) ∧ W.cell? ⟨w.heap.size, 8, none⟩ = some (.int .i64 x.to_.k.n) ∧ W.cell? ⟨w.heap.size, 9, none⟩ = some (str x.to_.k.s) ∧ W.cell? ⟨w.heap.size, 10, none⟩ = some (.slice x.ba x.body.length x.bcap)) (first | exact HKK.out _ HD | exact HKK.out _ H3 | exact HKK.out _ H4) (first
          | (go_at_call 39; refine (hasOther_at bm s _ SD).mono ?_; rintro e w3 ⟨⟨p3, rfl, f3⟩, b3⟩; have H3 := below_heap b3 HD)
          | (go_at_call 37; refine (TS.out w3 p3 f3 (hx.map (BD.below b3) hm0) (SD.next b3)).mono ?_; rintro e w4 ⟨rfl, S4, b4⟩; have H4 := b4.heap hne H3))
        have B4 := (BD.below b3).trans b4
        clear gD HD SD BD TS H3 f3 b3 b4
        generalize (Ck.srch Ck.fA s x.r).1 = sA at *
        go_wp2_with fail
        have gD := (Below.refl w4.heap.size w4).drew
        have HD := below_heap gD H4
        have SD := S4.next gD
        have BD := B4.below gD
        have TS := hideP (fun W p f X S => search1_at 56 (ptr p) (Ck.fF x.r) bm x sA W enter_free1 f X S hsh (by omega) (fun _ _ _ => by simp [Ck.fF]))
        cases h6 : (Ck.srch (Ck.fF x.r) sA x.r).2 with
        | some k =>
          rw [h6] at HO TS
          simp only [srV] at TS
          clear h6
          go_region_held3 (fun W => W.cell? ⟨w.heap.size, 0, none⟩ = some (str x.home.v) ∧ W.cell? ⟨w.heap.size, 1, none⟩ = some (.bool x.home.k.num) ∧ W.cell? ⟨w.heap.size, 2, none⟩ = some (.int .i64 x.home.k.n) ∧ W.cell? ⟨w.heap.size, 3, none⟩ = some (str x.home.k.s) ∧ W.cell? ⟨w.heap.size, 4, none⟩ = some (str x.pred) ∧ W.cell? ⟨w.heap.size, 5, none⟩ = some (.slice x.a x.args.length x.cap) ∧ W.cell? ⟨w.heap.size, 6, none⟩ = some (str x.to_.v) ∧ W.cell? ⟨w.heap.size, 7, none⟩ = some (.bool x.to_.k.num) ∧ W.cell? ⟨w.heap.size, 8, none⟩ = some (.int .i64 x.to_.k.n) ∧ W.cell? ⟨w.heap.size, 9, none⟩ = some (str x.to_.k.s) ∧ W.cell? ⟨w.heap.size, 10, none⟩ = some (.slice x.ba x.body.length x.bcap)) (first | exact HKK.out _ HD | exact HKK.out _ H3 | exact HKK.out _ H6) (first
            | (go_at_call 40; refine (isFree_at bm x sA _ SD (hx.map BD hm0) hsh.ok).mono ?_; rintro e w3 ⟨⟨p3, rfl, f3⟩, b3⟩; have H3 := below_heap b3 HD)
            | (go_at_call 37; refine (TS.out w3 p3 f3 (hx.map (BD.below b3) hm0) (SD.next b3)).mono ?_; rintro e w6 ⟨rfl, S6, b6⟩; have H6 := b6.heap hne H3))
          go_wp2_with fail
          go_ret2
          rw [HO.out]
          exact ⟨rfl, (BD.below b3).trans b6⟩
        | none =>
          rw [h6] at HO TS
          simp only [srV] at HO TS
          clear h6
          go_region_held3 (fun W => W.cell? ⟨w.heap.size, 0, none⟩ = some (str x.home.v) ∧ W.cell? ⟨w.heap.size, 1, none⟩ = some (.bool x.home.k.num) ∧ W.cell? ⟨w.heap.size, 2, none⟩ = some (.int .i64 x.home.k.n) ∧ W.cell? ⟨w.heap.size, 3, none⟩ = some (str x.home.k.s) ∧ W.cell? ⟨w.heap.size, 4, none⟩ = some (str x.pred) ∧ W.cell? ⟨w.heap.size, 5, none⟩ = some (.slice x.a x.args.length x.cap) ∧ W.cell? ⟨w.heap.size, 6, none⟩ = some (str x.to_.v) ∧ W.cell? ⟨w.heap.size, 7, none⟩ = some (.bool x.to_.k.num) ∧ W.cell? ⟨w.heap.size, 8, none⟩ = some (.int .i64 x.to_.k.n) ∧ W.cell? ⟨w.heap.size, 9, none⟩ = some (str x.to_.k.s) ∧ W.cell? ⟨w.heap.size, 10, none⟩ = some (.slice x.ba x.body.length x.bcap)) (first | exact HKK.out _ HD | exact HKK.out _ H3 | exact HKK.out _ H6) (first
            | (go_at_call 40; refine (isFree_at bm x sA _ SD (hx.map BD hm0) hsh.ok).mono ?_; rintro e w3 ⟨⟨p3, rfl, f3⟩, b3⟩; have H3 := below_heap b3 HD)
            | (go_at_call 37; refine (TS.out w3 p3 f3 (hx.map (BD.below b3) hm0) (SD.next b3)).mono ?_; rintro e w6 ⟨rfl, S6, b6⟩; have H6 := b6.heap hne H3))
          have B6 := (BD.below b3).trans b6
          rw [show (Ck.srch (Ck.fF x.r) sA x.r).1 = sA by rw [Ck.srch_F]] at S6
          clear gD HD SD BD TS H3 f3 b3 b6
          go_wp2_with fail
          have gD := (Below.refl w6.heap.size w6).drew
          have HD := below_heap gD H6
          have SD := S6.next gD
          have BD := B6.below gD
          have TS := hideP (fun W p f X S => search1_at 59 (ptr p) (Ck.fR x.r) bm x sA W enter_out2 f X S hsh (by omega) (fun _ _ _ => by simp [Ck.fR]))
          cases h8 : (Ck.srch (Ck.fR x.r) sA x.r).2 with
          | some k =>
            rw [h8] at HO TS
            simp only [srV] at TS
            clear h8
            go_region_held3 (fun W => W.cell? ⟨w.heap.size, 0, none⟩ = some (str x.home.v) ∧ W.cell? ⟨w.heap.size, 1, none⟩ = some (.bool x.home.k.num) ∧ W.cell? ⟨w.heap.size, 2, none⟩ = some (.int .i64 x.home.k.n) ∧ W.cell? ⟨w.heap.size, 3, none⟩ = some (str x.home.k.s) ∧ W.cell? ⟨w.heap.size, 4, none⟩ = some (str x.pred) ∧ W.cell? ⟨w.heap.size, 5, none⟩ = some (.slice x.a x.args.length x.cap) ∧ W.cell? ⟨w.heap.size, 6, none⟩ = some (str x.to_.v) ∧ W.cell? ⟨w.heap.size, 7, none⟩ = some (.bool x.to_.k.num) ∧ W.cell? ⟨w.heap.size, 8, none⟩ = some (.int .i64 x.to_.k.n) ∧ W.cell? ⟨w.heap.size, 9, none⟩ = some (str x.to_.k.s) ∧ W.cell? ⟨w.heap.size, 10, none⟩ = some (.slice x.ba x.body.length x.bcap)) (first | exact HKK.out _ HD | exact HKK.out _ H3 | exact HKK.out _ H8) (first
              | (go_at_call 41; refine (isOut_at bm x sA _ SD (hx.map BD hm0) hsh.ok).mono ?_; rintro e w3 ⟨⟨p3, rfl, f3⟩, b3⟩; have H3 := below_heap b3 HD)
              | (go_at_call 37; refine (TS.out w3 p3 f3 (hx.map (BD.below b3) hm0) (SD.next b3)).mono ?_; rintro e w8 ⟨rfl, S8, b8⟩; have H8 := b8.heap hne H3))
            go_wp2_with fail
            go_ret2
            rw [HO.out]
            exact ⟨rfl, (BD.below b3).trans b8⟩
          | none =>
            rw [h8] at HO TS
            simp only [srV] at HO TS
            clear h8
            go_region_held3 (fun W => W.cell? ⟨w.heap.size, 0, none⟩ = some (str x.home.v) ∧ W.cell? ⟨w.heap.size, 1, none⟩ = some (.bool x.home.k.num) ∧ W.cell? ⟨w.heap.size, 2, none⟩ = some (.int .i64 x.home.k.n) ∧ W.cell? ⟨w.heap.size, 3, none⟩ = some (str x.home.k.s) ∧ W.cell? ⟨w.heap.size, 4, none⟩ = some (str x.pred) ∧ W.cell? ⟨w.heap.size, 5, none⟩ = some (.slice x.a x.args.length x.cap) ∧ W.cell? ⟨w.heap.size, 6, none⟩ = some (str x.to_.v) ∧ W.cell? ⟨w.heap.size, 7, none⟩ = some (.bool x.to_.k.num) ∧ W.cell? ⟨w.heap.size, 8, none⟩ = some (.int .i64 x.to_.k.n) ∧ W.cell? ⟨w.heap.size, 9, none⟩ = some (str x.to_.k.s) ∧ W.cell? ⟨w.heap.size, 10, none⟩ = some (.slice x.ba x.body.length x.bcap)) (first | exact HKK.out _ HD | exact HKK.out _ H3 | exact HKK.out _ H8) (first
              | (go_at_call 41; refine (isOut_at bm x sA _ SD (hx.map BD hm0) hsh.ok).mono ?_; rintro e w3 ⟨⟨p3, rfl, f3⟩, b3⟩; have H3 := below_heap b3 HD)
              | (go_at_call 37; refine (TS.out w3 p3 f3 (hx.map (BD.below b3) hm0) (SD.next b3)).mono ?_; rintro e w8 ⟨rfl, S8, b8⟩; have H8 := b8.heap hne H3))
            have B8 := (BD.below b3).trans b8
            rw [show (Ck.srch (Ck.fR x.r) sA x.r).1 = sA by rw [Ck.srch_R]] at S8
            clear gD HD SD BD TS H3 f3 b3 b8
            go_wp2_with fail
            go_ret2
            rw [HO.out]
            exact ⟨⟨rfl, S8⟩, B8⟩
end Go.Proofs.YtefajadolgmpdaaGreatDoor

/-
  The program's Program: whether rules may be run, or what is wrong first.
-/
namespace Go.Proofs.YtefajadolgmpdaaGreatDoor
open Go.RowKit Go.Lib Go.Shelf

def ansV (p : Int × Int × Int) : Value := .tuple #[.int .i64 p.1, .int .i64 p.2.1, .int .i64 p.2.2]
theorem one_len {s s' : Ck.Seen} {r : Ru} (h : Ck.one s r = .ok s') : s'.length ≤ s.length + 5 := by
  obtain ⟨hw, _, rfl⟩ := Ck.one_ok h
  exact arit_len (Ck.shown hw.shape).few

set_option maxRecDepth 100000 in
set_option maxHeartbeats 1000000 in
theorem checkProg_at (a : Option Addr) (c : Nat) (xs : List Rv) (w : World) (hL : Laid w) (hx : Rws w a c xs) (hi : ∀ x ∈ xs, Sh.RIn x.r) :
    Calls Tryz.prog 12 #[.slice a xs.length c] w fun e w' => e = .returned (ansV (Ck.prog (xs.map Rv.r))) ∧ Below w.heap.size w w' := by
  have hml : (xs.map Rv.r).length = xs.length := List.length_map ..
  have few := hx.row.few
  have HP : Hid (Ck.prog (xs.map Rv.r) = if 16 < (xs.map Rv.r).length then (81, -1, -1) else Ck.go 0 [] (xs.map Rv.r)) := rfl
  rw [hml] at HP
  by_cases h16 : 16 < xs.length
  · have q : (xs.length : Int) > 16 := by omega
    rw [if_pos h16] at HP
    go_enter Tryz.func12, Tryz.ntmps12
    go_wp2_with fail
    go_ret3
    exact ⟨by rw [HP.out]; rfl, Below.refl _ _⟩
  have q : ¬ (xs.length : Int) > 16 := by omega
  rw [if_neg h16] at HP
  have hmm := fun W => (show (Instr.makeMap 57 none).run Tryz.prog W = .ok (.map (some W.heap.size)) (W.alloc (.map #[] 0)) from rfl)
  have A0 := below_alloc w (.map #[] 0)
  have S0 := sizes_new w
  go_enter Tryz.func12, Tryz.ntmps12
  go_wp2_with fail
  go_loopw [6, 7, 8, 9, 16] (fun _ _ _ _ v wr => ∃ (j : Nat) (s' : Ck.Seen), v = .int .i64 (j : Int) ∧ j ≤ xs.length ∧ SizesAt wr w.heap.size s' ∧ Below w.heap.size w wr ∧ Hid (Ck.prog (xs.map Rv.r) = Ck.go j s' ((xs.map Rv.r).drop j)) ∧ s'.length ≤ 5 * j) (fun _ _ _ _ v _ => xs.length - (RowKit.intOf v).toNat)
  case atStart => exact ⟨0, [], rfl, Nat.zero_le _, S0, A0, by rw [List.drop_zero]; exact HP, by simp⟩
  case round =>
    obtain ⟨j, s', rfl, hj, S, B, HJ, hjl⟩ := hrel
    by_cases hlt : j < xs.length
    · have q2 : (j : Int) < (xs.length : Int) := by omega
      have hjr : j < (xs.map Rv.r).length := by omega
      obtain ⟨P1, O1, rfl⟩ := hx.row.addr (Nat.lt_of_le_of_lt (Nat.zero_le _) hlt)
      have r1 : wr.rangeAt P1 (O1 + j * 11) (rv (xs[j]'hlt)) := (hx.row.below B (Nat.le_refl _)).range j hlt
      have aP := (hx.each _ (List.getElem_mem hlt)).below B (Nat.le_refl _)
      have hyi := hi _ (List.getElem_mem hlt)
      rw [List.drop_eq_getElem_cons hjr, Ck.go, List.getElem_map] at HJ
      generalize (xs[j]'hlt) = y at *
      have iP : (Tryz.prog.info? 42).map (·.size) = some (rv y).length := Tryz.iR11
      go_upto_region 7 with (first
        | (refine wpList_load_mid rfl 42 _ rfl P1 (O1 + j * 11) rfl (rv y) _ r1 Tryz.underlying42 rfl iP ?_)
        | (refine wpList_store_all rfl 42 _ _ rfl wr.heap.size 11 _ 42 (rv y) rfl rfl (heap_alloc_new wr _) rfl rfl Tryz.iR11 rfl ?_; intro w2 H2 d2; have b2 := below_tok d2))
      have B2 := B.trans (b2.mono B.size)
      have S2 := S.next b2
      go_wp2_with (refine wpList_load_all rfl 42 _ rfl wr.heap.size 11 42 (rv y) _ rfl H2 rfl Tryz.underlying42 rfl Tryz.iR11 ?_)
      refine (fault_at w.heap.size y s' w2 (hL.below B2) S2 (aP.below b2 (Nat.le_refl _)) hyi (by omega)).mono ?_
      rintro e w3 ⟨h3, b3⟩
      have B3 := B2.trans (b3.lower (Nat.le_refl _) B2.size)
      cases ho : Ck.one s' y.r with
      | error z =>
        obtain ⟨z1, z2⟩ := z
        have hz : z1 ≠ 0 := Ck.one_err ho
        have q3 : (z1 != 0) = true := by simpa using hz
        rw [ho] at h3 HJ
        simp only [FaultAns] at h3
        subst h3
        simp only at HJ
        clear ho hz
        go_wp2_with fail
        go_ret3
        rw [HJ.out]
        exact ⟨rfl, B3⟩
      | ok s2 =>
        have hl2 := one_len ho
        rw [ho] at h3 HJ
        obtain ⟨rfl, S3⟩ := h3
        simp only at HJ
        clear ho
        go_wp2_with fail
        exact ⟨⟨j + 1, s2, by go_num, by omega, S3, B3, HJ, by omega⟩, by simp [RowKit.intOf]; omega⟩
    · have q2 : ¬ (j : Int) < (xs.length : Int) := by omega
      rw [List.drop_of_length_le (by omega), Ck.go] at HJ
      go_wp2_with fail
      go_ret3
      rw [HJ.out]
      exact ⟨rfl, B⟩
end Go.Proofs.YtefajadolgmpdaaGreatDoor
