/-
  CodeBack, walked: facts laid one behind the other are read as they were; a program leads back.
-/
import Derived.Test.YtghhdbkgibpebaaW5
import Derived.Test.YtghhdbkgibpebaaRs2
import Derived.Test.YtghhdbkgibpebaaMf
import Derived.Test.YtghhdbkgibpebaaMo
import Derived.Test.YtghhdbkgibpebaaLive5
import Derived.Test.YtghhdbkgibpebaaQb
namespace Go.Proofs.Ytghhdbkgibpebaa
open Go.RowKit Go.Sort

/-- the bytes of the facts that may be, one behind the other -/
def oneB (x : Fv) : List UInt8 := bif okB x.f then factB x.f else []
def LB (xs : List Fv) : List UInt8 := xs.flatMap oneB
theorem LB_succ (xs : List Fv) (k : Nat) (h : k < xs.length) : LB (xs.take (k + 1)) = LB (xs.take k) ++ oneB xs[k] := by
  unfold LB
  rw [List.take_succ_eq_append_getElem h, List.flatMap_append]; simp
theorem LB_split (xs : List Fv) (k : Nat) (h : k < xs.length) : LB xs = LB (xs.take k) ++ oneB xs[k] ++ LB (xs.drop (k + 1)) := by
  unfold LB
  conv => lhs; rw [← List.take_append_drop k xs, List.drop_eq_getElem_cons h]
  rw [List.flatMap_append, List.flatMap_cons, List.append_assoc]
theorem one_len {x : Fv} (h : ∀ k ∈ x.ks, KIn k) : (oneB x).length ≤ 3000 := by
  unfold oneB
  cases hok : okB x.f
  · simp
  · exact fact_len (f := x.f) h hok
theorem LB_len : ∀ (xs : List Fv), (∀ x ∈ xs, ∀ k ∈ x.ks, KIn k) → (LB xs).length ≤ 3000 * xs.length
  | [], _ => by simp [LB]
  | x :: r, h => by
    have a1 := one_len (h x (by simp))
    have a2 := LB_len r (fun y hy => h y (by simp [hy]))
    unfold LB at a2 ⊢
    rw [List.flatMap_cons, List.length_append, List.length_cons]; omega

set_option maxRecDepth 100000 in
set_option maxHeartbeats 4000000 in
theorem codeBack_walk (a : Option Addr) (c : Nat) (xs : List Fv) (a' : Option Addr) (c' : Nat) (ys : List Rv) (w : World) (hx : Lies w a c xs) (ax : ∀ x ∈ xs, Fv.At w x) (nx : ∀ x ∈ xs, (∀ k ∈ x.ks, KIn k) ∧ TxF x) (hy : Row rK w a' c' ys) (ay : ∀ y ∈ ys, Rv.At w y) (ny : ∀ y ∈ ys, RIn y.r) :
    Calls Try.prog 7 #[.slice a xs.length c, .slice a' ys.length c'] w fun e w' => e = .returned (.bool true) ∧ Below w.heap.size w w' := by
  have mixed : Try.prog.follows .mixedOrders = true := by kernel_rfl
  have hV := fun W => live5_at W
  have few := hx.few
  go_enter Try.func7, Try.ntmps7
  go_wp2_with fail
  refine (weight_few a c xs w hx ax (fun x h => (nx x h).2)).mono ?_
  rintro e w1 ⟨⟨r, rfl, hfew⟩, g1⟩
  have B1 : Below w.heap.size w w1 := g1.below
  by_cases hr : 300 < r
  · clear hfew
    go_wp2_with fail
    refine (hV _).mono ?_; rintro e w2 ⟨rfl, b2⟩
    go_wp2_with fail
    go_ret
    exact ⟨rfl, Below.then B1 b2⟩
  have hn := hfew hr
  clear hfew g1
  go_wp2_with fail
  refine (rweight_at a' c' ys 300 w1 (hy.below B1 (Nat.le_refl _)) (fun y h => (ay y h).below B1 (Nat.le_refl _))).mono ?_
  rintro e w2 ⟨⟨r2, rfl⟩, g2⟩
  have B2 : Below w.heap.size w w2 := Below.then B1 g2.below
  by_cases hr2 : 300 < r2
  · go_wp2_with fail
    refine (hV _).mono ?_; rintro e w3 ⟨rfl, b3⟩
    go_wp2_with fail
    go_ret
    exact ⟨rfl, Below.then B2 b3⟩
  clear g2 B1
  have hlen : ∀ k, (LB (xs.take k)).length ≤ 900000 := fun k => by
    have := LB_len (xs.take k) (fun x h => (nx x (List.mem_of_mem_take h)).1)
    have h2 : (xs.take k).length ≤ 300 := by rw [List.length_take]; omega
    omega
  have hlen2 : (LB xs).length ≤ 900000 := by
    have := hlen xs.length; rwa [List.take_length] at this
  have HL := hideP hlen; have HL2 := hideP hlen2
  clear hlen hlen2
  go_wp2_with fail
  go_loopw [5, 6, 7, 8, 9] (fun v5 v6 v7 _ _ wr => ∃ (k : Nat) (n : Nat) (p : Option Addr) (cp : Nat), v5 = .slice p (LB (xs.take k)).length cp ∧ v6 = .int .i64 (n : Int) ∧ v7 = .int .i64 (k : Int) ∧ k ≤ xs.length ∧ n ≤ k ∧ Holds wr p cp (LB (xs.take k)) ∧ Below w.heap.size w wr) (fun _ _ v7 _ _ _ => xs.length - (intOf v7).toNat)
  case atStart => exact ⟨0, 0, none, 0, rfl, rfl, rfl, by omega, by omega, Holds.nil _, B2⟩
  case round =>
    obtain ⟨k, n, p, cp, rfl, rfl, rfl, hk, hnk, hH, BW⟩ := hrel
    by_cases hlt : k < xs.length
    · have q2 : (k : Int) < (xs.length : Int) := by omega
      obtain ⟨P1, O1, rfl⟩ := hx.addr (Nat.lt_of_le_of_lt (Nat.zero_le _) hlt)
      have hx' := hx.below BW (Nat.le_refl _)
      obtain ⟨a1, a2, a3, a4⟩ := hx'.get k hlt
      have hA := (ax _ (List.getElem_mem hlt)).below BW (Nat.le_refl _)
      have hI := (nx _ (List.getElem_mem hlt)).1
      have hb1 := HL.out k
      have hs := hideP (LB_succ xs k hlt)
      have hP := putFact5_at p cp (LB (xs.take k)) (xs[k]'hlt) wr hH hA hI (by omega)
      have hC := fun W (h : Below wr.heap.size wr W) => refcheck_at (xs[k]'hlt) W (hA.below h (Nat.le_refl _))
      have ho : oneB (xs[k]'hlt) = bif okB (xs[k]'hlt).f then factB (xs[k]'hlt).f else [] := rfl
      simp only [errno] at hP hC
      generalize hq : (xs[k]'hlt) = q at *
      generalize oneB q = ob at *
      generalize hLk : LB (xs.take k) = L at *
      generalize factB q.f = FB at *
      obtain ⟨x1, x2, x3, xa, xc, xk⟩ := q
      cases hok : okB (Fv.f ⟨x1, x2, x3, xa, xc, xk⟩)
      · rw [hok] at hP ho
        simp only [hok] at hC
        simp only [cond_false] at hP hC ho
        subst ho
        have hs' : Hid (LB (xs.take (k + 1)) = L) := by show _ = _; rw [hs.out, List.append_nil]
        go_wp2_with fail
        refine hP.mono ?_; rintro e w3 ⟨v3, rfl, o3, b3⟩
        obtain ⟨p3, c3, rfl, X3, _⟩ := o3.holds
        have a1' := (b3.cell (cell_block a1)).trans a1; have a2' := (b3.cell (cell_block a2)).trans a2; have a3' := (b3.cell (cell_block a3)).trans a3; have a4' := (b3.cell (cell_block a4)).trans a4
        clear a1 a2 a3 a4 hP o3
        go_wp2_with fail
        refine (hC w3 b3).mono ?_; rintro e w4 ⟨rfl, b4⟩
        go_wp2_with fail
        refine (same_at p3 p L.length L.length c3 cp L L w4 rfl rfl (X3.below b4) (hH.below (Below.then b3 b4))).mono ?_; rintro e w5 ⟨rfl, rfl⟩
        rw [beq_self_eq_true]
        go_wp2_with fail
        exact ⟨⟨k + 1, n, p3, c3, by rw [hs'.out], rfl, by simp, by omega, by omega, by rw [hs'.out]; exact X3.below b4, Below.then (Below.then BW b3) b4⟩, by simp [intOf]; omega⟩
      · rw [hok] at hP ho
        simp only [hok] at hC
        simp only [cond_true] at hP hC ho
        subst ho
        go_wp2_with fail
        refine hP.mono ?_; rintro e w3 ⟨v3, rfl, o3, b3⟩
        obtain ⟨p3, c3, rfl, X3, _⟩ := o3.holds
        have a1' := (b3.cell (cell_block a1)).trans a1; have a2' := (b3.cell (cell_block a2)).trans a2; have a3' := (b3.cell (cell_block a3)).trans a3; have a4' := (b3.cell (cell_block a4)).trans a4
        clear a1 a2 a3 a4 hP o3
        go_wp2_with fail
        refine (hC w3 b3).mono ?_; rintro e w4 ⟨rfl, b4⟩
        go_wp2_with fail
        exact ⟨⟨k + 1, n + 1, p3, c3, by rw [hs.out, List.length_append], by simp, by simp, by omega, by omega, by rw [hs.out]; exact X3.below b4, Below.then (Below.then BW b3) b4⟩, by simp [intOf]; omega⟩
    · have q2 : ¬ (k : Int) < (xs.length : Int) := by omega
      obtain rfl : k = xs.length := by omega
      rw [List.take_length] at hH ⊢
      generalize hLB : LB xs = L at *
      clear hr hr2 B2 hnk
      obtain ⟨wo, hwo⟩ : ∃ W, W = wr := ⟨_, rfl⟩
      subst hwo
      have hL9 : L.length ≤ 900000 := HL2.out
      go_wp2_with fail
      go_loopw [10, 11, 12, 13, 14] (fun v10 v11 _ _ _ wi => ∃ (k : Nat), v10 = .int .i64 ((LB (xs.take k)).length : Int) ∧ v11 = .int .i64 (k : Int) ∧ k ≤ xs.length ∧ Below wo.heap.size wo wi) (fun _ v11 _ _ _ _ => xs.length - (intOf v11).toNat)
      case atStart => exact ⟨0, rfl, rfl, by omega, Below.refl _ _⟩
      case round =>
        obtain ⟨k, rfl, rfl, hk2, BI⟩ := hrel
        have BA : Below w.heap.size w wr := Below.then BW BI
        have hHI := hH.below BI
        by_cases hlt : k < xs.length
        · have q2 : (k : Int) < (xs.length : Int) := by omega
          obtain ⟨P1, O1, rfl⟩ := hx.addr (Nat.lt_of_le_of_lt (Nat.zero_le _) hlt)
          have hx' := hx.below BA (Nat.le_refl _)
          obtain ⟨a1, a2, a3, a4⟩ := hx'.get k hlt
          have hA := (ax _ (List.getElem_mem hlt)).below BA (Nat.le_refl _)
          have hI := (nx _ (List.getElem_mem hlt)).1
          have hs := hideP (LB_succ xs k hlt)
          have hsp := hideP (LB_split xs k hlt)
          have hC := refcheck_at (xs[k]'hlt) wr hA
          have ho : Hid (oneB (xs[k]'hlt) = bif okB (xs[k]'hlt).f then factB (xs[k]'hlt).f else []) := rfl
          have hpos := fact_pos (xs[k]'hlt).f
          simp only [errno] at hC
          have hb9 := HL.out k
          generalize hq : (xs[k]'hlt) = q at *
          generalize hLk : LB (xs.take k) = M at *
          generalize LB (xs.drop (k + 1)) = M2 at *
          have hrd := fun (h : okB q.f = true) => fR_put (f := q.f) M M2 h hI
          generalize oneB q = ob at *
          generalize factB q.f = FB at *
          cases hok : okB q.f
          · rw [hok] at hC
            simp only [cond_false] at hC
            have hs' : Hid (LB (xs.take (k + 1)) = M) := by
              show _ = _
              have := ho.out; rw [hok] at this
              rw [hs.out, this]; exact List.append_nil _
            obtain ⟨x1, x2, x3, xa, xc, xk⟩ := q
            clear hrd ho hs hsp
            go_wp2_with fail
            refine hC.mono ?_; rintro e w4 ⟨rfl, b4⟩
            go_wp2_with fail
            exact ⟨⟨k + 1, by rw [hs'.out], by simp, by omega, Below.then BI b4⟩, by simp [intOf]; omega⟩
          · rw [hok] at hC
            simp only [cond_true] at hC
            have hob : ob = FB := by have := ho.out; rw [hok] at this; exact this
            subst hob
            have hF := fun W (h : Below wr.heap.size wr W) => fact5_at p cp L (M.length : Int) W (hHI.below h) (by omega) (by omega) (by omega)
            have e9 : fR L (M.length : Int) = (q.f, ((M ++ ob).length : Int), 0) := by rw [← hLB, hsp.out]; exact hrd hok
            obtain ⟨J, hJ⟩ : ∃ J, (M ++ ob).length = J := ⟨_, rfl⟩
            rw [hJ] at e9
            rw [e9] at hF
            simp only at hF
            have hs' : Hid (LB (xs.take (k + 1)) = M ++ ob) := hs.out
            have q8 : ¬ (J : Int) ≤ (M.length : Int) := by rw [← hJ, List.length_append]; omega
            have q9 : ¬ J ≤ M.length := by omega
            have q7 : M.length < J := by omega
            have HJ := hideP hJ; clear hJ
            clear e9 hrd ho hs
            obtain ⟨x1, x2, x3, xa, xc, xk⟩ := q
            go_wp2_with fail
            refine hC.mono ?_; rintro e w4 ⟨rfl, b4⟩
            go_wp2_with fail
            refine (hF w4 b4).mono ?_; rintro e w5 ⟨y, rfl, hy5, A5, b5⟩
            obtain ⟨y1, y2, y3, ya, yc, yk⟩ := y
            have G5 := heap_alloc_new w5 (.cells #[str y1, str y2, str y3, .slice ya yk.length yc] 24)
            have b6 := below_alloc w5 (.cells #[str y1, str y2, str y3, .slice ya yk.length yc] 24)
            have A6 := A5.below b6 (Nat.le_refl _)
            have BT : Below wr.heap.size wr _ := Below.then (Below.then b4 b5) b6
            have A7 := hA.below BT (Nat.le_refl _)
            have d1 := (BT.cell (cell_block a1)).trans a1; have d2 := (BT.cell (cell_block a2)).trans a2; have d3 := (BT.cell (cell_block a3)).trans a3; have d4 := (BT.cell (cell_block a4)).trans a4
            clear a1 a2 a3 a4 A5 b4 b5 b6 hF hC
            go_wp2_with fail
            generalize hN5 : w5.heap.size = n5 at *
            generalize w5.alloc (.cells #[str y1, str y2, str y3, .slice ya yk.length yc] 24) = w6 at *
            have f0 := heap_cell G5 0; have f1 := heap_cell G5 1; have f2 := heap_cell G5 2; have f3 := heap_cell G5 3
            simp at f0 f1 f2 f3
            have D0 := cell_kept d1; have D1 := cell_kept d2; have D2 := cell_kept d3; have D3 := cell_kept d4
            have F0 := cell_kept f0; have F1 := cell_kept f1; have F2 := cell_kept f2; have F3 := cell_kept f3
            have hS := fun p : BelowBy w6 => sameFact_at ⟨y1, y2, y3, ya, yc, yk⟩ ⟨x1, x2, x3, xa, xc, xk⟩ p.w (A6.below p.h (Nat.le_refl _)) (A7.below p.h (Nat.le_refl _))
            have hcf : decide (cF (Fv.f ⟨y1, y2, y3, ya, yc, yk⟩) (Fv.f ⟨x1, x2, x3, xa, xc, xk⟩) = 0) = true := decide_eq_true ((cF_zero _ _).2 hy5)
            simp only [hcf] at hS
            clear d1 d2 d3 d4 f0 f1 f2 f3 G5 A6 A7
            haveI : Inhabited (BelowBy w6) := ⟨⟨w6, Below.refl _ _⟩⟩
            refine wp_region_quiet_below (by assumption) (by kernel_rfl) ?_
            repeat (quiet_step (first
              | (go_at_call 26; refine Calls.below_of_grew (hS _))))
            refine wpQuiet_nil ?_
            intro _ hw'
            obtain ⟨⟨w7, hb7⟩, rfl⟩ := hw'
            go_wp2_with fail
            exact ⟨⟨k + 1, by rw [hs'.out, HJ.out], by simp, by omega, Below.then BI (Below.then BT hb7)⟩, by simp [intOf]; omega⟩
        · have q2 : ¬ (k : Int) < (xs.length : Int) := by omega
          obtain rfl : k = xs.length := by omega
          rw [List.take_length, hLB]
          have hE := encode5_at a' c' ys wr (hy.below BA (Nat.le_refl _)) (fun y h => (ay y h).below BA (Nat.le_refl _)) ny
          by_cases hee : encE ys.length (ys.all fun x => mayR x.r) = 0
          · have h768 : ys.length ≤ 768 := by unfold encE at hee; split at hee <;> omega
            have hall : (ys.map Rv.r).all mayR = true := by
              unfold encE at hee
              rw [if_neg (by omega)] at hee
              rw [List.all_map]
              cases h : ys.all (mayR ∘ Rv.r)
              · rw [show (ys.all fun x => mayR x.r) = false from h] at hee; cases hee
              · rfl
            have hri : ∀ r ∈ ys.map Rv.r, RIn r := fun r hr => by obtain ⟨x, hx, rfl⟩ := List.mem_map.1 hr; exact ny x hx
            have hpl := prog_len (l := ys.map Rv.r) hri (by simpa using h768) hall
            have hdr := dR_put (l := ys.map Rv.r) (by simpa using h768) hall hri
            rw [hee, if_pos rfl] at hE
            clear h768 hall hri
            go_wp2_with fail
            refine hE.mono ?_; rintro e w8 ⟨v8, rfl, o8, b8⟩
            obtain ⟨p8, c8, rfl, X8, _⟩ := o8.holds
            have hD := decode5_at p8 c8 _ w8 X8 (by omega)
            rw [hdr] at hD
            generalize progB (ys.map Rv.r) = PB at *
            clear hE hdr o8
            go_wp2_with fail
            refine hD.mono ?_; rintro e w9 ⟨a9, c9, zs, rfl, row9, each9, hzs, b9⟩
            have B9 : Below wr.heap.size wr w9 := Below.then b8 b9
            have BB9 : Below w.heap.size w w9 := Below.then BA B9
            have hK := rlike_at a9 a' c9 c' zs ys w9 row9 (hy.below BB9 (Nat.le_refl _)) each9 (fun y h => (ay y h).below BB9 (Nat.le_refl _))
            rw [(sameRs_iff _ _).2 hzs] at hK
            go_wp2_with fail
            refine hK.mono ?_; rintro e w10 ⟨rfl, b10⟩
            go_wp2_with fail
            refine (hV _).mono ?_; rintro e w11 ⟨rfl, b11⟩
            go_wp2_with fail
            go_ret
            exact ⟨rfl, Below.then (Below.then BB9 b10) b11⟩
          · have hee' : (encE ys.length (ys.all fun x => mayR x.r) == 0) = false := by simpa using hee
            generalize encE ys.length (ys.all fun x => mayR x.r) = ee at *
            go_wp2_with fail
            refine hE.mono ?_; rintro e w8 ⟨v8, rfl, o8, b8⟩
            rw [if_neg hee] at o8
            obtain ⟨p8, c8, rfl, X8, _⟩ := o8.holds
            go_wp2_with fail
            refine (hV _).mono ?_; rintro e w11 ⟨rfl, b11⟩
            go_wp2_with fail
            go_ret
            exact ⟨rfl, Below.then (Below.then BA b8) b11⟩
end Go.Proofs.Ytghhdbkgibpebaa
