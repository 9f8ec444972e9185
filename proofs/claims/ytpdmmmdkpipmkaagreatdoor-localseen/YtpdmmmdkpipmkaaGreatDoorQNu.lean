/-
  The program's number, token.
-/
import Derived.Test.YtpdmmmdkpipmkaaGreatDoorQLd
import Derived.Test.YtpdmmmdkpipmkaaGreatDoorQQs
import Derived.BigQuiet
import Derived.Deep.RegionHeld3
namespace Go.Proofs.YtpdmmmdkpipmkaaGreatDoor
open Go.RowKit Go.Lib Go.Shelf

set_option maxRecDepth 100000 in
set_option maxHeartbeats 1000000 in
theorem number_at (l : List UInt8) (i : Nat) (w : World) (hr : l.length ≤ 281474976710656) (hi : i < l.length) (hc : (Lx.digit l[i] || decide (l[i].toNat = 45)) = true) (hL : Laid w) :
    Calls Tryz.prog 110 #[str l, .int .i64 (i : Int)] w fun e w' => e = tokR (pres (Lx.number l i)) ∧ Below w.heap.size w w' := by
  have hsz := str_size l
  have iN : (Tryz.prog.info? 121).map (·.size) = some 4 := by kernel_rfl
  have E := hideP (fun w => endOf_at 109 Lx.digit ldigit_at l (i + 1) w enter_digit hr hi)
  have R1 := Lx.run_le Lx.digit (l := l) (i := i + 1) hi
  have R2 := Lx.le_run Lx.digit l (i + 1)
  obtain ⟨n1, n2⟩ := Lx.number_run hi hc
  have hd := Lx.run_digits l (Lx.first l i)
  have hn : Lx.number l i = (Lx.numOf (Lx.isNeg l i) (Lx.sub l (Lx.first l i) (Lx.run Lx.digit l (Lx.first l i)))).map fun v => (⟨3, [], v, i⟩, Lx.run Lx.digit l (Lx.first l i)) := rfl
  have hs := extract_sub l i (Lx.run Lx.digit l (i + 1)) R1
  have hl := Lx.sub_length (i := i) R1
  rw [n1] at n2 hd hn
  generalize Lx.sub l (Lx.first l i) (Lx.run Lx.digit l (i + 1)) = ds at *
  generalize Lx.isNeg l i = neg at *
  generalize Lx.run Lx.digit l (i + 1) = j at *
  clear n1
  generalize Lx.sub l i j = s at *
  have hls : s.length ≤ 281474976710656 := by omega
  have q0 : (0 : Int) ≤ (i : Int) := by omega
  have q1 : (i : Int) ≤ (j : Int) := by omega
  have q2 : (j : Int) ≤ (l.length : Int) := by omega
  have H0 := heap_alloc_new w zTok
  have B0 := below_alloc w zTok
  have L0 := hL.below B0
  have HN := hideP hn
  have N2 := hideP n2
  have HD := hideP hd
  clear hn n2 hd
  by_cases hok : ∃ v, Lib.atoiAll s = .ok v
  · obtain ⟨v, hv⟩ := hok
    have bd := Lib.atoiAll_bounds hv
    obtain ⟨bd1, bd2⟩ := bd
    have hy := hideP (fun h : itoa v = s => show Lx.number l i = some (⟨3, [], v, i⟩, j) by
      rw [HN.out]
      cases hk : Lx.numOf neg ds with
      | none => exact absurd (h.trans N2.out) (Lx.num_no HD.out hk (by rw [← N2.out]; exact hv))
      | some v' =>
        have := (Lx.num_yes HD.out hk).1
        rw [← N2.out, hv] at this
        cases this; rfl)
    have hn := hideP (fun h : itoa v ≠ s => show Lx.number l i = none by
      rw [HN.out]
      cases hk : Lx.numOf neg ds with
      | none => rfl
      | some v' =>
        obtain ⟨h1, h2⟩ := Lx.num_yes HD.out hk
        rw [← N2.out, hv] at h1
        cases h1
        exact absurd (h2.trans N2.out.symm) h)
    have A := hideP (fun w => atoi_ok s v w hls hv)
    have I := hideP (fun w hL => itoa_at v w bd1 bd2 hL)
    go_enter Tryz.func110, Tryz.ntmps110
    go_wp2_with (first
      | (go_at_call 104; refine (E.out _).mono ?_; rintro e w1 ⟨rfl, rfl⟩)
      | fail)
    refine (A.out _).mono ?_; rintro e w1 ⟨rfl, b1⟩
    have H1 := below_heap b1 H0
    have L1 := (L0.below b1).drew
    have D1 : Below w1.heap.size w1 w1.drew := (Below.refl _ _).drew
    go_wp2_with fail
    go_region_held3 (fun _ => True) (trivial) (first | (go_at_call 78; refine (I.out _ L1).mono ?_; rintro e w2 ⟨rfl, b2⟩))
    all_goals (have H2 := below_heap b2 (below_heap D1 H1))
    all_goals (have B2 : Below w.heap.size w w2 := (Below.then B0 b1).trans ((D1.trans b2).mono (Below.then B0 b1).size))
    all_goals (have z2 := B2.size)
    all_goals go_wp2_with (refine wpList_store_all rfl 121 _ _ rfl w.heap.size 4 _ 121 _ rfl rfl H2 rfl rfl iN rfl ?_; intro w4 H4 b4)
    all_goals refine bodyPost_ret (results_cell_two rfl rfl H4 Tryz.underlying121 rfl (by kernel_rfl)) rfl ⟨?_, B2.trans (b4.lower (Nat.le_refl _) z2)⟩
    all_goals first
      | (rw [hy.out (by simpa using ‹(!itoa v == s) = false›)]; rfl)
      | (rw [hn.out (by simpa using ‹(!itoa v == s) = true›)]; rfl)
  · have A := hideP (fun w hL => atoi_no s w hls hL hok)
    go_enter Tryz.func110, Tryz.ntmps110
    go_wp2_with (first
      | (go_at_call 104; refine (E.out _).mono ?_; rintro e w1 ⟨rfl, rfl⟩)
      | fail)
    refine (A.out _ L0).mono ?_; rintro e w1 ⟨⟨n, N, rfl⟩, b1⟩
    have H1 := below_heap b1 H0
    go_wp2_with fail
    go_quiet (fail)
    have hn := hideP (show Lx.number l i = none by
      rw [HN.out]
      cases hk : Lx.numOf neg ds with
      | none => rfl
      | some v' => exact absurd ⟨v', by rw [N2.out]; exact (Lx.num_yes HD.out hk).1⟩ hok)
    have D1 : Below w1.heap.size w1 (w1.drewN nq) := (Grew.drewN w1 nq).below
    generalize w1.drewN nq = w2 at *
    have H2 := below_heap D1 H1
    have B2 : Below w.heap.size w w2 := (Below.then B0 b1).trans (D1.mono (Below.then B0 b1).size)
    have z2 := B2.size
    go_wp2_with (refine wpList_store_all rfl 121 _ _ rfl w.heap.size 4 _ 121 _ rfl rfl H2 rfl rfl iN rfl ?_; intro w4 H4 b4)
    refine bodyPost_ret (results_cell_two rfl rfl H4 Tryz.underlying121 rfl (by kernel_rfl)) rfl ⟨?_, B2.trans (b4.lower (Nat.le_refl _) z2)⟩
    rw [hn.out]; rfl

theorem tok_open {P : Program} {f : FuncId} {args : Array Value} {w : World} {r : Lx.Tok × Nat × Int} {B : World → Prop} (h : Calls P f args w fun e w' => e = tokR r ∧ B w') :
    Calls P f args w fun e w' => e = .returned (.tuple #[.agg (tokv r.1).toArray, .int .i64 (r.2.1 : Int), .int .i64 r.2.2]) ∧ B w' := h

set_option maxRecDepth 100000 in
set_option maxHeartbeats 1000000 in
theorem token_at (l : List UInt8) (i : Nat) (w : World) (hr : l.length ≤ 281474976710656) (hi : i < l.length) (hL : Laid w) :
    Calls Tryz.prog 69 #[str l, .int .i64 (i : Int)] w fun e w' => e = tokR (pres (Lx.one l i)) ∧ Below w.heap.size w w' := by
  have hsz := str_size l
  have iN : (Tryz.prog.info? 121).map (·.size) = some 4 := by kernel_rfl
  have hi' : (i : Int) < (l.length : Int) := by omega
  have hg : ∀ h, ((⟨l.toArray⟩ : ByteArray)[i]'h).toNat = l[i].toNat := fun _ => rfl
  have H0 := heap_alloc_new w zTok
  have B0 := below_alloc w zTok
  have L0 := hL.below B0
  have ho : Lx.one l i = if Lx.small l[i] = true then Lx.word 1 l i else if Lx.great l[i] = true then Lx.word 2 l i else if (Lx.digit l[i] || decide (l[i].toNat = 45)) = true then Lx.number l i else if l[i].toNat = 34 then Lx.quote l i else Lx.sign l i l[i] := Lx.one_at hi
  have HO := hideP ho
  clear ho
  have W1 := hideP (fun w => word_at 1 l i w hr (Nat.le_of_lt hi))
  have W2 := hideP (fun w => word_at 2 l i w hr (Nat.le_of_lt hi))
  have NU := hideP (fun w hc hL => number_at l i w hr hi hc hL)
  have QU := hideP (fun w => quotation_at l i w hr hi)
  have SI := hideP (fun w => sign_at l i w hr hi)
  have C1 := hideP (lsmall_at l[i])
  have C2 := hideP (lgreat_at l[i])
  have C3 := hideP (ldigit_at l[i])
  have hnd : ∀ r, (Lx.digit l[i] || decide (l[i].toNat = 45)) = r → (Lx.digit l[i] = true ∨ l[i].toNat = 45 ↔ r = true) := fun r h => by subst h; simp
  have HND := hideP hnd
  clear hnd
  generalize Lx.small l[i] = s1 at *
  generalize Lx.great l[i] = s2 at *
  generalize Lx.digit l[i] = s3 at *
  generalize Lx.sign l i l[i] = rs at *
  generalize Lx.quote l i = rq at *
  generalize Lx.word 1 l i = r1 at *
  generalize Lx.word 2 l i = r2 at *
  generalize Lx.number l i = rn at *
  generalize hx : l[i].toNat = x at *
  simp only [hx] at hg
  go_enter Tryz.func69, Tryz.ntmps69
  go_wp2_with (first
    | (go_at_call 106; refine (C1.out _).mono ?_; rintro e w1 ⟨rfl, rfl⟩)
    | (go_at_call 108; refine (C2.out _).mono ?_; rintro e w1 ⟨rfl, rfl⟩)
    | (go_at_call 109; refine (C3.out _).mono ?_; rintro e w1 ⟨rfl, rfl⟩)
    | (go_at_call_of 107 (Value.int .i64 1); refine (tok_open (W1.out _)).mono ?_; rintro e w1 ⟨rfl, b1⟩; have H1 := below_heap b1 H0)
    | (go_at_call_of 107 (Value.int .i64 2); refine (tok_open (W2.out _)).mono ?_; rintro e w1 ⟨rfl, b1⟩; have H1 := below_heap b1 H0)
    | (go_at_call 110; refine (tok_open (NU.out _ (by rw [← (HND.out _ rfl)]; first | (left; assumption) | (right; simp_all; done) | (right; simp_all; omega)) L0)).mono ?_; rintro e w1 ⟨rfl, b1⟩; have H1 := below_heap b1 H0)
    | (go_at_call 111; refine (tok_open (QU.out _)).mono ?_; rintro e w1 ⟨rfl, b1⟩; have H1 := below_heap b1 H0)
    | (go_at_call 112; refine (tok_open (SI.out _)).mono ?_; rintro e w1 ⟨rfl, b1⟩; have H1 := below_heap b1 H0)
    | (refine wpList_store_all rfl 121 _ _ rfl w.heap.size 4 _ 121 _ rfl rfl H1 rfl rfl iN rfl ?_; intro w4 H4 b4))
  all_goals (have B1 := Below.then B0 b1)
  all_goals refine bodyPost_ret (results_cell_two rfl rfl H4 Tryz.underlying121 rfl (by kernel_rfl)) rfl ⟨?_, B1.trans (b4.lower (Nat.le_refl _) B1.size)⟩
  all_goals rw [HO.out]
  all_goals (repeat' split)
  all_goals first | rfl | (exfalso; simp_all; done) | (exfalso; simp_all; omega)
end Go.Proofs.YtpdmmmdkpipmkaaGreatDoor
