/-
  The program's quotation and sign.
-/
import Derived.BigQuiet
import Derived.Deep.RegionHeld3
import Derived.Test.YtcncmpgababfjaaDoorQWd
import Derived.Test.YtcncmpgababfjaaDoorQLd
namespace Go.Proofs.YtcncmpgababfjaaDoor
open Go.RowKit Go.Lib Go.Shelf

set_option maxRecDepth 100000 in
set_option maxHeartbeats 1000000 in
theorem quotation_at (l : List UInt8) (i : Nat) (w : World) (hr : l.length ≤ 281474976710656) (hi : i < l.length) :
    Calls Tryd.prog 34 #[str l, .int .i64 (i : Int)] w fun e w' => e = tokR (pres (Lx.quote l i)) ∧ Below w.heap.size w w' := by
  have hsz := str_size l
  have iN : (Tryd.prog.info? 68).map (·.size) = some 4 := by kernel_rfl
  have E := hideP (fun w => endOf_at 47 Lx.plain lplain_at l (i + 1) w enter_quot1 hr hi)
  have R1 := Lx.run_le Lx.plain (l := l) (i := i + 1) hi
  have R2 := Lx.le_run Lx.plain l (i + 1)
  have hw : Lx.quote l i = if l[Lx.run Lx.plain l (i + 1)]?.map (·.toNat) = some 34 then some (⟨4, Lx.sub l (i + 1) (Lx.run Lx.plain l (i + 1)), 0, i⟩, Lx.run Lx.plain l (i + 1) + 1) else none := rfl
  have hs := extract_sub l (i + 1) (Lx.run Lx.plain l (i + 1)) R1
  have hl := Lx.sub_length (i := i + 1) R1
  have hl2 := str_size (Lx.sub l (i + 1) (Lx.run Lx.plain l (i + 1)))
  generalize Lx.run Lx.plain l (i + 1) = j at *
  generalize Lx.sub l (i + 1) j = t at *
  have HW := hideP hw
  clear hw
  have H0 := heap_alloc_new w zTok
  rcases Nat.lt_or_ge j l.length with hj | hj
  · have hj' : ((j : Int) == (l.length : Int)) = false := by simp; omega
    have hj2 : (j : Int) < (l.length : Int) := by omega
    have hy := hideP (fun h : l[j].toNat = 34 => show Lx.quote l i = some (⟨4, t, 0, i⟩, j + 1) by rw [HW.out, if_pos (by simp [hj, h])])
    have hn := hideP (fun h : ¬ l[j].toNat = 34 => show Lx.quote l i = none by rw [HW.out, if_neg (by simp [hj, h])])
    clear HW
    have hg : ∀ h, ((⟨l.toArray⟩ : ByteArray)[j]'h).toNat = l[j].toNat := fun _ => rfl
    generalize hx : l[j].toNat = x at *
    simp only [hx] at hg
    go_enter Tryd.func34, Tryd.ntmps34
    go_wp2_with (first
      | (go_at_call 27; refine (E.out _).mono ?_; rintro e w1 ⟨rfl, rfl⟩)
      | (refine wpList_store_all rfl 68 _ _ rfl w.heap.size 4 _ 68 _ rfl rfl H0 rfl rfl iN rfl ?_; intro w4 H4 b4))
    all_goals (try simp only [beq_iff_eq] at *)
    all_goals (try simp only [beq_eq_false_iff_ne] at *)
    all_goals (try simp only [bne_iff_ne] at *)
    all_goals (try simp only [bne_eq_false_iff_eq] at *)
    all_goals refine bodyPost_ret (results_cell_two rfl rfl H4 Tryd.underlying68 rfl (by kernel_rfl)) rfl ⟨?_, below_tok b4⟩
    · rw [hn.out (by omega)]; rfl
    · rw [hy.out (by omega), pres, if_pos (by simp only [hl]; omega)]; rfl
    · rw [hy.out (by omega), pres, if_neg (by simp only [hl]; omega)]; rfl
  · have hj' : ((j : Int) == (l.length : Int)) = true := by simp; omega
    go_enter Tryd.func34, Tryd.ntmps34
    go_wp2_with (first
      | (go_at_call 27; refine (E.out _).mono ?_; rintro e w1 ⟨rfl, rfl⟩)
      | (refine wpList_store_all rfl 68 _ _ rfl w.heap.size 4 _ 68 _ rfl rfl H0 rfl rfl iN rfl ?_; intro w4 H4 b4))
    refine bodyPost_ret (results_cell_two rfl rfl H4 Tryd.underlying68 rfl (by kernel_rfl)) rfl ⟨?_, below_tok b4⟩
    rw [HW.out, List.getElem?_eq_none hj]; rfl

set_option maxRecDepth 100000 in
set_option maxHeartbeats 1000000 in
theorem sign_at (l : List UInt8) (i : Nat) (w : World) (hr : l.length ≤ 281474976710656) (hi : i < l.length) :
    Calls Tryd.prog 35 #[str l, .int .i64 (i : Int)] w fun e w' => e = tokR (pres (Lx.sign l i l[i])) ∧ Below w.heap.size w w' := by
  have hsz := str_size l
  have iN : (Tryd.prog.info? 68).map (·.size) = some 4 := by kernel_rfl
  have hi' : (i : Int) < (l.length : Int) := by omega
  have hg : ∀ h, ((⟨l.toArray⟩ : ByteArray)[i]'h).toNat = l[i].toNat := fun _ => rfl
  have s1 : (⟨l.toArray⟩ : ByteArray).extract i (i + 1) = ⟨[l[i]].toArray⟩ := by
    rw [extract_sub l i (i + 1) hi]
    congr 2
    unfold Lx.sub
    rw [show i + 1 - i = 1 by omega, List.drop_eq_getElem_cons hi, List.take_succ_cons, List.take_zero]
  have H0 := heap_alloc_new w zTok
  have w1 := hideP (fun (h : l[i].toNat = 58 ∧ l[i + 1]?.map (·.toNat) = some 45) => show Lx.sign l i l[i] = some (⟨5, [58, 45], 0, i⟩, i + 2) by unfold Lx.sign; rw [if_pos h])
  have w2 := hideP (fun (h : ¬ (l[i].toNat = 58 ∧ l[i + 1]?.map (·.toNat) = some 45)) (h' : Lx.signs l[i] = true) => show Lx.sign l i l[i] = some (⟨5, [l[i]], 0, i⟩, i + 1) by unfold Lx.sign; rw [if_neg h, if_pos h'])
  have w3 := hideP (fun (h : ¬ (l[i].toNat = 58 ∧ l[i + 1]?.map (·.toNat) = some 45)) (h' : Lx.signs l[i] = false) => show Lx.sign l i l[i] = none by unfold Lx.sign; rw [if_neg h, if_neg (by simp [h'])])
  have hsg : Lx.signs l[i] = (decide (l[i].toNat = 40) || decide (l[i].toNat = 41) || decide (l[i].toNat = 44) || decide (l[i].toNat = 46) || decide (l[i].toNat = 58)) := rfl
  have HSG := hideP hsg
  clear hsg
  rcases Nat.lt_or_ge (i + 1) l.length with hj | hj
  · have hj' : ((i : Int) + 1 < (l.length : Int)) := by omega
    have hg2 : ∀ h, ((⟨l.toArray⟩ : ByteArray)[i + 1]'h).toNat = l[i + 1].toNat := fun _ => rfl
    have hm := hideP (show (l[i + 1]?.map (·.toNat) = some 45) ↔ l[i + 1].toNat = 45 by simp [hj])
    have s2 := hideP (fun (h1 : l[i].toNat = 58) (h2 : l[i + 1].toNat = 45) => show (⟨l.toArray⟩ : ByteArray).extract i (i + 2) = ⟨[58, 45].toArray⟩ by
      rw [extract_sub l i (i + 2) hj]
      congr 2
      unfold Lx.sub
      rw [show i + 2 - i = 2 by omega, List.drop_eq_getElem_cons hi, List.drop_eq_getElem_cons hj, show l[i] = 58 from UInt8.toNat_inj.1 h1, show l[i + 1] = 45 from UInt8.toNat_inj.1 h2, List.take_succ_cons, List.take_succ_cons, List.take_zero])
    go_enter Tryd.func35, Tryd.ntmps35
    go_wp2_with (first
      | (refine wpList_store_all rfl 68 _ _ rfl w.heap.size 4 _ 68 _ rfl rfl H0 rfl rfl iN rfl ?_; intro w4 H4 b4))
    all_goals (try simp only [beq_iff_eq] at *)
    all_goals (try simp only [beq_eq_false_iff_ne] at *)
    all_goals (try simp only [bne_iff_ne] at *)
    all_goals (try simp only [bne_eq_false_iff_eq] at *)
    all_goals refine bodyPost_ret (results_cell_two rfl rfl H4 Tryd.underlying68 rfl (by kernel_rfl)) rfl ⟨?_, below_tok b4⟩
    all_goals first
      | (rw [w2.out (by rw [hm.out]; omega) (by rw [HSG.out]; simp; omega)]; rfl)
      | (rw [w3.out (by rw [hm.out]; omega) (by rw [HSG.out]; simp; omega)]; rfl)
      | (have e2 : (⟨l.toArray⟩ : ByteArray).extract i (i + 1 + 1) = ⟨[58, 45].toArray⟩ := s2.out (by omega) (by omega)
         rw [e2, w1.out ⟨by omega, hm.out.2 (by omega)⟩]; rfl)
  · have hj' : ¬ ((i : Int) + 1 < (l.length : Int)) := by omega
    have hm := hideP (show ¬ (l[i + 1]?.map (·.toNat) = some 45) by simp [hj])
    go_enter Tryd.func35, Tryd.ntmps35
    go_wp2_with (first
      | (refine wpList_store_all rfl 68 _ _ rfl w.heap.size 4 _ 68 _ rfl rfl H0 rfl rfl iN rfl ?_; intro w4 H4 b4))
    all_goals (try simp only [beq_iff_eq] at *)
    all_goals (try simp only [beq_eq_false_iff_ne] at *)
    all_goals refine bodyPost_ret (results_cell_two rfl rfl H4 Tryd.underlying68 rfl (by kernel_rfl)) rfl ⟨?_, below_tok b4⟩
    all_goals first
      | (rw [w2.out (fun h => hm.out h.2) (by rw [HSG.out]; simp; omega)]; rfl)
      | (rw [w3.out (fun h => hm.out h.2) (by rw [HSG.out]; simp; omega)]; rfl)
end Go.Proofs.YtcncmpgababfjaaDoor

/-
  The program's number, token.
-/
namespace Go.Proofs.YtcncmpgababfjaaDoor
open Go.RowKit Go.Lib Go.Shelf

set_option maxRecDepth 100000 in
set_option maxHeartbeats 1000000 in
theorem number_at (l : List UInt8) (i : Nat) (w : World) (hr : l.length ≤ 281474976710656) (hi : i < l.length) (hc : (Lx.digit l[i] || decide (l[i].toNat = 45)) = true) (hL : Laid w) :
    Calls Tryd.prog 33 #[str l, .int .i64 (i : Int)] w fun e w' => e = tokR (pres (Lx.number l i)) ∧ Below w.heap.size w w' := by
  have hsz := str_size l
  have iN : (Tryd.prog.info? 68).map (·.size) = some 4 := by kernel_rfl
  have E := hideP (fun w => endOf_at 32 Lx.digit ldigit_at l (i + 1) w enter_digit hr hi)
  have R1 := Lx.run_le Lx.digit (l := l) (i := i + 1) hi
  have R2 := Lx.le_run Lx.digit l (i + 1)
  obtain ⟨n1, n2⟩ := Lx.number_run hi hc
  have hd := Lx.run_digits l (Lx.first l i)
  have hn : Lx.number l i = (Lx.numOf (Lx.isNeg l i) (Lx.sub l (Lx.first l i) (Lx.run Lx.digit l (Lx.first l i)))).map fun v => (⟨3, [], v, i⟩, Lx.run Lx.digit l (Lx.first l i)) := rfl
  have hs := extract_sub l i (Lx.run Lx.digit l (i + 1)) R1
  have hl := Lx.sub_length (i := i) R1
  rw [n1] at n2 hd hn
  generalize Lx.sub l (Lx.first l i) (Lx.run Lx.digit l (i + 1)) = ds at *
  generalize Lx.isNeg l i = neg at *
  generalize Lx.run Lx.digit l (i + 1) = j at *
  clear n1
  generalize Lx.sub l i j = s at *
  have hls : s.length ≤ 281474976710656 := by omega
  have q0 : (0 : Int) ≤ (i : Int) := by omega
  have q1 : (i : Int) ≤ (j : Int) := by omega
  have q2 : (j : Int) ≤ (l.length : Int) := by omega
  have H0 := heap_alloc_new w zTok
  have B0 := below_alloc w zTok
  have L0 := hL.below B0
  have HN := hideP hn
  have N2 := hideP n2
  have HD := hideP hd
  clear hn n2 hd
  by_cases hok : ∃ v, Lib.atoiAll s = .ok v
  · obtain ⟨v, hv⟩ := hok
    have bd := Lib.atoiAll_bounds hv
    obtain ⟨bd1, bd2⟩ := bd
    have hy := hideP (fun h : itoa v = s => show Lx.number l i = some (⟨3, [], v, i⟩, j) by
      rw [HN.out]
      cases hk : Lx.numOf neg ds with
      | none => exact absurd (h.trans N2.out) (Lx.num_no HD.out hk (by rw [← N2.out]; exact hv))
      | some v' =>
        have := (Lx.num_yes HD.out hk).1
        rw [← N2.out, hv] at this
        cases this; rfl)
    have hn := hideP (fun h : itoa v ≠ s => show Lx.number l i = none by
      rw [HN.out]
      cases hk : Lx.numOf neg ds with
      | none => rfl
      | some v' =>
        obtain ⟨h1, h2⟩ := Lx.num_yes HD.out hk
        rw [← N2.out, hv] at h1
        cases h1
        exact absurd (h2.trans N2.out.symm) h)
    have A := hideP (fun w => atoi_ok s v w hls hv)
    have I := hideP (fun w hL => itoa_at v w bd1 bd2 hL)
    go_enter Tryd.func33, Tryd.ntmps33
    go_wp2_with (first
      | (go_at_call 27; refine (E.out _).mono ?_; rintro e w1 ⟨rfl, rfl⟩)
      | fail)
    refine (A.out _).mono ?_; rintro e w1 ⟨rfl, b1⟩
    have H1 := below_heap b1 H0
    have L1 := (L0.below b1).drew
    have D1 : Below w1.heap.size w1 w1.drew := (Below.refl _ _).drew
    go_wp2_with fail
    go_region_held3 (fun _ => True) (trivial) (first | (go_at_call 46; refine (I.out _ L1).mono ?_; rintro e w2 ⟨rfl, b2⟩))
    all_goals (have H2 := below_heap b2 (below_heap D1 H1))
    all_goals (have B2 : Below w.heap.size w w2 := (Below.then B0 b1).trans ((D1.trans b2).mono (Below.then B0 b1).size))
    all_goals (have z2 := B2.size)
    all_goals go_wp2_with (refine wpList_store_all rfl 68 _ _ rfl w.heap.size 4 _ 68 _ rfl rfl H2 rfl rfl iN rfl ?_; intro w4 H4 b4)
    all_goals refine bodyPost_ret (results_cell_two rfl rfl H4 Tryd.underlying68 rfl (by kernel_rfl)) rfl ⟨?_, B2.trans (b4.lower (Nat.le_refl _) z2)⟩
    all_goals first
      | (rw [hy.out (by simpa using ‹(!itoa v == s) = false›)]; rfl)
      | (rw [hn.out (by simpa using ‹(!itoa v == s) = true›)]; rfl)
  · have A := hideP (fun w hL => atoi_no s w hls hL hok)
    go_enter Tryd.func33, Tryd.ntmps33
    go_wp2_with (first
      | (go_at_call 27; refine (E.out _).mono ?_; rintro e w1 ⟨rfl, rfl⟩)
      | fail)
    refine (A.out _ L0).mono ?_; rintro e w1 ⟨⟨n, N, rfl⟩, b1⟩
    have H1 := below_heap b1 H0
    go_wp2_with fail
    go_quiet (fail)
    have hn := hideP (show Lx.number l i = none by
      rw [HN.out]
      cases hk : Lx.numOf neg ds with
      | none => rfl
      | some v' => exact absurd ⟨v', by rw [N2.out]; exact (Lx.num_yes HD.out hk).1⟩ hok)
    have D1 : Below w1.heap.size w1 (w1.drewN nq) := (Grew.drewN w1 nq).below
    generalize w1.drewN nq = w2 at *
    have H2 := below_heap D1 H1
    have B2 : Below w.heap.size w w2 := (Below.then B0 b1).trans (D1.mono (Below.then B0 b1).size)
    have z2 := B2.size
    go_wp2_with (refine wpList_store_all rfl 68 _ _ rfl w.heap.size 4 _ 68 _ rfl rfl H2 rfl rfl iN rfl ?_; intro w4 H4 b4)
    refine bodyPost_ret (results_cell_two rfl rfl H4 Tryd.underlying68 rfl (by kernel_rfl)) rfl ⟨?_, B2.trans (b4.lower (Nat.le_refl _) z2)⟩
    rw [hn.out]; rfl

theorem tok_open {P : Program} {f : FuncId} {args : Array Value} {w : World} {r : Lx.Tok × Nat × Int} {B : World → Prop} (h : Calls P f args w fun e w' => e = tokR r ∧ B w') :
    Calls P f args w fun e w' => e = .returned (.tuple #[.agg (tokv r.1).toArray, .int .i64 (r.2.1 : Int), .int .i64 r.2.2]) ∧ B w' := h

set_option maxRecDepth 100000 in
set_option maxHeartbeats 1000000 in
theorem token_at (l : List UInt8) (i : Nat) (w : World) (hr : l.length ≤ 281474976710656) (hi : i < l.length) (hL : Laid w) :
    Calls Tryd.prog 24 #[str l, .int .i64 (i : Int)] w fun e w' => e = tokR (pres (Lx.one l i)) ∧ Below w.heap.size w w' := by
  have hsz := str_size l
  have iN : (Tryd.prog.info? 68).map (·.size) = some 4 := by kernel_rfl
  have hi' : (i : Int) < (l.length : Int) := by omega
  have hg : ∀ h, ((⟨l.toArray⟩ : ByteArray)[i]'h).toNat = l[i].toNat := fun _ => rfl
  have H0 := heap_alloc_new w zTok
  have B0 := below_alloc w zTok
  have L0 := hL.below B0
  have ho : Lx.one l i = if Lx.small l[i] = true then Lx.word 1 l i else if Lx.great l[i] = true then Lx.word 2 l i else if (Lx.digit l[i] || decide (l[i].toNat = 45)) = true then Lx.number l i else if l[i].toNat = 34 then Lx.quote l i else Lx.sign l i l[i] := Lx.one_at hi
  have HO := hideP ho
  clear ho
  have W1 := hideP (fun w => word_at 1 l i w hr (Nat.le_of_lt hi))
  have W2 := hideP (fun w => word_at 2 l i w hr (Nat.le_of_lt hi))
  have NU := hideP (fun w hc hL => number_at l i w hr hi hc hL)
  have QU := hideP (fun w => quotation_at l i w hr hi)
  have SI := hideP (fun w => sign_at l i w hr hi)
  have C1 := hideP (lsmall_at l[i])
  have C2 := hideP (lgreat_at l[i])
  have C3 := hideP (ldigit_at l[i])
  have hnd : ∀ r, (Lx.digit l[i] || decide (l[i].toNat = 45)) = r → (Lx.digit l[i] = true ∨ l[i].toNat = 45 ↔ r = true) := fun r h => by subst h; simp
  have HND := hideP hnd
  clear hnd
  generalize Lx.small l[i] = s1 at *
  generalize Lx.great l[i] = s2 at *
  generalize Lx.digit l[i] = s3 at *
  generalize Lx.sign l i l[i] = rs at *
  generalize Lx.quote l i = rq at *
  generalize Lx.word 1 l i = r1 at *
  generalize Lx.word 2 l i = r2 at *
  generalize Lx.number l i = rn at *
  generalize hx : l[i].toNat = x at *
  simp only [hx] at hg
  go_enter Tryd.func24, Tryd.ntmps24
  go_wp2_with (first
    | (go_at_call 29; refine (C1.out _).mono ?_; rintro e w1 ⟨rfl, rfl⟩)
    | (go_at_call 31; refine (C2.out _).mono ?_; rintro e w1 ⟨rfl, rfl⟩)
    | (go_at_call 32; refine (C3.out _).mono ?_; rintro e w1 ⟨rfl, rfl⟩)
    | (go_at_call_of 30 (Value.int .i64 1); refine (tok_open (W1.out _)).mono ?_; rintro e w1 ⟨rfl, b1⟩; have H1 := below_heap b1 H0)
    | (go_at_call_of 30 (Value.int .i64 2); refine (tok_open (W2.out _)).mono ?_; rintro e w1 ⟨rfl, b1⟩; have H1 := below_heap b1 H0)
    | (go_at_call 33; refine (tok_open (NU.out _ (by rw [← (HND.out _ rfl)]; first | (left; assumption) | (right; simp_all; done) | (right; simp_all; omega)) L0)).mono ?_; rintro e w1 ⟨rfl, b1⟩; have H1 := below_heap b1 H0)
    | (go_at_call 34; refine (tok_open (QU.out _)).mono ?_; rintro e w1 ⟨rfl, b1⟩; have H1 := below_heap b1 H0)
    | (go_at_call 35; refine (tok_open (SI.out _)).mono ?_; rintro e w1 ⟨rfl, b1⟩; have H1 := below_heap b1 H0)
    | (refine wpList_store_all rfl 68 _ _ rfl w.heap.size 4 _ 68 _ rfl rfl H1 rfl rfl iN rfl ?_; intro w4 H4 b4))
  all_goals (have B1 := Below.then B0 b1)
  all_goals refine bodyPost_ret (results_cell_two rfl rfl H4 Tryd.underlying68 rfl (by kernel_rfl)) rfl ⟨?_, B1.trans (b4.lower (Nat.le_refl _) B1.size)⟩
  all_goals rw [HO.out]
  all_goals (repeat' split)
  all_goals first | rfl | (exfalso; simp_all; done) | (exfalso; simp_all; omega)
end Go.Proofs.YtcncmpgababfjaaDoor
