/-
  The reference's One at a sign; One wherever.
-/
import Derived.Test.YtcjfdackhgaigaaDoorROr
namespace Go.Proofs.YtcjfdackhgaigaaDoor
open Go.RowKit Go.Lib Go.Shelf

set_option maxRecDepth 100000 in
set_option maxHeartbeats 4000000 in
theorem rone_sign (l : List UInt8) (i : Nat) (w : World) (hr : l.length ≤ 281474976710656) (hi : i < l.length) (h1 : Lx.small l[i] = false) (h2 : Lx.great l[i] = false) (h3 : Lx.digit l[i] = false) (h4 : l[i].toNat ≠ 34) (h5 : l[i].toNat ≠ 45) :
    Calls Tryd.prog 22 #[str l, .int .i64 (i : Int)] w fun e w' => e = tokQ (rres (Lx.sign l i l[i])) ∧ Below w.heap.size w w' := by
  have hsz := str_size l
  have hi' : (i : Int) < (l.length : Int) := by omega
  have iN : (Tryd.prog.info? 35).map (·.size) = some 4 := by kernel_rfl
  have hg : ∀ h, ((⟨l.toArray⟩ : ByteArray)[i]'h).toNat = l[i].toNat := fun _ => rfl
  have H0 := heap_alloc_new w zTok
  have C1 := rsmall_at l[i]
  have C2 := rgreat_at l[i]
  have C3 := rdigit_at l[i]
  rw [h1] at C1
  rw [h2] at C2
  rw [h3] at C3
  have D1 := hideP C1
  have D2 := hideP C2
  have D3 := hideP C3
  have q4 : ((l[i].toNat : Int) == 34) = false := by simp; omega
  have q5 : ((l[i].toNat : Int) == 45) = false := by simp; omega
  have s1 : (⟨l.toArray⟩ : ByteArray).extract i (i + 1) = ⟨[l[i]].toArray⟩ := by
    rw [extract_sub l i (i + 1) hi]
    congr 2
    unfold Lx.sub
    rw [show i + 1 - i = 1 by omega, List.drop_eq_getElem_cons hi, List.take_succ_cons, List.take_zero]
  have w1 := hideP (fun (h : l[i].toNat = 58 ∧ l[i + 1]?.map (·.toNat) = some 45) => show Lx.sign l i l[i] = some (⟨5, [58, 45], 0, i⟩, i + 2) by unfold Lx.sign; rw [if_pos h])
  have w2 := hideP (fun (h : ¬ (l[i].toNat = 58 ∧ l[i + 1]?.map (·.toNat) = some 45)) (h' : Lx.signs l[i] = true) => show Lx.sign l i l[i] = some (⟨5, [l[i]], 0, i⟩, i + 1) by unfold Lx.sign; rw [if_neg h, if_pos h'])
  have w3 := hideP (fun (h : ¬ (l[i].toNat = 58 ∧ l[i + 1]?.map (·.toNat) = some 45)) (h' : Lx.signs l[i] = false) => show Lx.sign l i l[i] = none by unfold Lx.sign; rw [if_neg h, if_neg (by simp [h'])])
  have hsg : Lx.signs l[i] = (decide (l[i].toNat = 40) || decide (l[i].toNat = 41) || decide (l[i].toNat = 44) || decide (l[i].toNat = 46) || decide (l[i].toNat = 58)) := rfl
  have HSG := hideP hsg
  clear hsg C1 C2 C3 h1 h2 h3 h4 h5
  rcases Nat.lt_or_ge (i + 1) l.length with hj | hj
  · have hj' : ((i : Int) + 1 < (l.length : Int)) := by omega
    have hg2 : ∀ h, ((⟨l.toArray⟩ : ByteArray)[i + 1]'h).toNat = l[i + 1].toNat := fun _ => rfl
    have hm := hideP (show (l[i + 1]?.map (·.toNat) = some 45) ↔ l[i + 1].toNat = 45 by simp [hj])
    go_enter Tryd.func22, Tryd.ntmps22
    go_wp2_with (first
      | (go_at_call 37; refine (D1.out _).mono ?_; rintro e w1 ⟨rfl, rfl⟩)
      | (go_at_call 38; refine (D2.out _).mono ?_; rintro e w1 ⟨rfl, rfl⟩)
      | (go_at_call 40; refine (D3.out _).mono ?_; rintro e w1 ⟨rfl, rfl⟩)
      | (refine wpList_store_all rfl 35 _ _ rfl w.heap.size 4 _ 35 _ rfl rfl H0 rfl rfl iN rfl ?_; intro w4 H4 b4))
    all_goals (try simp only [beq_iff_eq] at *)
    all_goals (try simp only [beq_eq_false_iff_ne] at *)
    all_goals refine bodyPost_ret (results_cell_one rfl rfl H4 Tryd.underlying35 rfl (by kernel_rfl)) rfl ⟨?_, below_tok b4⟩
    all_goals first
      | (rw [w2.out (by rw [hm.out]; omega) (by rw [HSG.out]; simp; omega)]; rfl)
      | (rw [w3.out (by rw [hm.out]; omega) (by rw [HSG.out]; simp; omega)]; rfl)
      | (rw [w1.out ⟨by omega, hm.out.2 (by omega)⟩]; rfl)
  · have hj' : ¬ ((i : Int) + 1 < (l.length : Int)) := by omega
    have hm := hideP (show ¬ (l[i + 1]?.map (·.toNat) = some 45) by simp [hj])
    go_enter Tryd.func22, Tryd.ntmps22
    go_wp2_with (first
      | (go_at_call 37; refine (D1.out _).mono ?_; rintro e w1 ⟨rfl, rfl⟩)
      | (go_at_call 38; refine (D2.out _).mono ?_; rintro e w1 ⟨rfl, rfl⟩)
      | (go_at_call 40; refine (D3.out _).mono ?_; rintro e w1 ⟨rfl, rfl⟩)
      | (refine wpList_store_all rfl 35 _ _ rfl w.heap.size 4 _ 35 _ rfl rfl H0 rfl rfl iN rfl ?_; intro w4 H4 b4))
    all_goals (try simp only [beq_iff_eq] at *)
    all_goals (try simp only [beq_eq_false_iff_ne] at *)
    all_goals refine bodyPost_ret (results_cell_one rfl rfl H4 Tryd.underlying35 rfl (by kernel_rfl)) rfl ⟨?_, below_tok b4⟩
    all_goals first
      | (rw [w2.out (fun h => hm.out h.2) (by rw [HSG.out]; simp; omega)]; rfl)
      | (rw [w3.out (fun h => hm.out h.2) (by rw [HSG.out]; simp; omega)]; rfl)

theorem rone_at (l : List UInt8) (i : Nat) (w : World) (hr : l.length ≤ 281474976710656) (hi : i < l.length) :
    Calls Tryd.prog 22 #[str l, .int .i64 (i : Int)] w fun e w' => e = tokQ (rres (Lx.one l i)) ∧ Below w.heap.size w w' := by
  rw [Lx.one_at hi]
  unfold Lx.oneC
  split
  · rename_i h1
    refine rone_small l i w hr hi h1 ?_
    simp only [Lx.small, Lx.great, Bool.and_eq_true, decide_eq_true_eq, Bool.and_eq_false_iff, decide_eq_false_iff_not] at *; omega
  rename_i h1
  rw [Bool.not_eq_true] at h1
  split
  · rename_i h2; exact rone_great l i w hr hi h1 h2
  rename_i h2
  rw [Bool.not_eq_true] at h2
  split
  · rename_i h3; exact rone_num l i w hr hi h1 h2 h3
  rename_i h3
  simp only [Bool.or_eq_true, not_or, Bool.not_eq_true, decide_eq_true_eq] at h3
  split
  · rename_i h4; exact rone_quote l i w hr hi h1 h2 h3.1 h4
  · rename_i h4; exact rone_sign l i w hr hi h1 h2 h3.1 h4 h3.2
end Go.Proofs.YtcjfdackhgaigaaDoor
