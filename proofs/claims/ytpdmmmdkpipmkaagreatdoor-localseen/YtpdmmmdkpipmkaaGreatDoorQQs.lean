/-
  The program's quotation and sign.
-/
import Derived.Test.YtpdmmmdkpipmkaaGreatDoorQMm8
namespace Go.Proofs.YtpdmmmdkpipmkaaGreatDoor
open Go.RowKit Go.Lib Go.Shelf

set_option maxRecDepth 100000 in
set_option maxHeartbeats 1000000 in
theorem quotation_at (l : List UInt8) (i : Nat) (w : World) (hr : l.length ≤ 281474976710656) (hi : i < l.length) :
    Calls Tryz.prog 111 #[str l, .int .i64 (i : Int)] w fun e w' => e = tokR (pres (Lx.quote l i)) ∧ Below w.heap.size w w' := by
  have hsz := str_size l
  have iN : (Tryz.prog.info? 121).map (·.size) = some 4 := by kernel_rfl
  have E := hideP (fun w => endOf_at 155 Lx.plain lplain_at l (i + 1) w enter_quot1 hr hi)
  have R1 := Lx.run_le Lx.plain (l := l) (i := i + 1) hi
  have R2 := Lx.le_run Lx.plain l (i + 1)
  have hw : Lx.quote l i = if l[Lx.run Lx.plain l (i + 1)]?.map (·.toNat) = some 34 then some (⟨4, Lx.sub l (i + 1) (Lx.run Lx.plain l (i + 1)), 0, i⟩, Lx.run Lx.plain l (i + 1) + 1) else none := rfl
  have hs := extract_sub l (i + 1) (Lx.run Lx.plain l (i + 1)) R1
  have hl := Lx.sub_length (i := i + 1) R1
  have hl2 := str_size (Lx.sub l (i + 1) (Lx.run Lx.plain l (i + 1)))
  generalize Lx.run Lx.plain l (i + 1) = j at *
  generalize Lx.sub l (i + 1) j = t at *
  have HW := hideP hw
  clear hw
  have H0 := heap_alloc_new w zTok
  rcases Nat.lt_or_ge j l.length with hj | hj
  · have hj' : ((j : Int) == (l.length : Int)) = false := by simp; omega
    have hj2 : (j : Int) < (l.length : Int) := by omega
    have hy := hideP (fun h : l[j].toNat = 34 => show Lx.quote l i = some (⟨4, t, 0, i⟩, j + 1) by rw [HW.out, if_pos (by simp [hj, h])])
    have hn := hideP (fun h : ¬ l[j].toNat = 34 => show Lx.quote l i = none by rw [HW.out, if_neg (by simp [hj, h])])
    clear HW
    have hg : ∀ h, ((⟨l.toArray⟩ : ByteArray)[j]'h).toNat = l[j].toNat := fun _ => rfl
    generalize hx : l[j].toNat = x at *
    simp only [hx] at hg
    go_enter Tryz.func111, Tryz.ntmps111
    go_wp2_with (first
      | (go_at_call 104; refine (E.out _).mono ?_; rintro e w1 ⟨rfl, rfl⟩)
      | (refine wpList_store_all rfl 121 _ _ rfl w.heap.size 4 _ 121 _ rfl rfl H0 rfl rfl iN rfl ?_; intro w4 H4 b4))
    all_goals (try simp only [beq_iff_eq] at *)
    all_goals (try simp only [beq_eq_false_iff_ne] at *)
    all_goals (try simp only [bne_iff_ne] at *)
    all_goals (try simp only [bne_eq_false_iff_eq] at *)
    all_goals refine bodyPost_ret (results_cell_two rfl rfl H4 Tryz.underlying121 rfl (by kernel_rfl)) rfl ⟨?_, below_tok b4⟩
    · rw [hn.out (by omega)]; rfl
    · rw [hy.out (by omega), pres, if_pos (by simp only [hl]; omega)]; rfl
    · rw [hy.out (by omega), pres, if_neg (by simp only [hl]; omega)]; rfl
  · have hj' : ((j : Int) == (l.length : Int)) = true := by simp; omega
    go_enter Tryz.func111, Tryz.ntmps111
    go_wp2_with (first
      | (go_at_call 104; refine (E.out _).mono ?_; rintro e w1 ⟨rfl, rfl⟩)
      | (refine wpList_store_all rfl 121 _ _ rfl w.heap.size 4 _ 121 _ rfl rfl H0 rfl rfl iN rfl ?_; intro w4 H4 b4))
    refine bodyPost_ret (results_cell_two rfl rfl H4 Tryz.underlying121 rfl (by kernel_rfl)) rfl ⟨?_, below_tok b4⟩
    rw [HW.out, List.getElem?_eq_none hj]; rfl

set_option maxRecDepth 100000 in
set_option maxHeartbeats 1000000 in
theorem sign_at (l : List UInt8) (i : Nat) (w : World) (hr : l.length ≤ 281474976710656) (hi : i < l.length) :
    Calls Tryz.prog 112 #[str l, .int .i64 (i : Int)] w fun e w' => e = tokR (pres (Lx.sign l i l[i])) ∧ Below w.heap.size w w' := by
  have hsz := str_size l
  have iN : (Tryz.prog.info? 121).map (·.size) = some 4 := by kernel_rfl
  have hi' : (i : Int) < (l.length : Int) := by omega
  have hg : ∀ h, ((⟨l.toArray⟩ : ByteArray)[i]'h).toNat = l[i].toNat := fun _ => rfl
  have s1 : (⟨l.toArray⟩ : ByteArray).extract i (i + 1) = ⟨[l[i]].toArray⟩ := by
    rw [extract_sub l i (i + 1) hi]
    congr 2
    unfold Lx.sub
    rw [show i + 1 - i = 1 by omega, List.drop_eq_getElem_cons hi, List.take_succ_cons, List.take_zero]
  have H0 := heap_alloc_new w zTok
  have w1 := hideP (fun (h : l[i].toNat = 58 ∧ l[i + 1]?.map (·.toNat) = some 45) => show Lx.sign l i l[i] = some (⟨5, [58, 45], 0, i⟩, i + 2) by unfold Lx.sign; rw [if_pos h])
  have w2 := hideP (fun (h : ¬ (l[i].toNat = 58 ∧ l[i + 1]?.map (·.toNat) = some 45)) (h' : Lx.signs l[i] = true) => show Lx.sign l i l[i] = some (⟨5, [l[i]], 0, i⟩, i + 1) by unfold Lx.sign; rw [if_neg h, if_pos h'])
  have w3 := hideP (fun (h : ¬ (l[i].toNat = 58 ∧ l[i + 1]?.map (·.toNat) = some 45)) (h' : Lx.signs l[i] = false) => show Lx.sign l i l[i] = none by unfold Lx.sign; rw [if_neg h, if_neg (by simp [h'])])
  have hsg : Lx.signs l[i] = (decide (l[i].toNat = 40) || decide (l[i].toNat = 41) || decide (l[i].toNat = 44) || decide (l[i].toNat = 46) || decide (l[i].toNat = 58)) := rfl
  have HSG := hideP hsg
  clear hsg
  rcases Nat.lt_or_ge (i + 1) l.length with hj | hj
  · have hj' : ((i : Int) + 1 < (l.length : Int)) := by omega
    have hg2 : ∀ h, ((⟨l.toArray⟩ : ByteArray)[i + 1]'h).toNat = l[i + 1].toNat := fun _ => rfl
    have hm := hideP (show (l[i + 1]?.map (·.toNat) = some 45) ↔ l[i + 1].toNat = 45 by simp [hj])
    have s2 := hideP (fun (h1 : l[i].toNat = 58) (h2 : l[i + 1].toNat = 45) => show (⟨l.toArray⟩ : ByteArray).extract i (i + 2) = ⟨[58, 45].toArray⟩ by
      rw [extract_sub l i (i + 2) hj]
      congr 2
      unfold Lx.sub
      rw [show i + 2 - i = 2 by omega, List.drop_eq_getElem_cons hi, List.drop_eq_getElem_cons hj, show l[i] = 58 from UInt8.toNat_inj.1 h1, show l[i + 1] = 45 from UInt8.toNat_inj.1 h2, List.take_succ_cons, List.take_succ_cons, List.take_zero])
    go_enter Tryz.func112, Tryz.ntmps112
    go_wp2_with (first
      | (refine wpList_store_all rfl 121 _ _ rfl w.heap.size 4 _ 121 _ rfl rfl H0 rfl rfl iN rfl ?_; intro w4 H4 b4))
    all_goals (try simp only [beq_iff_eq] at *)
    all_goals (try simp only [beq_eq_false_iff_ne] at *)
    all_goals (try simp only [bne_iff_ne] at *)
    all_goals (try simp only [bne_eq_false_iff_eq] at *)
    all_goals refine bodyPost_ret (results_cell_two rfl rfl H4 Tryz.underlying121 rfl (by kernel_rfl)) rfl ⟨?_, below_tok b4⟩
    all_goals first
      | (rw [w2.out (by rw [hm.out]; omega) (by rw [HSG.out]; simp; omega)]; rfl)
      | (rw [w3.out (by rw [hm.out]; omega) (by rw [HSG.out]; simp; omega)]; rfl)
      | (have e2 : (⟨l.toArray⟩ : ByteArray).extract i (i + 1 + 1) = ⟨[58, 45].toArray⟩ := s2.out (by omega) (by omega)
         rw [e2, w1.out ⟨by omega, hm.out.2 (by omega)⟩]; rfl)
  · have hj' : ¬ ((i : Int) + 1 < (l.length : Int)) := by omega
    have hm := hideP (show ¬ (l[i + 1]?.map (·.toNat) = some 45) by simp [hj])
    go_enter Tryz.func112, Tryz.ntmps112
    go_wp2_with (first
      | (refine wpList_store_all rfl 121 _ _ rfl w.heap.size 4 _ 121 _ rfl rfl H0 rfl rfl iN rfl ?_; intro w4 H4 b4))
    all_goals (try simp only [beq_iff_eq] at *)
    all_goals (try simp only [beq_eq_false_iff_ne] at *)
    all_goals refine bodyPost_ret (results_cell_two rfl rfl H4 Tryz.underlying121 rfl (by kernel_rfl)) rfl ⟨?_, below_tok b4⟩
    all_goals first
      | (rw [w2.out (fun h => hm.out h.2) (by rw [HSG.out]; simp; omega)]; rfl)
      | (rw [w3.out (fun h => hm.out h.2) (by rw [HSG.out]; simp; omega)]; rfl)
end Go.Proofs.YtpdmmmdkpipmkaaGreatDoor
