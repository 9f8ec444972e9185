/-
  Take: a fact less.
-/
import Derived.Test.YtomiefhfkdfgbaaPu15
namespace Go.Proofs.Ytomiefhfkdfgbaa
open Go.RowKit Go.Sort

theorem take_cut {l : List F} (hs : SS l) (i : Nat) (hi : i < l.length) (f : F) (hf : l[i] = f) : Tb.take l f = l.take i ++ l.drop (i + 1) := by
  have e : l = l.take i ++ f :: l.drop (i + 1) := by
    rw [← hf, List.getElem_cons_drop, List.take_append_drop]
  have hs2 := hs
  rw [e] at hs2
  obtain ⟨h1, h2, h3⟩ := List.pairwise_append.1 hs2
  have h4 := (List.pairwise_cons.1 h2).1
  unfold Tb.take
  conv => lhs; rw [e]
  rw [List.filter_append, List.filter_cons]
  have a1 : (l.take i).filter (fun x => decide (cF x f ≠ 0)) = l.take i := List.filter_eq_self.2 (fun x hx => by
    have := h3 x hx f (List.mem_cons_self ..)
    exact decide_eq_true (by omega))
  have a2 : (l.drop (i + 1)).filter (fun x => decide (cF x f ≠ 0)) = l.drop (i + 1) := List.filter_eq_self.2 (fun x hx => by
    have := h4 x hx
    refine decide_eq_true (fun h0 => ?_)
    rw [(cF_zero _ _).1 h0, cF_self] at this
    omega)
  rw [a1, a2, cF_self]
  rfl
theorem take_none {l : List F} {f : F} (h : f ∉ l) : Tb.take l f = l := by
  unfold Tb.take
  exact List.filter_eq_self.2 fun x hx => decide_eq_true fun h0 => h (by rw [← (cF_zero _ _).1 h0]; exact hx)

set_option maxRecDepth 100000 in
set_option maxHeartbeats 4000000 in
theorem take_full {b m : Nat} {a : Option Addr} {cap : Nat} {ps : List Pn} (x : Fv) (w : World) (h : TabAt w b m a cap ps) (hx : Fv.At w x) :
    Calls Try.prog 14 #[ptr b, x.val] w fun e w' => e = .returned (.int .i64 (if hasF (ps.map Pn.f) x.f = true then 0 else 152)) ∧ (∃ a' cap' ps', TabAt w' b m a' cap' ps' ∧ ps'.map Pn.f = Tb.take (ps.map Pn.f) x.f ∧ ∀ p ∈ ps', p ∈ ps) ∧ Did b w w' := by
  have iF : (Try.prog.info? 34).map (·.size) = some 4 := by kernel_rfl
  have iS : (Try.prog.info? 64).map (·.size) = some 1 := by kernel_rfl
  have TF := Try.underlying34
  have hm : (0 : Int) < (m : Int) := by have := h.low; omega
  have A1 := below_alloc w (.cells #[str x.at_, str x.by_, str x.pred, .slice x.a x.ks.length x.cap] 34)
  have H1 := heap_alloc_new w (.cells #[str x.at_, str x.by_, str x.pred, .slice x.a x.ks.length x.cap] 34)
  have T1 := h.below A1
  have X1 : Fv.At (w.alloc (.cells #[str x.at_, str x.by_, str x.pred, .slice x.a x.ks.length x.cap] 34)) x := hx.below A1 (Nat.le_refl _)
  have HC := h.cell
  obtain ⟨E, hEE⟩ : ∃ E : Int, E = (if hasF (ps.map Pn.f) x.f = true then 0 else 152) := ⟨_, rfl⟩
  obtain ⟨PP, hPP⟩ : ∃ PP, PP = Tb.take (ps.map Pn.f) x.f := ⟨_, rfl⟩
  rw [← hEE, ← hPP]
  have HEE := hideP hEE
  have HPP := hideP hPP
  clear hEE hPP
  go_enter Try.func14, Try.ntmps14
  go_wp2_with fail
  generalize hW1 : w.alloc (.cells #[str x.at_, str x.by_, str x.pred, .slice x.a x.ks.length x.cap] 34) = W1 at *
  clear hW1
  refine (fromNew_at b m _ W1 T1.cell).mono ?_
  rintro e W2 ⟨rfl, rfl⟩
  rw [decide_eq_true hm]
  go_wp2_with (refine wpList_load_all rfl 34 _ rfl w.heap.size 4 34 (fv x) _ rfl H1 rfl TF rfl iF ?_)
  refine (find_at x _ T1 X1).mono ?_
  rintro e W3 ⟨⟨i, rfl, hi, hlo, hhi⟩, G3⟩
  have T3 := T1.below G3.below
  have C3 := Below.then A1 G3.below
  have hsort := T3.sorted
  have HF := found_iff T3.sorted x.f i (by rw [List.length_map]; exact hi) (fun k hk hki => by rw [List.getElem_map]; exact hlo k (by simpa using hk) hki) (fun k hk hki => by rw [List.getElem_map]; exact hhi k (by simpa using hk) hki)
  clear T1 X1 H1 A1 G3 hlo hhi
  cases hhas : hasF (ps.map Pn.f) x.f
  · have hnm : x.f ∉ ps.map Pn.f := fun hm => by rw [(hasF_iff _ _).2 hm] at hhas; cases hhas
    obtain rfl := HEE.out.trans (if_neg (by rw [hhas]; decide))
    obtain rfl := HPP.out.trans (take_none hnm)
    clear HF hnm
    go_wp2_with fail
    go_ret
    exact ⟨rfl, ⟨a, cap, ps, T3, rfl, fun p hp => hp⟩, Did.same C3 HC⟩
  · have hmem := (hasF_iff _ _).1 hhas
    rw [hhas] at HF
    have hil : i < ps.length := by
      by_cases h : i < (ps.map Pn.f).length
      · simpa using h
      · rw [dif_neg h] at HF; cases HF
    have hfi : (ps.map Pn.f)[i]'(by simpa using hil) = x.f := by
      rw [dif_pos (by simpa using hil)] at HF
      exact (cF_zero _ _).1 (of_decide_eq_true HF.symm)
    obtain rfl := HEE.out.trans (if_pos hhas)
    have HP := hideP (HPP.out.trans (take_cut hsort i (by simpa using hil) x.f hfi))
    clear HF hhas hmem hfi hi
    go_wp2_with fail
    refine wp_region_held (S := fun _ => True) (by kernel_rfl) ?_
    change wpAnyH _ _ _ _ _ _ _ _ W3.drew
    have D5 : Below W3.heap.size W3 W3.drew := (Below.refl _ _).drew
    have T6 := T3.below D5
    have C6 := Below.then C3 D5
    clear T3 C3 D5
    generalize W3.drew = W6 at *
    have hap := T6.lst.row.row.room
    have hfew := T6.high
    have hrm := T6.room
    have hwr : IntKind.i64.wrap ((i : Int) + 1) = ((i + 1 : Nat) : Int) := by rw [IntKind.wrap_i64]; omega
    have cS : ∀ X, Below W6.heap.size W6 X → X.cell? ⟨b, 1, none⟩ = some (.slice a ps.length cap) := fun X hX => by rw [heap_cell (below_heap hX T6.cell)]; rfl
    have hHeld := Below.refl W6.heap.size W6
    refine wpAnyH_take (i := 0) (v := ptr b) rfl (by kernel_rfl) (by kernel_rfl) (by kernel_rfl) (fun _ _ _ h => h) (Or.inl ⟨by kernel_rfl, fun w hSw => by kernel_rfl⟩) trivial ?_
    refine wpAnyH_take (i := 1) (v := ptr b) rfl (by kernel_rfl) (by kernel_rfl) (by kernel_rfl) (fun _ _ _ h => h) (Or.inl ⟨by kernel_rfl, fun w hSw => by kernel_rfl⟩) trivial ?_
    refine wpAnyH_take (i := 2) (v := ptr b) rfl (by kernel_rfl) (by kernel_rfl) (by kernel_rfl) (fun _ _ _ h => h) (Or.inl ⟨by kernel_rfl, fun w hSw => by kernel_rfl⟩) trivial ?_
    refine wpAnyH_take (i := 3) (v := .pointer (some ⟨b, 1, none⟩)) rfl (by kernel_rfl) (by kernel_rfl) (by kernel_rfl) (fun _ _ _ h => h) (Or.inl ⟨by kernel_rfl, fun w hSw => by kernel_rfl⟩) trivial ?_
    refine wpAnyH_take (i := 5) (v := .int .i64 (i : Int)) rfl (by kernel_rfl) (by kernel_rfl) (by kernel_rfl) (fun _ _ _ h => h) (Or.inl ⟨by kernel_rfl, fun w hSw => by kernel_rfl⟩) trivial ?_
    refine wpAnyH_take (i := 7) (v := ptr b) rfl (by kernel_rfl) (by kernel_rfl) (by kernel_rfl) (fun _ _ _ h => h) (Or.inl ⟨by kernel_rfl, fun w hSw => by kernel_rfl⟩) trivial ?_
    refine wpAnyH_take (i := 8) (v := ptr b) rfl (by kernel_rfl) (by kernel_rfl) (by kernel_rfl) (fun _ _ _ h => h) (Or.inl ⟨by kernel_rfl, fun w hSw => by kernel_rfl⟩) trivial ?_
    refine wpAnyH_take (i := 9) (v := .pointer (some ⟨b, 1, none⟩)) rfl (by kernel_rfl) (by kernel_rfl) (by kernel_rfl) (fun _ _ _ h => h) (Or.inl ⟨by kernel_rfl, fun w hSw => by kernel_rfl⟩) trivial ?_
    refine wpAnyH_take (i := 11) (v := .int .i64 (i : Int)) rfl (by kernel_rfl) (by kernel_rfl) (by kernel_rfl) (fun _ _ _ h => h) (Or.inl ⟨by kernel_rfl, fun w hSw => by kernel_rfl⟩) trivial ?_
    refine wpAnyH_take (i := 12) (v := .int .i64 ((i + 1 : Nat) : Int)) rfl (by kernel_rfl) (by kernel_rfl) (by kernel_rfl) (fun _ _ _ h => h) (Or.inl ⟨by kernel_rfl, fun w hSw => exec_add 3 (.tmp 29) (.const (.int .i64 1)) (by kernel_rfl) (by kernel_rfl) (by kernel_rfl) hwr⟩) trivial ?_
    refine Sb.each (fun _ X X' => Below X.heap.size X X') (fun _ _ => true) (fun X => Below W6.heap.size W6 X) (fun _ X X' h b => Below.then h b) [4, 6, 10, 13] (fun | 4 => 22 | 6 => 24 | 10 => 28 | _ => 31) (fun | 6 => [4] | 13 => [10] | _ => []) (fun | 6 => ListV a cap i | 13 => ListV (cutT 1 a cap (i + 1)) (cap - (i + 1)) (ps.length - (i + 1)) | _ => ListV a cap ps.length) 5 _ _ (by kernel_rfl) (by kernel_rfl) (by kernel_rfl) ?st ?op ?fin W6 trivial hHeld
    case st =>
      intro j _ _ v X X' hR hb
      match j with
      | 6 => exact hR
      | 13 => exact hR
      | 0 | 1 | 2 | 3 | 4 | 5 | 7 | 8 | 9 | 10 | 11 | 12 | _ + 14 => exact hR
    case op =>
      intro j hj o ho g X _ hG hdone
      simp only [List.mem_cons, List.not_mem_nil, or_false] at hj
      rcases hj with rfl | rfl | rfl | rfl
      · have ho' := Option.some.inj ho
        have hop : o.op = .load 64 (.tmp 21) := (congrArg Oper.op ho').symm.trans (by kernel_rfl)
        have hod : o.dst = some 22 := (congrArg Oper.dst ho').symm.trans (by kernel_rfl)
        clear ho ho'
        refine Sb.val (.slice a ps.length cap) (w' := X) (exec_load_cel 64 _ hop b 1 _ (by kernel_rfl) Try.isAgg64 (cS X hG)) ?_
        rw [hod]
        exact ⟨_, rfl, trivial, Below.refl _ _, rfl⟩
      · have ho' := Option.some.inj ho
        have hop : o.op = .slice 64 (.tmp 22) none (some (.tmp 23)) none := (congrArg Oper.op ho').symm.trans (by kernel_rfl)
        have hod : o.dst = some 24 := (congrArg Oper.dst ho').symm.trans (by kernel_rfl)
        clear ho ho'
        have e4 : g 4 = .slice a ps.length cap := hdone 4 (by decide) (fun _ _ _ _ => rfl)
        simp only [List.foldl_cons, List.foldl_nil]
        rw [e4]
        refine Sb.val (.slice a i cap) (w' := X) (exec_slice 64 _ _ _ none (some (.int .i64 (i : Int))) hop (by kernel_rfl) (by kernel_rfl) (by kernel_rfl) (run_head a ps.length cap i X (by omega))) ?_
        rw [hod]
        exact ⟨_, rfl, trivial, Below.refl _ _, rfl⟩
      · have ho' := Option.some.inj ho
        have hop : o.op = .load 64 (.tmp 27) := (congrArg Oper.op ho').symm.trans (by kernel_rfl)
        have hod : o.dst = some 28 := (congrArg Oper.dst ho').symm.trans (by kernel_rfl)
        clear ho ho'
        refine Sb.val (.slice a ps.length cap) (w' := X) (exec_load_cel 64 _ hop b 1 _ (by kernel_rfl) Try.isAgg64 (cS X hG)) ?_
        rw [hod]
        exact ⟨_, rfl, trivial, Below.refl _ _, rfl⟩
      · have ho' := Option.some.inj ho
        have hop : o.op = .slice 64 (.tmp 28) (some (.tmp 30)) none none := (congrArg Oper.op ho').symm.trans (by kernel_rfl)
        have hod : o.dst = some 31 := (congrArg Oper.dst ho').symm.trans (by kernel_rfl)
        clear ho ho'
        have e4 : g 10 = .slice a ps.length cap := hdone 10 (by decide) (fun _ _ _ _ => rfl)
        simp only [List.foldl_cons, List.foldl_nil]
        rw [e4]
        refine Sb.val (.slice (cutT 1 a cap (i + 1)) (ps.length - (i + 1)) (cap - (i + 1))) (w' := X) (exec_slice 64 _ _ _ (some (.int .i64 ((i + 1 : Nat) : Int))) none hop (by kernel_rfl) (by kernel_rfl) (by kernel_rfl) (run_tail a ps.length cap (i + 1) X hil)) ?_
        rw [hod]
        exact ⟨_, rfl, trivial, Below.refl _ _, rfl⟩
    case fin =>
      intro g X _ hG hg
      have e4 : g 4 = .slice a ps.length cap := hg 4 (by decide) (fun _ _ _ => rfl)
      have e10 : g 10 = .slice a ps.length cap := hg 10 (by decide) (fun _ _ _ => rfl)
      have e6 : g 6 = .slice a i cap := hg 6 (by decide) (fun _ _ _ => rfl)
      have e13 : g 13 = .slice (cutT 1 a cap (i + 1)) (ps.length - (i + 1)) (cap - (i + 1)) := hg 13 (by decide) (fun _ _ _ => rfl)
      simp only [List.foldl_cons, List.foldl_nil]
      rw [e4, e6, e10, e13]
      clear hg e4 e10 e6 e13 g
      have RX := (T6.below hG).lst.row.row
      have R1 : Row pnK X a cap (ps.take i) := RX.cutH i (by omega)
      have R3 : Row pnK X (cutT 1 a cap (i + 1)) (cap - (i + 1)) (ps.drop (i + 1)) := RX.cutT (i + 1) hil
      refine wpAnyH_one 14 (by kernel_rfl) ?_
      refine wpOp_alloc15 rfl rfl (.slice (some ⟨X.heap.size, 0, none⟩) 2 2) (.cells #[.slice a i cap, .slice (cutT 1 a cap (i + 1)) (ps.length - (i + 1)) (cap - (i + 1))] 64) (exec_build 86 2 #[(0, .tmp 24), (1, .tmp 31)] #[(0, .slice a i cap), (1, .slice (cutT 1 a cap (i + 1)) (ps.length - (i + 1)) (cap - (i + 1)))] (by kernel_rfl) (by kernel_rfl) (build_two _ _ _ _ _ _ X)) ?_
      refine ⟨trivial, ?_⟩
      have A7 := below_alloc X (.cells #[.slice a i cap, .slice (cutT 1 a cap (i + 1)) (ps.length - (i + 1)) (cap - (i + 1))] 64)
      have L7 := row_two X ⟨a, cap, ps.take i⟩ ⟨cutT 1 a cap (i + 1), cap - (i + 1), ps.drop (i + 1)⟩
      have l1 : (ps.take i).length = i := by rw [List.length_take]; omega
      have l3 : (ps.drop (i + 1)).length = ps.length - (i + 1) := List.length_drop
      simp only [l1, l3] at L7
      have hfl : flats [⟨a, cap, ps.take i⟩, ⟨cutT 1 a cap (i + 1), cap - (i + 1), ps.drop (i + 1)⟩] = ps.take i ++ ps.drop (i + 1) := by simp [flats]
      have hll : (ps.take i ++ ps.drop (i + 1)).length = ps.length - 1 := by rw [List.length_append, l1, l3]; omega
      have TC := (concat_at (some ⟨X.heap.size, 0, none⟩) 2 _ _ L7 (fun s hs => by
        simp only [List.mem_cons, List.not_mem_nil, or_false] at hs
        rcases hs with rfl | rfl
        · exact R1.below A7 (Nat.le_refl _)
        · exact R3.below A7 (Nat.le_refl _)) (by unfold total; rw [hfl, hll]; omega)).mono (R' := fun e w' => ∃ v, e = .returned v ∧ ∃ a' c', v = .slice a' (ps.length - 1) c' ∧ RowT pnK 72 w' a' c' (ps.take i ++ ps.drop (i + 1)) ∧ Below X.heap.size X w') (fun e w' ⟨a', c', h1, h2, _, h4⟩ => ⟨_, h1, a', c', by rw [hfl, hll], by rw [hfl] at h2; exact h2, Below.then A7 h4⟩)
      clear L7 A7 R1 R3 RX
      refine wpAnyH_one 15 (by kernel_rfl) ?_
      refine wpOp_call rfl rfl (f := 36) (args := #[.slice (some ⟨X.heap.size, 0, none⟩) 2 2]) (by kernel_rfl) TC ?_
      rintro _ W8 ⟨a', c', rfl, R8, B8⟩
      refine ⟨trivial, ?_⟩
      have G8 := Below.then hG B8
      have T8 := T6.below G8
      have C8 := Below.then C6 G8
      clear T6 C6 G8 hG B8 TC
      refine wpAnyH_take (i := 16) (v := ptr b) rfl (by kernel_rfl) (by kernel_rfl) (by kernel_rfl) (fun _ _ _ h => h) (Or.inl ⟨by kernel_rfl, fun w hSw => by kernel_rfl⟩) trivial ?_
      refine wpAnyH_take (i := 17) (v := .pointer (some ⟨b, 1, none⟩)) rfl (by kernel_rfl) (by kernel_rfl) (by kernel_rfl) (fun _ _ _ h => h) (Or.inl ⟨by kernel_rfl, fun w hSw => by kernel_rfl⟩) trivial ?_
      refine wpAnyH_one 18 (by kernel_rfl) ?_
      refine wpOp_store_cell rfl rfl 64 (.tmp 35) (.tmp 33) (by kernel_rfl) b 1 2 66 (.slice a' (ps.length - 1) c') _ #[.int .i64 (m : Int), .slice a' (ps.length - 1) c'] (by kernel_rfl) (by kernel_rfl) T8.cell rfl (by omega) iS rfl rfl ?_
      intro W9 H9 d9
      refine ⟨trivial, ?_⟩
      refine wpAnyH_done (by kernel_rfl) ?_ _
      simp only [Act.put, List.getElem_toArray, List.getElem_cons_succ, List.getElem_cons_zero, List.setIfInBounds_toArray, List.set_cons_zero, List.set_cons_succ]
      have S9 : S3 W8 W9 := S3.but d9 T8.cell (by decide) (by decide) (by decide)
      have L9 : LstAt W9 a' c' (ps.take i ++ ps.drop (i + 1)) := ⟨R8.safe S9.ptrs, fun p hp => by
        rcases List.mem_append.1 hp with hp | hp
        · exact (T8.lst.each p (List.mem_of_mem_take hp)).safe S9
        · exact (T8.lst.each p (List.mem_of_mem_drop hp)).safe S9⟩
      have hmap : (ps.take i ++ ps.drop (i + 1)).map Pn.f = (ps.map Pn.f).take i ++ (ps.map Pn.f).drop (i + 1) := by simp [List.map_take, List.map_drop]
      have T9 : TabAt W9 b m a' c' (ps.take i ++ ps.drop (i + 1)) := ⟨by rw [hll]; exact H9, L9, by rw [hmap, ← HP.out, HPP.out]; exact Tb.take_SS hsort x.f, by rw [hll]; omega, T8.low, T8.high, fun p hp => by
        rcases List.mem_append.1 hp with hp | hp
        · exact T8.wide p (List.mem_of_mem_take hp)
        · exact T8.wide p (List.mem_of_mem_drop hp)⟩
      have D9 : Did b w W9 := (Did.same C8 HC).trans ⟨d9, _, _, T8.cell, H9⟩
      go_wp2_with fail
      go_ret
      refine ⟨rfl, ⟨a', c', _, T9, hmap.trans HP.out.symm, fun p hp => ?_⟩, D9⟩
      rcases List.mem_append.1 hp with hp | hp
      · exact List.mem_of_mem_take hp
      · exact List.mem_of_mem_drop hp
theorem take_at {b m : Nat} {a : Option Addr} {cap : Nat} {ps : List Pn} (x : Fv) (w : World) (h : TabAt w b m a cap ps) (hx : Fv.At w x) :
    Calls Try.prog 14 #[ptr b, x.val] w fun e w' => e = .returned (.int .i64 (if hasF (ps.map Pn.f) x.f = true then 0 else 152)) ∧ (∃ a' cap' ps', TabAt w' b m a' cap' ps' ∧ ps'.map Pn.f = Tb.take (ps.map Pn.f) x.f) ∧ Did b w w' :=
  (take_full x w h hx).mono fun _ _ ⟨h1, ⟨a', c', ps', h2, h3, _⟩, h4⟩ => ⟨h1, ⟨a', c', ps', h2, h3⟩, h4⟩
end Go.Proofs.Ytomiefhfkdfgbaa
