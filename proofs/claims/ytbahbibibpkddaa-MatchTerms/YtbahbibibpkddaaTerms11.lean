/-
  MatchTerms: a term's value, and what it takes to make it a constant, by any bindings, are the document's; the bindings stay as they were.
-/
import Derived.Test.YtbahbibibpkddaaY1
import Derived.Test.YtbahbibibpkddaaD2
namespace Go.Proofs.Ytbahbibibpkddaa
open Go.RowKit Go.Lib Go.Shelf

set_option maxRecDepth 100000 in
set_option maxHeartbeats 2000000 in
theorem matchTerms_walk (t : Tm) (k : K) (a : Option Addr) (c : Nat) (L : List Bd) (w : World) (h : Row bK w a c L) :
    Calls Try.prog 3 #[tval t, kval k, .slice a L.length c] w fun e w' => e = .returned (.bool true) ∧ Below w.heap.size w w' := by
  have iK : (Try.prog.info? 23).map (·.size) = some 3 := by kernel_rfl
  have iT : (Try.prog.info? 25).map (·.size) = some 4 := by kernel_rfl
  have few := h.few
  have LV := hideP (fun W => live11_at W)
  obtain ⟨h0, h1, A0⟩ := boxes2 w (.cells #[str t.v, .bool t.k.num, .int .i64 t.k.n, str t.k.s] 25) (.cells #[.bool k.num, .int .i64 k.n, str k.s] 23)
  by_cases hl : L.length ≤ 200
  rotate_left
  · have q0 : (L.length : Int) > 200 := by omega
    go_enter Try.func3, Try.ntmps3
    go_wp2_with fail
    refine (LV.out _).mono ?_
    rintro e w1 ⟨rfl, b1⟩
    go_wp2_with fail
    go_ret
    exact ⟨rfl, Below.then A0 b1⟩
  · have q0 : ¬ (L.length : Int) > 200 := by omega
    go_enter Try.func3, Try.ntmps3
    generalize hW : (w.alloc (.cells #[str t.v, .bool t.k.num, .int .i64 t.k.n, str t.k.s] 25)).alloc (.cells #[.bool k.num, .int .i64 k.n, str k.s] 23) = W0 at *
    have A3 := below_alloc W0 (.cells #[] 57)
    have R3 := h.below (Below.then A0 A3) (Nat.le_refl _)
    have o3 := ownsB_empty W0
    have hs0 : W0.heap.size = w.heap.size + 1 + 1 := by rw [← hW]; simp
    have A3s := A3.size
    have A3' := A3
    rw [hs0] at o3 A3s A3'
    subst hW
    go_wp2_with (first | (at_builtin; refine wpList_append_rec bK _ rfl _ _ 26 57 rfl _ 48 Try.underlying26 Try.iB rfl (by decide) (w.heap.size + 1 + 1) (.slice (some ⟨w.heap.size + 1 + 1, 0, none⟩) 0 0) [] L a L.length c rfl o3 rfl rfl R3 A3s (by simp only [List.length_nil]; omega) ?_; intro v5 w5 o5 g5; obtain ⟨a5, c5, rfl, R5, _⟩ := own_row (D := bK) (xs := [] ++ L) o5 (by simp only [List.nil_append]; omega); have T5 := A3'.trans (own_below o3 g5 A3s); rw [← hs0] at T5; have I0 := below_heap T5 h0; have I1 := below_heap T5 h1; have B5 := Below.then A0 T5) | (refine wpList_load_all rfl 25 _ rfl w.heap.size 4 25 (tv t) _ rfl I0 rfl Try.underlying25 rfl iT ?_))
    have R5' := R5.row
    clear R3 o3 g5 T5 o5 A3 A3' A3s hs0 h0 h1 A0 R5
    refine (mvalue_at t a5 c5 L w5 R5').mono ?_
    rintro e w6 ⟨rfl, b6⟩
    have J0 := below_heap b6 I0
    have J1 := below_heap b6 I1
    have B6 := Below.then B5 b6
    have R6 := R5'.below b6 (Nat.le_refl _)
    clear I0 I1 B5 R5' b6
    go_wp2_with (first | (refine wpList_store_all rfl 23 _ _ rfl w6.heap.size 3 _ 23 (kv (valK t L)) rfl rfl (heap_alloc_new w6 _) rfl rfl iK rfl ?_; intro w7 Z7 b7; have T7 := below_tok b7; have K0 := below_heap T7 J0) | (refine wpList_load_all rfl 25 _ rfl w.heap.size 4 25 (tv t) _ rfl K0 rfl Try.underlying25 rfl iT ?_))
    have K1 := below_heap T7 J1
    have B7 := Below.then B6 T7
    have R7 := R6.below T7 (Nat.le_refl _)
    have n67 := heap_lt Z7
    generalize hU : w6.heap.size = U at *
    clear hU J0 J1 B6 R6 b7 T7
    refine (rvalue_at t a c L w7 (h.below B7 (Nat.le_refl _))).mono ?_
    rintro e w8 ⟨rfl, b8⟩
    have P0 := below_heap b8 K0
    have P1 := below_heap b8 K1
    have P2 := below_heap b8 Z7
    have B8 := Below.then B7 b8
    have R8 := R7.below b8 (Nat.le_refl _)
    clear K0 K1 Z7 B7 R7 b8
    go_wp2_with (first | (refine wpList_store_all rfl 23 _ _ rfl w8.heap.size 3 _ 23 (kv (valK t L)) rfl rfl (heap_alloc_new w8 _) rfl rfl iK rfl ?_; intro w9 Z9 b9; have T9 := below_tok b9; have Q0 := below_heap T9 P0; have Q1 := below_heap T9 P1) | (refine wpList_load_all rfl 25 _ rfl w.heap.size 4 25 (tv t) _ rfl Q0 rfl Try.underlying25 rfl iT ?_) | (refine wpList_load_all rfl 23 _ rfl (w.heap.size + 1) 3 23 (kv k) _ rfl Q1 rfl Try.underlying23 rfl iK ?_))
    have Q2 := below_heap T9 P2
    have B9 := Below.then B8 T9
    have R9 := R8.below T9 (Nat.le_refl _)
    generalize hU2 : w8.heap.size = U2 at *
    clear hU2 P0 P1 P2 B8 R8 b9 T9
    refine (mUnify_at t k a5 c5 L w9 R9 (by omega)).mono ?_
    rintro e w10 ⟨⟨a10, c10, rfl, R10⟩, b10⟩
    have S0 := below_heap b10 Q0
    have S1 := below_heap b10 Q1
    have S2 := below_heap b10 Q2
    have S3 := below_heap b10 Z9
    have B10 := Below.then B9 b10
    have RG := R9.below b10 (Nat.le_refl _)
    clear Q0 Q1 Q2 Z9 B9 R9 b10
    go_wp2_with (first | (refine wpList_load_all rfl 25 _ rfl w.heap.size 4 25 (tv t) _ rfl S0 rfl Try.underlying25 rfl iT ?_) | (refine wpList_load_all rfl 23 _ rfl (w.heap.size + 1) 3 23 (kv k) _ rfl S1 rfl Try.underlying23 rfl iK ?_))
    refine (rUnify_at t k a c L w10 (h.below B10 (Nat.le_refl _)) (by omega)).mono ?_
    rintro e w11 ⟨⟨a11, c11, rfl, R11⟩, b11⟩
    have V2 := below_heap b11 S2
    have V3 := below_heap b11 S3
    have B11 := Below.then B10 b11
    have RG1 := RG.below b11 (Nat.le_refl _)
    have RA := R10.row.below b11 (Nat.le_refl _)
    have EQ := fun W => eqConst (valK t L) (valK t L) 9998 W
    simp only [sameK_self] at EQ
    clear S0 S1 S2 S3 B10 RG R10 b11
    have UL := uniE_len t k L
    generalize uniE t k L = E1 at *
    generalize uniB t k L = E2 at *
    generalize valB t L = E3 at *
    generalize hvk : valK t L = vk at *
    clear hvk
    obtain ⟨vn, vi, vs⟩ := vk
    simp only at EQ
    obtain ⟨c0, c1, c2⟩ := tvk_cells V2
    obtain ⟨d0, d1, d2⟩ := tvk_cells V3
    go_wp2_with fail
    refine (rlike11_at a10 a11 c10 c11 E1 w11 RA R11).mono ?_
    rintro e w12 ⟨rfl, b12⟩
    have B12 := Below.then B11 b12
    have RG2 := RG1.below b12 (Nat.le_refl _)
    clear V2 V3 B11 RG1 RA R11 b12
    go_wp2_with fail
    refine (rlike11_at a5 a c5 c L w12 RG2 (h.below B12 (Nat.le_refl _))).mono ?_
    rintro e w13 ⟨rfl, b13⟩
    have B13 := Below.then B12 b13
    go_wp2_with fail
    refine (LV.out _).mono ?_
    rintro e w14 ⟨rfl, b14⟩
    have B14 := Below.then B13 b14
    go_wp2_with fail
    go_ret
    exact ⟨rfl, B14⟩
end Go.Proofs.Ytbahbibibpkddaa
