/-
  CodeApart, walked: unlike facts have unlike bytes, and none is a beginning of another one's.
-/
import Derived.Test.YtghhdbkgibpebabMf
import Derived.Test.YtghhdbkgibpebabLive5
import Derived.Test.YtghhdbkgibpebabLike
import Derived.Test.YtghhdbkgibpebabQb
namespace Go.Proofs.Ytghhdbkgibpebab
open Go.RowKit Go.Sort

theorem lies_new (w : World) (c : Array Value) (t : TypeId) (xs : List Fv) (h : c.toList = fcells xs) (hf : xs.length ≤ 1954687338211) : Lies (w.alloc (.cells c t)) (some ⟨w.heap.size, 0, none⟩) xs.length xs :=
  ⟨Nat.le_refl _, by unfold maxLen; omega, hf, (fun h => by cases h), fun ad ha j u hu => by
    cases ha
    rw [Addr.add_lit, heap_cell (heap_alloc_new w _), Nat.zero_add, ← Array.getElem?_toList, h]
    exact hu⟩

set_option maxRecDepth 100000 in
set_option maxHeartbeats 4000000 in
theorem codeApart_walk (x y : Fv) (w : World) (hx : Fv.At w x) (ix : ∀ k ∈ x.ks, KIn k) (hy : Fv.At w y) (iy : ∀ k ∈ y.ks, KIn k) :
    Calls Try.prog 3 #[x.val, y.val] w fun e w' => e = .returned (.bool true) ∧ Below w.heap.size w w' := by
  have mixed : Try.prog.follows .mixedOrders = true := by kernel_rfl
  have hV := fun W => live5_at W
  have hP1 := fun W (h : Below w.heap.size w W) => putFact5_at none 0 [] x W (Holds.nil _) (hx.below h (Nat.le_refl _)) ix (by simp)
  have hP2 := fun W (h : Below w.heap.size w W) => putFact5_at none 0 [] y W (Holds.nil _) (hy.below h (Nat.le_refl _)) iy (by simp)
  have hap := fun (h1 : okB x.f = true) (h2 : okB y.f = true) => fact_apart (f := x.f) (g := y.f) h1 h2 ix iy
  have hpx := fact_pos x.f; have hpy := fact_pos y.f
  have hlx := fun h : okB x.f = true => fact_len (f := x.f) ix h
  have hly := fun h : okB y.f = true => fact_len (f := y.f) iy h
  have hS := fun W (h : Below w.heap.size w W) => sameFact_at x y W (hx.below h (Nat.le_refl _)) (hy.below h (Nat.le_refl _))
  have hcz := cF_zero x.f y.f
  obtain ⟨x1, x2, x3, xa, xc, xk⟩ := x; obtain ⟨y1, y2, y3, ya, yc, yk⟩ := y
  simp only [errno, List.nil_append] at hP1 hP2
  have H1 := heap_alloc_new w (.cells #[str x1, str x2, str x3, .slice xa xk.length xc] 24)
  have H1' := below_heap (below_alloc _ (.cells #[str y1, str y2, str y3, .slice ya yk.length yc] 24)) H1
  have H2 := heap_alloc_new (w.alloc (.cells #[str x1, str x2, str x3, .slice xa xk.length xc] 24)) (.cells #[str y1, str y2, str y3, .slice ya yk.length yc] 24)
  rw [show (w.alloc (.cells #[str x1, str x2, str x3, .slice xa xk.length xc] 24)).heap.size = w.heap.size + 1 by simp] at H2
  have B0 := Below.then (below_alloc w (.cells #[str x1, str x2, str x3, .slice xa xk.length xc] 24)) (below_alloc _ (.cells #[str y1, str y2, str y3, .slice ya yk.length yc] 24))
  have S0 : ((w.alloc (.cells #[str x1, str x2, str x3, .slice xa xk.length xc] 24)).alloc (.cells #[str y1, str y2, str y3, .slice ya yk.length yc] 24)).heap.size = w.heap.size + 1 + 1 := by simp
  clear H1
  go_enter Try.func3, Try.ntmps3
  go_wp2_with fail
  generalize (w.alloc (.cells #[str x1, str x2, str x3, .slice xa xk.length xc] 24)).alloc (.cells #[str y1, str y2, str y3, .slice ya yk.length yc] 24) = w0 at *
  have hL := lies_new w0 #[str x1, str x2, str x3, .slice xa xk.length xc, str y1, str y2, str y3, .slice ya yk.length yc] 24 [⟨x1, x2, x3, xa, xc, xk⟩, ⟨y1, y2, y3, ya, yc, yk⟩] rfl (by simp)
  rw [S0] at hL
  have B1 := Below.then B0 (below_alloc w0 (.cells #[str x1, str x2, str x3, .slice xa xk.length xc, str y1, str y2, str y3, .slice ya yk.length yc] 24))
  refine (weight_at (some ⟨w.heap.size + 1 + 1, 0, none⟩) 2 [⟨x1, x2, x3, xa, xc, xk⟩, ⟨y1, y2, y3, ya, yc, yk⟩] 300 _ hL (fun z hz => by
    simp only [List.mem_cons, List.not_mem_nil, or_false] at hz
    rcases hz with rfl | rfl
    · exact hx.below B1 (Nat.le_refl _)
    · exact hy.below B1 (Nat.le_refl _))).mono ?_
  rintro e w1 ⟨⟨r, rfl⟩, g1⟩
  have B2 := Below.then B1 g1.below
  have J1 := below_heap g1.below (below_heap (below_alloc w0 _) H1')
  have J2 := below_heap g1.below (below_heap (below_alloc w0 _) H2)
  clear hL B1 g1 B0 H1' H2 S0 hx hy
  by_cases hr : 300 < r
  · go_wp2_with fail
    refine (hV _).mono ?_; rintro e w2 ⟨rfl, b2⟩
    go_wp2_with fail
    go_ret
    exact ⟨rfl, Below.then B2 b2⟩
  · have d0 := heap_cell J1 0; have d1 := heap_cell J1 1; have d2 := heap_cell J1 2; have d3 := heap_cell J1 3
    simp at d0 d1 d2 d3
    go_wp2_with fail
    refine (hP1 _ B2).mono ?_; rintro e w3 ⟨v3, rfl, o3, b3⟩
    have B3 := Below.then B2 b3
    have K1 := below_heap b3 J1
    have K2 := below_heap b3 J2
    clear d0 d1 d2 d3 J1 J2 B2 b3 hr hP1
    have f0 := heap_cell K2 0; have f1 := heap_cell K2 1; have f2 := heap_cell K2 2; have f3 := heap_cell K2 3
    simp at f0 f1 f2 f3
    go_wp2_with fail
    refine (hP2 _ B3).mono ?_; rintro e w4 ⟨v4, rfl, o4, b4⟩
    have B4 := Below.then B3 b4
    have M1 := below_heap b4 K1
    have M2 := below_heap b4 K2
    have o3' := o3.below b4
    clear f0 f1 f2 f3 K1 K2 B3 b4 o3 hP2
    cases hok : okB (Fv.f ⟨x1, x2, x3, xa, xc, xk⟩)
    · rw [hok] at o3'
      obtain ⟨p3, c3, rfl, _, _⟩ := OwnB.holds (l := []) o3'
      go_wp2_with fail
      go_ret
      exact ⟨rfl, B4⟩
    · cases hok2 : okB (Fv.f ⟨y1, y2, y3, ya, yc, yk⟩)
      · rw [hok] at o3'
        obtain ⟨p3, c3, rfl, _, _⟩ := OwnB.holds (l := factB (Fv.f ⟨x1, x2, x3, xa, xc, xk⟩)) o3'
        have hq : (((factB (Fv.f ⟨x1, x2, x3, xa, xc, xk⟩)).length : Int) == 0) = false := by simp; intro e; rw [e] at hpx; simp at hpx
        go_wp2_with fail
        go_ret
        exact ⟨rfl, B4⟩
      · rw [hok] at o3'; rw [hok2] at o4
        have hap' := hap hok hok2
        have lx := hlx hok; have ly := hly hok2
        obtain ⟨p3, c3, rfl, h3, _⟩ := OwnB.holds (l := factB (Fv.f ⟨x1, x2, x3, xa, xc, xk⟩)) o3'
        obtain ⟨p4, c4, rfl, h4, _⟩ := OwnB.holds (l := factB (Fv.f ⟨y1, y2, y3, ya, yc, yk⟩)) o4
        have hEq : Hid (∀ k, k = min (factB (Fv.f ⟨x1, x2, x3, xa, xc, xk⟩)).length (factB (Fv.f ⟨y1, y2, y3, ya, yc, yk⟩)).length → ((factB (Fv.f ⟨x1, x2, x3, xa, xc, xk⟩)).take k == (factB (Fv.f ⟨y1, y2, y3, ya, yc, yk⟩)).take k) = decide (cF (Fv.f ⟨x1, x2, x3, xa, xc, xk⟩) (Fv.f ⟨y1, y2, y3, ya, yc, yk⟩) = 0)) := fun k hk => by
          rw [Bool.eq_iff_iff, beq_iff_eq, decide_eq_true_eq, hcz]
          constructor
          · intro h; rw [hk] at h; exact hap' h
          · intro h; rw [h]
        generalize factB (Fv.f ⟨x1, x2, x3, xa, xc, xk⟩) = X at *
        generalize factB (Fv.f ⟨y1, y2, y3, ya, yc, yk⟩) = Y at *
        generalize decide (cF (Fv.f ⟨x1, x2, x3, xa, xc, xk⟩) (Fv.f ⟨y1, y2, y3, ya, yc, yk⟩) = 0) = sm at *
        clear hap hap' hcz hlx hly o3' o4 hok hok2 ix iy
        obtain ⟨P3, O3, rfl⟩ := h3.addr hpx
        obtain ⟨P4, O4, rfl⟩ := h4.addr hpy
        have r3 := h3.1; have r4 := h4.1
        go_wp2_with fail
        rw [show (min (X.length : Int) (Y.length : Int)) = ((min X.length Y.length : Nat) : Int) by omega]
        have hE := hideP (hEq.out _ rfl)
        obtain ⟨K, hK⟩ : ∃ K, min X.length Y.length = K := ⟨_, rfl⟩
        rw [hK] at hE ⊢
        have k0 : 0 < K := by omega
        have k1 : K ≤ X.length := by omega
        have k2 : K ≤ Y.length := by omega
        have k3 : (0 : Int) < (K : Int) := by omega
        have k4 : (K : Int) ≤ (c3 : Int) := by omega
        have k5 : (K : Int) ≤ (c4 : Int) := by omega
        have k6 : K ≤ c3 := by omega
        have k7 : K ≤ c4 := by omega
        have hM := fun p : BelowBy w4 => same_at (some ⟨P3, O3, none⟩) (some ⟨P4, O4, none⟩) K K c3 c4 (X.take K) (Y.take K) p.w (by rw [List.length_take]; omega) (by rw [List.length_take]; omega) ((h3.below p.h).take K) ((h4.below p.h).take K)
        simp only [hE.out] at hM
        have hF := fun p : BelowBy w4 => hS p.w (Below.then B4 p.h)
        have d0 := heap_cell M1 0; have d1 := heap_cell M1 1; have d2 := heap_cell M1 2; have d3 := heap_cell M1 3
        have f0 := heap_cell M2 0; have f1 := heap_cell M2 1; have f2 := heap_cell M2 2; have f3 := heap_cell M2 3
        simp at d0 d1 d2 d3 f0 f1 f2 f3
        have D0 := cell_kept d0; have D1 := cell_kept d1; have D2 := cell_kept d2; have D3 := cell_kept d3
        have F0 := cell_kept f0; have F1 := cell_kept f1; have F2 := cell_kept f2; have F3 := cell_kept f3
        clear d0 d1 d2 d3 f0 f1 f2 f3 M1 M2 h3 h4 hS hE hEq hK k1 k2 lx ly hpx hpy
        haveI : Inhabited (BelowBy w4) := ⟨⟨w4, Below.refl _ _⟩⟩
        cases sm
        all_goals
          refine wp_region_quiet_below (by assumption) (by kernel_rfl) ?_
          repeat (quiet_step (first
            | (go_at_call 7; refine Calls.below_of_same (hM _))
            | (go_at_call 8; refine Calls.below_of_grew (hF _))
            | (go_at_call 5; refine Calls.below_of (hV _))))
          refine wpQuiet_nil ?_
          intro _ hw'
          obtain ⟨⟨w5, hb5⟩, rfl⟩ := hw'
          go_wp2_with fail
          go_ret
          exact ⟨rfl, Below.then B4 hb5⟩
end Go.Proofs.Ytghhdbkgibpebab
