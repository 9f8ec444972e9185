/-
  live: what the document's examples say.
-/
import Derived.Test.YtghhdbkgibpebaaSa3
import Derived.Test.YtghhdbkgibpebaaLen5
import Derived.Test.YtghhdbkgibpebaaRd11
import Derived.Test.YtghhdbkgibpebaaSame
namespace Go.Proofs.Ytghhdbkgibpebaa
open Go.RowKit Go.Sort

abbrev kn (n : Int) : K := ⟨true, n, []⟩
theorem live_fact : factB ⟨[97], [97], [112], [kn 1]⟩ = [2, 97, 2, 97, 2, 112, 2, 0, 2] := by decide +kernel
theorem live_ok : okB ⟨[97], [97], [112], [kn 1]⟩ = true := by decide +kernel
theorem live_dec : (dR [0, 0]).2 = 11 := by decide +kernel
theorem live_prog : progB [] = [0] := by decide +kernel
theorem args_one (w : World) (k : K) : ArgsAt (w.alloc (.cells #[.bool k.num, .int .i64 k.n, str k.s] 49)) (some ⟨w.heap.size, 0, none⟩) 1 [k] := ArgsAt.of_row (row_new kK w _ _ k rfl)

set_option maxRecDepth 100000 in
set_option maxHeartbeats 4000000 in
theorem live5_at (w : World) : Calls Try.prog 10 #[] w fun e w' => e = .returned (.bool true) ∧ Below w.heap.size w w' := by
  have A0 := args_one w (kn 1)
  have B0 := Below.then (below_alloc w (.cells #[.bool true, .int .i64 1, str []] 49)) (below_alloc _ (.cells #[str [97], str [97], str [112], .slice (some ⟨w.heap.size, 0, none⟩) 1 1] 24))
  have H0 := heap_alloc_new (w.alloc (.cells #[.bool true, .int .i64 1, str []] 49)) (.cells #[str [97], str [97], str [112], .slice (some ⟨w.heap.size, 0, none⟩) 1 1] 24)
  rw [show (w.alloc (.cells #[.bool true, .int .i64 1, str []] 49)).heap.size = w.heap.size + 1 by simp] at H0
  have A1 : ArgsAt ((w.alloc (.cells #[.bool true, .int .i64 1, str []] 49)).alloc (.cells #[str [97], str [97], str [112], .slice (some ⟨w.heap.size, 0, none⟩) 1 1] 24)) (some ⟨w.heap.size, 0, none⟩) 1 [kn 1] := A0.below (below_alloc _ _) (Nat.le_refl _)
  have hP := putFact5_at none 0 [] ⟨[97], [97], [112], some ⟨w.heap.size, 0, none⟩, 1, [kn 1]⟩ _ (Holds.nil _) A1 (fun k hk => by simp at hk; subst hk; exact ⟨by decide, by decide⟩) (by simp)
  have eok : okB (Fv.f ⟨[97], [97], [112], some ⟨w.heap.size, 0, none⟩, 1, [kn 1]⟩) = true := live_ok
  have efb : factB (Fv.f ⟨[97], [97], [112], some ⟨w.heap.size, 0, none⟩, 1, [kn 1]⟩) = [2, 97, 2, 97, 2, 112, 2, 0, 2] := live_fact
  rw [eok, efb] at hP
  simp only [errno, cond_true, List.nil_append] at hP
  have hD := fun (W : World) => decode5_at (some ⟨W.heap.size, 0, none⟩) 2 [0, 0] (W.alloc (.cells #[.int .u8 0, .int .u8 0] 5)) (holds_new W [0, 0] #[.int .u8 0, .int .u8 0] 5 rfl) (by simp)
  simp only [live_dec] at hD
  have hE := fun (W : World) => encode5_at none 0 [] W (Row.nil _ _) (fun _ h => by simp at h) (fun _ h => by simp at h)
  have ee : encE ([] : List Rv).length (([] : List Rv).all fun x => mayR x.r) = 0 := rfl
  simp only [ee, if_true, List.map_nil, live_prog] at hE
  have hS := fun (f : Fv) (W : World) (h : Fv.At W f) => sameFact_at f f W h h
  clear eok efb
  go_enter Try.func10, Try.ntmps10
  go_wp2_with fail
  refine hP.mono ?_; rintro e w1 ⟨v1, rfl, o1, b1⟩
  have B1 := Below.then B0 b1
  have H1 := below_heap b1 H0
  have A2 := A1.below b1 (Nat.le_refl _)
  clear hP A0 B0 H0 A1 b1
  go_wp2_with fail
  refine (hD w1).mono ?_; rintro e w2 ⟨a2, c2, ys, rfl, _, _, _, b2⟩
  have b2' := Below.then (below_alloc w1 _) b2
  have B2 := Below.then B1 b2'
  have H2 := below_heap b2' H1
  have A3 := A2.below b2' (Nat.le_refl _)
  have o2 := o1.below b2'
  clear hD B1 H1 A2 b2 b2' o1
  go_wp2_with fail
  refine (hE w2).mono ?_; rintro e w3 ⟨v3, rfl, o3, b3⟩
  have B3 := Below.then B2 b3
  have H3 := below_heap b3 H2
  have A4 := A3.below b3 (Nat.le_refl _)
  have o4 := o2.below b3
  clear hE B2 H2 A3 b3 o2
  obtain ⟨p1, k1, rfl, h1, _⟩ := o4.holds
  obtain ⟨p3, k3, rfl, h3, _⟩ := o3.holds
  clear o3 o4
  go_wp2_with fail
  have hn1 := holds_new w3 [2, 97, 2, 97, 2, 112, 2, 0, 2] #[.int .u8 2, .int .u8 97, .int .u8 2, .int .u8 97, .int .u8 2, .int .u8 112, .int .u8 2, .int .u8 0, .int .u8 2] 5 rfl
  have ba := below_alloc w3 (.cells #[.int .u8 2, .int .u8 97, .int .u8 2, .int .u8 97, .int .u8 2, .int .u8 112, .int .u8 2, .int .u8 0, .int .u8 2] 5)
  refine (same_at p1 (some ⟨w3.heap.size, 0, none⟩) 9 9 k1 9 [2, 97, 2, 97, 2, 112, 2, 0, 2] [2, 97, 2, 97, 2, 112, 2, 0, 2] _ rfl rfl (h1.below ba) hn1).mono ?_; rintro e w4 ⟨rfl, rfl⟩
  have B4 := Below.then B3 ba
  have H4 := below_heap ba H3
  have A5 := A4.below ba (Nat.le_refl _)
  have h5 := h3.below ba
  generalize w3.alloc (.cells #[.int .u8 2, .int .u8 97, .int .u8 2, .int .u8 97, .int .u8 2, .int .u8 112, .int .u8 2, .int .u8 0, .int .u8 2] 5) = w4 at *
  clear hn1 ba B3 H3 A4 h3 h1
  go_wp2_with fail
  have hn1 := holds_new w4 [0] #[.int .u8 0] 5 rfl
  have ba := below_alloc w4 (.cells #[.int .u8 0] 5)
  refine (same_at p3 (some ⟨w4.heap.size, 0, none⟩) 1 1 k3 1 [0] [0] _ rfl rfl (h5.below ba) hn1).mono ?_; rintro e w5 ⟨rfl, rfl⟩
  have B5 := Below.then B4 ba
  have H5 := below_heap ba H4
  have A6 := A5.below ba (Nat.le_refl _)
  generalize w4.alloc (.cells #[.int .u8 0] 5) = w5 at *
  clear hn1 ba B4 H4 A5 h5
  have d0 := heap_cell H5 0; have d1 := heap_cell H5 1; have d2 := heap_cell H5 2; have d3 := heap_cell H5 3
  simp at d0 d1 d2 d3
  go_wp2_with fail
  refine (hS ⟨[97], [97], [112], some ⟨w.heap.size, 0, none⟩, 1, [kn 1]⟩ w5 A6).mono ?_; rintro e w6 ⟨rfl, g6⟩
  have es : decide (cF (Fv.f ⟨[97], [97], [112], some ⟨w.heap.size, 0, none⟩, 1, [kn 1]⟩) (Fv.f ⟨[97], [97], [112], some ⟨w.heap.size, 0, none⟩, 1, [kn 1]⟩) = 0) = true := by rw [cF_self]; rfl
  rw [es]
  go_wp2_with fail
  go_ret
  exact ⟨rfl, Below.then B5 g6.below⟩
end Go.Proofs.Ytghhdbkgibpebaa
