/-
  TableNone, walked.
-/
import Derived.Test.YtomiefhfkdfgbaaNo15
import Derived.Test.YtomiefhfkdfgbaaW4
namespace Go.Proofs.Ytomiefhfkdfgbaa
open Go.RowKit Go.Sort

theorem box_cells {W : World} {b : Nat} {x : Fv} (h : W.heap[b]? = some (.cells #[str x.at_, str x.by_, str x.pred, .slice x.a x.ks.length x.cap] 34)) : W.cell? ⟨b, 0, none⟩ = some (str x.at_) ∧ W.cell? ⟨b, 1, none⟩ = some (str x.by_) ∧ W.cell? ⟨b, 2, none⟩ = some (str x.pred) ∧ W.cell? ⟨b, 3, none⟩ = some (.slice x.a x.ks.length x.cap) :=
  ⟨by rw [heap_cell h]; rfl, by rw [heap_cell h]; rfl, by rw [heap_cell h]; rfl, by rw [heap_cell h]; rfl⟩
set_option maxRecDepth 100000 in
set_option maxHeartbeats 4000000 in
theorem tableNone_walk (x : Fv) (w : World) (_ : Fv.At w x) (_ : TxF x) : Calls Try.prog 7 #[x.val] w fun e w' => e = .returned (.bool true) ∧ Below w.heap.size w w' := by
  have TF := Try.underlying34
  have LV := hideP (fun W => live15_at W)
  obtain ⟨k1, k2, A0⟩ := boxes_two w (.cells #[str x.at_, str x.by_, str x.pred, .slice x.a x.ks.length x.cap] 34) (.cells #[.int .i64 0, .slice none 0 0] 66)
  go_enter Try.func7, Try.ntmps7
  go_wp2_with fail
  generalize hW0 : (w.alloc (.cells #[str x.at_, str x.by_, str x.pred, .slice x.a x.ks.length x.cap] 34)).alloc (.cells #[.int .i64 0, .slice none 0 0] 66) = w0 at *
  clear hW0
  go_loopw [7] (fun v wr => ∃ k : Nat, v = .int .i64 (k : Int) ∧ k ≤ 2 ∧ wr.heap[w.heap.size]? = some (.cells #[str x.at_, str x.by_, str x.pred, .slice x.a x.ks.length x.cap] 34) ∧ wr.heap[w.heap.size + 1]? = some (.cells #[.int .i64 0, .slice none 0 0] 66) ∧ Below w.heap.size w wr) (fun v _ => 2 - (intOf v).toNat)
  case atStart => exact ⟨0, rfl, by omega, k1, k2, A0⟩
  case round =>
    obtain ⟨k, rfl, hk, h1, h2, hb⟩ := hrel
    clear k1 k2 A0
    by_cases hlt : k < 2
    · have q2 : (k : Int) < 2 := by omega
      have ix0 : ∀ W, (Instr.index 67 (.agg #[nilp, ptr (w.heap.size + 1)]) (.int .i64 0)).run Try.prog W = .ok nilp W := fun W => by kernel_rfl
      have ix1 : ∀ W, (Instr.index 67 (.agg #[nilp, ptr (w.heap.size + 1)]) (.int .i64 1)).run Try.prog W = .ok (ptr (w.heap.size + 1)) W := fun W => by kernel_rfl
      obtain rfl | rfl : k = 0 ∨ k = 1 := by omega
      · have hN : NoT wr nilp := .inl rfl
        obtain ⟨c0, c1, c2, c3⟩ := box_cells h1
        go_wp2_with fail
        clear c0 c1 c2 c3
        refine (put_no _ x _ hN).mono ?_
        rintro e w1 ⟨rfl, b1⟩
        have h11 := below_heap b1 h1
        have h12 := below_heap b1 h2
        have n1 := hN.below b1
        have d1 := Below.then hb b1
        clear h1 h2 hN hb b1
        obtain ⟨c0, c1, c2, c3⟩ := box_cells h11
        go_wp2_with fail
        clear c0 c1 c2 c3
        refine (take_no _ x _ n1).mono ?_
        rintro e w2 ⟨rfl, b2⟩
        have h21 := below_heap b2 h11
        have h22 := below_heap b2 h12
        have n2 := n1.below b2
        have d2 := Below.then d1 b2
        clear h11 h12 n1 d1 b2
        obtain ⟨c0, c1, c2, c3⟩ := box_cells h21
        go_wp2_with fail
        clear c0 c1 c2 c3
        refine (thas_no _ x _ n2).mono ?_
        rintro e w3 ⟨rfl, b3⟩
        have h31 := below_heap b3 h21
        have h32 := below_heap b3 h22
        have n3 := n2.below b3
        have d3 := Below.then d2 b3
        clear h21 h22 n2 d2 b3
        go_wp2_with fail
        refine (len_no _ _ n3).mono ?_
        rintro e w4 ⟨rfl, rfl⟩
        go_wp2_with fail
        refine (clone_no _ _ n3).mono ?_
        rintro e w4 ⟨rfl, rfl⟩
        go_wp2_with fail
        refine (all_at w3 n3.tabV (LstAt.nil _) (fun p hp => by cases hp)).mono ?_
        rintro e w4 ⟨⟨bt, bi, rfl, I4⟩, b4⟩
        go_wp2_with fail
        refine (gather_no bt bi _ w4 I4).mono ?_
        rintro e w5 ⟨⟨a5, c5, rfl⟩, b5⟩
        have b35 := Below.then b4 b5
        have h51 := below_heap b35 h31
        have h52 := below_heap b35 h32
        have n5 := n3.below b35
        have d5 := Below.then d3 b35
        clear h31 h32 n3 d3 b35 b4 b5 I4
        go_wp2_with fail
        refine (of_at [] [] [] w5 n5.tabV (LstAt.nil _) (fun p hp => by cases hp)).mono ?_
        rintro e w6 ⟨⟨bt6, bi6, rfl, I6⟩, b6⟩
        go_wp2_with fail
        refine (gather_no bt6 bi6 _ w6 I6).mono ?_
        rintro e w7 ⟨⟨a7, c7, rfl⟩, b7⟩
        have b57 := Below.then b6 b7
        have h71 := below_heap b57 h51
        have h72 := below_heap b57 h52
        have n7 := n5.below b57
        have d7 := Below.then d5 b57
        clear h51 h52 n5 d5 b57 b6 b7 I6
        go_wp2_with fail
        refine (find_no _ [112] 0 ⟨false, 0, []⟩ w7 n7).mono ?_
        rintro e w8 ⟨⟨bt8, bi8, rfl, I8⟩, b8⟩
        go_wp2_with fail
        refine (gather_no bt8 bi8 _ w8 I8).mono ?_
        rintro e w9 ⟨⟨a9, c9, rfl⟩, b9⟩
        have b79 := Below.then b8 b9
        have h91 := below_heap b79 h71
        have h92 := below_heap b79 h72
        have d9 := Below.then d7 b79
        clear h71 h72 n7 d7 b79 b8 b9 I8
        go_wp2_with fail
        exact ⟨⟨1, rfl, by omega, h91, h92, d9⟩, by simp [intOf]⟩
      · have hN : NoT wr (ptr (w.heap.size + 1)) := .inr ⟨_, _, rfl, h2⟩
        obtain ⟨c0, c1, c2, c3⟩ := box_cells h1
        go_wp2_with fail
        clear c0 c1 c2 c3
        refine (put_no _ x _ hN).mono ?_
        rintro e w1 ⟨rfl, b1⟩
        have h11 := below_heap b1 h1
        have h12 := below_heap b1 h2
        have n1 := hN.below b1
        have d1 := Below.then hb b1
        clear h1 h2 hN hb b1
        obtain ⟨c0, c1, c2, c3⟩ := box_cells h11
        go_wp2_with fail
        clear c0 c1 c2 c3
        refine (take_no _ x _ n1).mono ?_
        rintro e w2 ⟨rfl, b2⟩
        have h21 := below_heap b2 h11
        have h22 := below_heap b2 h12
        have n2 := n1.below b2
        have d2 := Below.then d1 b2
        clear h11 h12 n1 d1 b2
        obtain ⟨c0, c1, c2, c3⟩ := box_cells h21
        go_wp2_with fail
        clear c0 c1 c2 c3
        refine (thas_no _ x _ n2).mono ?_
        rintro e w3 ⟨rfl, b3⟩
        have h31 := below_heap b3 h21
        have h32 := below_heap b3 h22
        have n3 := n2.below b3
        have d3 := Below.then d2 b3
        clear h21 h22 n2 d2 b3
        go_wp2_with fail
        refine (len_no _ _ n3).mono ?_
        rintro e w4 ⟨rfl, rfl⟩
        go_wp2_with fail
        refine (clone_no _ _ n3).mono ?_
        rintro e w4 ⟨rfl, rfl⟩
        go_wp2_with fail
        refine (all_at w3 n3.tabV (LstAt.nil _) (fun p hp => by cases hp)).mono ?_
        rintro e w4 ⟨⟨bt, bi, rfl, I4⟩, b4⟩
        go_wp2_with fail
        refine (gather_no bt bi _ w4 I4).mono ?_
        rintro e w5 ⟨⟨a5, c5, rfl⟩, b5⟩
        have b35 := Below.then b4 b5
        have h51 := below_heap b35 h31
        have h52 := below_heap b35 h32
        have n5 := n3.below b35
        have d5 := Below.then d3 b35
        clear h31 h32 n3 d3 b35 b4 b5 I4
        go_wp2_with fail
        refine (of_at [] [] [] w5 n5.tabV (LstAt.nil _) (fun p hp => by cases hp)).mono ?_
        rintro e w6 ⟨⟨bt6, bi6, rfl, I6⟩, b6⟩
        go_wp2_with fail
        refine (gather_no bt6 bi6 _ w6 I6).mono ?_
        rintro e w7 ⟨⟨a7, c7, rfl⟩, b7⟩
        have b57 := Below.then b6 b7
        have h71 := below_heap b57 h51
        have h72 := below_heap b57 h52
        have n7 := n5.below b57
        have d7 := Below.then d5 b57
        clear h51 h52 n5 d5 b57 b6 b7 I6
        go_wp2_with fail
        refine (find_no _ [112] 0 ⟨false, 0, []⟩ w7 n7).mono ?_
        rintro e w8 ⟨⟨bt8, bi8, rfl, I8⟩, b8⟩
        go_wp2_with fail
        refine (gather_no bt8 bi8 _ w8 I8).mono ?_
        rintro e w9 ⟨⟨a9, c9, rfl⟩, b9⟩
        have b79 := Below.then b8 b9
        have h91 := below_heap b79 h71
        have h92 := below_heap b79 h72
        have d9 := Below.then d7 b79
        clear h71 h72 n7 d7 b79 b8 b9 I8
        go_wp2_with fail
        exact ⟨⟨2, rfl, by omega, h91, h92, d9⟩, by simp [intOf]⟩
    · have q2 : ¬ (k : Int) < 2 := by omega
      go_wp2_with fail
      refine (LV.out wr).mono ?_
      rintro e w2 ⟨rfl, b2⟩
      go_wp2_with fail
      go_ret
      exact ⟨rfl, Below.then hb b2⟩
end Go.Proofs.Ytomiefhfkdfgbaa
