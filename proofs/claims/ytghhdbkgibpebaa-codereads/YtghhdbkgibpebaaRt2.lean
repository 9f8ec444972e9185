/-
  Right: what the reference answers.
-/
import Derived.Test.YtghhdbkgibpebaaRt1
import Derived.Test.YtghhdbkgibpebaaRs
namespace Go.Proofs.Ytghhdbkgibpebaa
open Go.RowKit Go.Sort

set_option maxRecDepth 100000 in
set_option maxHeartbeats 8000000 in
theorem right_at (x : Rv) (w : World) (hx : Rv.At w x) : Calls Try.prog 46 #[rval x] w fun e w' => e = .returned (.bool (mayR x.r)) ∧ Below w.heap.size w w' := by
  have few := hx.body.few
  obtain ⟨⟨v1, ⟨a1, b1, c1⟩⟩, p, ad, cap, ts, ⟨v2, ⟨a2, b2, c2⟩⟩, ba, bc, ls⟩ := x
  obtain ⟨hx1, hx2, hx3⟩ := hx
  simp only at hx1 hx2 hx3 few
  have hA := fun W => rterm_at ⟨v1, ⟨a1, b1, c1⟩⟩ W
  have hB := fun W => rterm_at ⟨v2, ⟨a2, b2, c2⟩⟩ W
  have hP := fun W => text_at p W
  have hC := fun W (h : Below w.heap.size w W) => rtermsok_at ad cap ts W (hx1.below h (Nat.le_refl _))
  have hd : decide (ls.length ≤ 5) = !decide ((5 : Int) < (ls.length : Int)) := by rw [Bool.eq_iff_iff]; simp; omega
  have hgoal : mayR (Rv.r ⟨⟨v1, ⟨a1, b1, c1⟩⟩, p, ad, cap, ts, ⟨v2, ⟨a2, b2, c2⟩⟩, ba, bc, ls⟩) = (mayT ⟨v1, ⟨a1, b1, c1⟩⟩ && (mayT ⟨v2, ⟨a2, b2, c2⟩⟩ && (fitsB p && ((decide (ts.length ≤ 48) && ts.all mayT) && (!decide ((5 : Int) < (ls.length : Int)) && (ls.map Lv.l).all mayL))))) := by
    unfold mayR Rv.r mayA
    simp only [List.length_map, hd, Bool.and_assoc]
  rw [hgoal]
  clear hgoal hd hx1
  generalize mayT ⟨v1, ⟨a1, b1, c1⟩⟩ = m1 at *
  generalize mayT ⟨v2, ⟨a2, b2, c2⟩⟩ = m2 at *
  generalize fitsB p = m3 at *
  generalize (decide (ts.length ≤ 48) && ts.all mayT) = m4 at *
  go_enter Try.func46, Try.ntmps46
  go_wp2_with fail
  refine (hA _).mono ?_; rintro e w1 ⟨rfl, hg1⟩
  have hb1 := Below.then (below_alloc w _) hg1.below
  have H1 := below_heap hg1.below (heap_alloc_new w _)
  clear hg1 hA
  have d6 := heap_cell H1 6; have d7 := heap_cell H1 7; have d8 := heap_cell H1 8; have d9 := heap_cell H1 9
  simp at d6 d7 d8 d9
  cases m1
  · go_wp2_with fail
    go_ret
    exact ⟨ret_bool (by simp), hb1⟩
  go_wp2_with fail
  refine (hB _).mono ?_; rintro e w2 ⟨rfl, hg2⟩
  have hb2 := Below.then hb1 hg2.below
  have H2 := below_heap hg2.below H1
  clear hg2 hB d6 d7 d8 d9 H1 hb1
  have d4 := heap_cell H2 4; have d5 := heap_cell H2 5; have d10 := heap_cell H2 10
  simp at d4 d5 d10
  cases m2
  · go_wp2_with fail
    go_ret
    exact ⟨ret_bool (by simp), hb2⟩
  go_wp2_with fail
  refine (hP _).mono ?_; rintro e w3 ⟨rfl, rfl⟩
  cases m3
  · go_wp2_with fail
    go_ret
    exact ⟨ret_bool (by simp), hb2⟩
  go_wp2_with fail
  refine (hC _ hb2).mono ?_; rintro e w3 ⟨rfl, hg3⟩
  have hb3 := Below.then hb2 hg3.below
  have H3 := below_heap hg3.below H2
  clear hg3 hC d4 d5 d10 H2 hb2
  have d10 := heap_cell H3 10
  simp at d10
  cases m4
  · go_wp2_with fail
    go_ret
    exact ⟨ret_bool (by simp), hb3⟩
  by_cases hl : (5 : Int) < (ls.length : Int)
  · go_wp2_with fail
    go_ret
    exact ⟨ret_bool (by simp [hl]), hb3⟩
  go_wp2_with fail
  go_loopw [3, 4] (fun v _ wr => ∃ k : Nat, v = .int .i64 (k : Int) ∧ k ≤ ls.length ∧ Hid (∀ j (h1 : j < ls.length), j < k → mayL ls[j].l = true) ∧ Below w3.heap.size w3 wr) (fun v _ _ => ls.length - (intOf v).toNat)
  case atStart => exact ⟨0, rfl, by omega, fun j _ h => absurd h (by omega), Below.refl _ _⟩
  case round =>
    obtain ⟨k, rfl, hk, hev, hg1⟩ := hrel
    have hg := Below.then hb3 hg1
    have K1 := below_heap hg1 H3
    clear d10
    have d10 := heap_cell K1 10
    simp at d10
    by_cases hlt : k < ls.length
    · have q2 : (k : Int) < (ls.length : Int) := by omega
      obtain ⟨P1, O1, rfl⟩ := hx2.addr (Nat.lt_of_le_of_lt (Nat.zero_le _) hlt)
      have r1 : wr.rangeAt P1 (O1 + k * 10) (lv (ls[k]'hlt)) := (hx2.below hg (Nat.le_refl _)).range k hlt
      have aP := hx3 _ (List.getElem_mem hlt)
      have hgood : Hid (mayL (ls[k]'hlt).l = true → ∀ j (h1 : j < ls.length), j < k + 1 → mayL ls[j].l = true) := fun h j h1 hj => by
        by_cases e : j = k
        · subst e; exact h
        · exact hev.out j h1 (by omega)
      have hbad : Hid (mayL (ls[k]'hlt).l = false → (ls.map Lv.l).all mayL = false) := fun h => by
        rw [List.all_eq_false]; exact ⟨_, List.mem_map_of_mem (List.getElem_mem hlt), by rw [h]; simp⟩
      generalize (ls[k]'hlt) = P at *
      obtain ⟨⟨m1, ⟨n1, o1, p1⟩⟩, pr, aa, ca, us, ⟨m2, ⟨n2, o2, p2⟩⟩⟩ := P
      have aP : Row tK w aa ca us := aP
      have hA := fun W => rterm_at ⟨m1, ⟨n1, o1, p1⟩⟩ W
      have hB := fun W => rterm_at ⟨m2, ⟨n2, o2, p2⟩⟩ W
      have hP := fun W => text_at pr W
      have hC := fun W (h : Below w.heap.size w W) => rtermsok_at aa ca us W (aP.below h (Nat.le_refl _))
      have hsl : mayL (Lv.l ⟨⟨m1, ⟨n1, o1, p1⟩⟩, pr, aa, ca, us, ⟨m2, ⟨n2, o2, p2⟩⟩⟩) = (mayT ⟨m1, ⟨n1, o1, p1⟩⟩ && (mayT ⟨m2, ⟨n2, o2, p2⟩⟩ && (fitsB pr && (decide (us.length ≤ 48) && us.all mayT)))) := by
        unfold mayL Lv.l mayA; simp only [Bool.and_assoc]
      rw [hsl] at hgood hbad
      generalize mayT ⟨m1, ⟨n1, o1, p1⟩⟩ = t1 at *
      generalize mayT ⟨m2, ⟨n2, o2, p2⟩⟩ = t2 at *
      generalize fitsB pr = t3 at *
      generalize (decide (us.length ≤ 48) && us.all mayT) = t4 at *
      have hF : ∀ (W X : World) (o : Obj), But W.heap.size (W.alloc o) X → Below W.heap.size W X := fun W X o d => (below_alloc W o).trans (d.lower (Nat.le_refl _) (by simp))
      have iN : (Try.prog.info? 80).map (·.size) = some 10 := by kernel_rfl
      have iP : (Try.prog.info? 80).map (·.size) = some (lv ⟨⟨m1, ⟨n1, o1, p1⟩⟩, pr, aa, ca, us, ⟨m2, ⟨n2, o2, p2⟩⟩⟩).length := iN
      clear hev hsl hx3 few
      go_upto_region 7 with (first
        | (refine wpList_load_mid rfl 80 _ rfl P1 (O1 + k * 10) rfl (lv ⟨⟨m1, ⟨n1, o1, p1⟩⟩, pr, aa, ca, us, ⟨m2, ⟨n2, o2, p2⟩⟩⟩) _ r1 Try.underlying80 rfl iP ?_)
        | (refine wpList_store_all rfl 80 _ _ rfl wr.heap.size 10 _ 80 (lv ⟨⟨m1, ⟨n1, o1, p1⟩⟩, pr, aa, ca, us, ⟨m2, ⟨n2, o2, p2⟩⟩⟩) rfl rfl (heap_alloc_new wr _) rfl rfl iN rfl ?_; intro w4 H4 d4; have B4 := hF wr w4 _ d4))
      have G4 := Below.then hg B4
      obtain ⟨x0, x1, x2, x3, x4, x5, x6, x7, x8, x9⟩ := lit_cells H4
      clear r1 d4
      go_wp2_with fail
      refine (hA _).mono ?_; rintro e w5 ⟨rfl, g5⟩
      have H5 := below_heap g5.below H4
      have G5 := Below.then G4 g5.below
      have L5 := Below.then (Below.then hg1 B4) g5.below
      clear x0 x1 x2 x3 x4 x5 x6 x7 x8 x9 H4 G4 hA g5
      obtain ⟨x0, x1, x2, x3, x4, x5, x6, x7, x8, x9⟩ := lit_cells H5
      cases t1
      · have hb := hideP (hbad.out rfl)
        go_wp2_with fail
        go_ret
        exact ⟨ret_bool (by simp [hb.out]), G5⟩
      go_wp2_with fail
      refine (hB _).mono ?_; rintro e w6 ⟨rfl, g6⟩
      have H6 := below_heap g6.below H5
      have G6 := Below.then G5 g6.below
      have L6 := Below.then L5 g6.below
      clear x0 x1 x2 x3 x4 x5 x6 x7 x8 x9 H5 G5 hB g6
      obtain ⟨x0, x1, x2, x3, x4, x5, x6, x7, x8, x9⟩ := lit_cells H6
      cases t2
      · have hb := hideP (hbad.out rfl)
        go_wp2_with fail
        go_ret
        exact ⟨ret_bool (by simp [hb.out]), G6⟩
      go_wp2_with fail
      refine (hP _).mono ?_; rintro e w7 ⟨rfl, rfl⟩
      cases t3
      · have hb := hideP (hbad.out rfl)
        go_wp2_with fail
        go_ret
        exact ⟨ret_bool (by simp [hb.out]), G6⟩
      go_wp2_with fail
      refine (hC _ G6).mono ?_; rintro e w7 ⟨rfl, g7⟩
      cases t4
      · have hb := hideP (hbad.out rfl)
        go_wp2_with fail
        go_ret
        exact ⟨ret_bool (by simp [hb.out]), Below.then G6 g7.below⟩
      have hg' := hideP (hgood.out rfl)
      go_wp2_with fail
      exact ⟨⟨k + 1, by simp, by omega, hg', Below.then L6 g7.below⟩, by simp [intOf]; omega⟩
    · have q2 : ¬ (k : Int) < (ls.length : Int) := by omega
      have hyes : Hid ((ls.map Lv.l).all mayL = true) := List.all_eq_true.2 fun x hx => by
        obtain ⟨l, hl, rfl⟩ := List.mem_map.1 hx
        obtain ⟨j, hj, rfl⟩ := List.getElem_of_mem hl
        exact hev.out j hj (by omega)
      go_wp2_with fail
      go_ret
      exact ⟨ret_bool (by rw [show ls.all (mayL ∘ Lv.l) = true from List.all_map.symm.trans hyes.out]; simp; omega), hg⟩
end Go.Proofs.Ytghhdbkgibpebaa
