/-
  The statement FactOwns, walked.
-/
import Derived.Test.YtdlhleblolcjpabLive
import Derived.Test.YtdlhleblolcjpabROrd
import Derived.Test.YtdlhleblolcjpabApp0
namespace Go.Proofs.Ytdlhleblolcjpab
open Go.RowKit Go.Sort

set_option maxHeartbeats 4000000 in
theorem factOwns_walk (who pred : List UInt8) (a : Option Addr) (c : Nat) (ks : List K) (w : World) (hl : ArgsAt w a c ks) :
    Calls Try.prog 3 #[str who, str pred, .slice a ks.length c] w fun e w' => e = .returned (.bool true) ∧ Below w.heap.size w w' := by
  have hV := fun (W : World) => live_at W
  have hN := fun (W : World) => num_at (-99) W
  have few := hl.few
  have ho0 := ownsArgs_empty w
  have hl0 := hl.below (below_alloc w (.cells #[] 27)) (Nat.le_refl _)
  have hs0 : w.heap.size ≤ (w.alloc (.cells #[] 27)).heap.size := (below_alloc _ _).size
  go_enter Try.func3, Try.ntmps3
  go_wp2_with (at_builtin; refine wpList_append_ks0 _ rfl _ _ rfl w.heap.size (.slice (some ⟨w.heap.size, 0, none⟩) 0 0) ks a c rfl ho0 rfl hl0 hs0 ?ap)
  case ap =>
    intro a1 c1 w1 hA1 hF1 hT1 hB1
    have hb1 : Below w.heap.size w w1 := (below_alloc w _).trans hB1
    have hOw := own_at who pred a1 c1 ks w1 hA1
    clear ho0 hl0 hs0 hB1
    go_wp2_with fail
    refine hOw.mono ?_
    rintro e w2 ⟨a2, c2, rfl, hA2, hF2, hB2⟩
    clear hOw
    go_wp2_with fail
    obtain ⟨w3, hw3⟩ : ∃ w3, w3 = w2.alloc (.cells #[str who, str who, str pred, .slice a2 ks.length c2] 24) := ⟨_, rfl⟩
    have b23 : Below w2.heap.size w2 w3 := by rw [hw3]; exact below_alloc _ _
    have H3 : w3.heap[w2.heap.size]? = some (.cells #[str who, str who, str pred, .slice a2 ks.length c2] 24) := by rw [hw3]; exact heap_alloc_new _ _
    rw [← hw3]
    clear hw3
    have b13 := Below.then hB2 b23
    have hA3 : Fv.At w3 ⟨who, who, pred, a2, c2, ks⟩ := hA2.below b23 (Nat.le_refl _)
    have b03 := Below.then hb1 b13
    have hA13 := hA1.below b13 (Nat.le_refl _)
    have hT13 : TagK w3 a1 := TagK.below hT1 b13
    have S12 := hB2.size
    by_cases h0 : ks.length = 0
    · obtain rfl : ks = [] := List.eq_nil_of_length_eq_zero h0
      have e0 := heap_cell H3 0; have e1 := heap_cell H3 1; have e2 := heap_cell H3 2; have e3 := heap_cell H3 3
      simp at e0 e1 e2 e3
      have hO := reforder_at ⟨who, who, pred, a2, c2, []⟩ ⟨who, who, pred, a, c, []⟩ w3 hA3 (hl.below b03 (Nat.le_refl _))
      rw [show cF (Fv.f ⟨who, who, pred, a2, c2, []⟩) (Fv.f ⟨who, who, pred, a, c, []⟩) = 0 from cF_self _] at hO
      go_wp2_with fail
      go_loopw [9] (fun v wr => v = .int .i64 0 ∧ w3 = wr) (fun _ _ => 0)
      case atStart => exact ⟨rfl, rfl⟩
      case round =>
        obtain ⟨rfl, rfl⟩ := hrel
        go_wp2_with fail
        refine hO.mono ?_
        rintro e w4 ⟨rfl, hg4⟩
        go_wp2_with fail
        refine (hV _).mono ?_
        rintro e w5 ⟨rfl, hb5⟩
        go_wp2_with fail
        go_ret
        exact ⟨rfl, Below.then (Below.then b03 hg4.below) hb5⟩
    · obtain ⟨g, o, rfl⟩ := hA1.addr (by omega)
      have hg0 : w.heap.size ≤ g := hF1 _ rfl
      have hg1 : g < w1.heap.size := cell_block (hA1.get 0 (by omega)).1
      have hap : Fv.Apart g ⟨who, who, pred, a2, c2, ks⟩ := fun ad ha => by have := hF2 ad ha; omega
      have hth : ∀ j, j < ks.length * 3 → (w3.cell? ⟨g, o + j, none⟩).isSome = true ∧ w3.frozen? ⟨g, o + j, none⟩ = false := fun j hj => by
        obtain ⟨u, hu⟩ : ∃ u, (kcells ks)[j]? = some u := ⟨_, List.getElem?_eq_getElem (by rw [kcells_len]; exact hj)⟩
        have h1 := hA13.cells _ rfl j u hu
        rw [Addr.add_lit] at h1
        obtain ⟨cur, hc⟩ := hT13 _ rfl
        exact ⟨by rw [h1]; rfl, heap_frozen hc _⟩
      have hne : w2.heap.size ≠ g := by omega
      clear hA1 hF1 hT1 hA2 hF2 hA13 hT13
      go_wp2_with fail
      go_loopw [9] (fun v wr => ∃ k : Nat, v = .int .i64 (k : Int) ∧ k ≤ ks.length ∧ (∀ j, j < ks.length * 3 → (wr.cell? ⟨g, o + j, none⟩).isSome = true ∧ wr.frozen? ⟨g, o + j, none⟩ = false) ∧ But g w3 wr) (fun v _ => ks.length - (intOf v).toNat)
      case atStart => exact ⟨0, rfl, by omega, hth, But.refl _ _⟩
      case round =>
        obtain ⟨k, rfl, hk, ht, hbut⟩ := hrel
        by_cases hlt : k < ks.length
        · have q1 : (k : Int) < (ks.length : Int) := by omega
          go_wp2_with fail
          refine (hN _).mono ?_
          rintro e w4 ⟨rfl, hg4⟩
          have hgr : g < wr.heap.size := Nat.lt_of_lt_of_le (Nat.lt_of_lt_of_le hg1 b13.size) hbut.size
          have ht4 : ∀ j, j < ks.length * 3 → (w4.cell? ⟨g, o + j, none⟩).isSome = true ∧ w4.frozen? ⟨g, o + j, none⟩ = false := fun j hj => by
            rw [hg4.below.cell (p := ⟨g, o + j, none⟩) hgr, hg4.below.frozen (p := ⟨g, o + j, none⟩) hgr]; exact ht j hj
          have t0 := ht4 (k * 3) (by omega)
          have t1 := ht4 (k * 3 + 1) (by omega)
          have t2 := ht4 (k * 3 + 2) (by omega)
          rw [← Nat.add_assoc] at t1 t2
          obtain ⟨u0, s0⟩ := Option.isSome_iff_exists.1 t0.1
          obtain ⟨u1, s1⟩ := Option.isSome_iff_exists.1 t1.1
          obtain ⟨u2, s2⟩ := Option.isSome_iff_exists.1 t2.1
          have f0 := t0.2; have f1 := t1.2; have f2 := t2.2
          have hbut4 := hbut.below hg4.below
          clear t0 t1 t2 ht hth
          go_wp2_with fail
          refine ⟨⟨k + 1, by simp, by omega, fun j hj => ?_, ((hbut4.set _ _).set _ _).set _ _⟩, by simp [intOf]; omega⟩
          obtain ⟨h1, h2⟩ := ht4 j hj
          obtain ⟨v, hv⟩ := Option.isSome_iff_exists.1 h1
          obtain ⟨v1, hv1⟩ := cell?_setCell_some (p := ⟨g, o + k * 3, none⟩) (x := .bool true) hv
          obtain ⟨v2, hv2⟩ := cell?_setCell_some (p := ⟨g, o + k * 3 + 1, none⟩) (x := .int .i64 (-99)) hv1
          obtain ⟨v3, hv3⟩ := cell?_setCell_some (p := ⟨g, o + k * 3 + 2, none⟩) (x := str []) hv2
          exact ⟨by rw [hv3]; rfl, by simpa using h2⟩
        · have q1 : ¬ (k : Int) < (ks.length : Int) := by omega
          have Hr := (hbut.block w2.heap.size (heap_lt H3) hne).trans H3
          have e0 := heap_cell Hr 0; have e1 := heap_cell Hr 1; have e2 := heap_cell Hr 2; have e3 := heap_cell Hr 3
          simp at e0 e1 e2 e3
          have b0r : Below w.heap.size w wr := b03.trans (hbut.lower hg0 b03.size)
          have hO := reforder_at ⟨who, who, pred, a2, c2, ks⟩ ⟨who, who, pred, a, c, ks⟩ wr (hA3.but hap hbut) (hl.below b0r (Nat.le_refl _))
          rw [show cF (Fv.f ⟨who, who, pred, a2, c2, ks⟩) (Fv.f ⟨who, who, pred, a, c, ks⟩) = 0 from cF_self _] at hO
          go_wp2_with fail
          refine hO.mono ?_
          rintro e w4 ⟨rfl, hg4⟩
          go_wp2_with fail
          refine (hV _).mono ?_
          rintro e w5 ⟨rfl, hb5⟩
          go_wp2_with fail
          go_ret
          exact ⟨rfl, Below.then (Below.then b0r hg4.below) hb5⟩

end Go.Proofs.Ytdlhleblolcjpab
