/-
  Two lists of numbers held against each other; the document's example: live.
-/
import Derived.Test.YtcncmpgababfjaaDoorQJl14
import Derived.Test.YtcncmpgababfjaaDoorQPj
import Derived.Test.YtcncmpgababfjaaDoorQPe14
namespace Go.Proofs.YtcncmpgababfjaaDoor
open Go.RowKit Go.Lib Go.Shelf

set_option maxRecDepth 100000 in
set_option maxHeartbeats 800000 in
theorem rints14_at (w : World) (a b : Option Addr) (c d : Nat) (N M : List Nat) (h : Row iK14 w a c N) (g : Row iK14 w b d M) :
    Calls Tryd.prog 7 #[.slice a N.length c, .slice b M.length d] w fun e w' => e = .returned (.bool (decide (N = M))) ∧ Below w.heap.size w w' := by
  have few := h.few
  have few2 := g.few
  by_cases hl : N.length = M.length
  · have q : (N.length : Int) = (M.length : Int) := by omega
    go_enter Tryd.func7, Tryd.ntmps7
    rw [← hl]
    go_wp2_with fail
    go_loopw [5] (fun v wr => ∃ k : Nat, v = .int .i64 (k : Int) ∧ k ≤ N.length ∧ Hid (N.take k = M.take k) ∧ Below w.heap.size w wr) (fun v _ => N.length - (RowKit.intOf v).toNat)
    case atStart => exact ⟨0, rfl, by omega, hideP (by simp), Below.refl _ _⟩
    case round =>
      obtain ⟨k, rfl, hk, he, B⟩ := hrel
      by_cases hlt : k < N.length
      · have q0 : (k : Int) < (N.length : Int) := by omega
        have Rn := h.below B (Nat.le_refl _)
        have Rm := g.below B (Nat.le_refl _)
        obtain ⟨b1, o1, rfl⟩ := Rn.addr (by omega)
        obtain ⟨b2, o2, rfl⟩ := Rm.addr (by omega)
        have hlt2 : k < M.length := by omega
        have c1 := Rn.num k hlt
        have c2 := Rm.num k hlt2
        have T1 := List.take_succ_eq_append_getElem hlt
        have T2 := List.take_succ_eq_append_getElem hlt2
        by_cases hq : N[k] = M[k]
        · have HE := hideP (show N.take (k + 1) = M.take (k + 1) by rw [T1, T2, he.out, hq])
          rw [← hq] at c2
          clear hq T1 T2
          generalize N[k] = z at *
          go_wp2_with fail
          go_region_held3 (fun W => W.cell? ⟨b1, o1 + k, none⟩ = some (.int .i64 (z : Int)) ∧ W.cell? ⟨b2, o2 + k, none⟩ = some (.int .i64 (z : Int))) (exact ⟨c1, c2⟩) (fail)
          go_wp2_with fail
          go_roundw
          case rel => exact ⟨k + 1, by go_num, hlt, HE, B.drew⟩
          case measure => simp [RowKit.intOf]; omega
        · have HN := hideP (show decide (N = M) = false by
            rw [decide_eq_false_iff_not]
            intro e
            subst e
            exact hq rfl)
          have q4 : ((N[k] : Int) == (M[k] : Int)) = false := beq_eq_false_iff_ne.2 fun h => hq (by omega)
          clear hq T1 T2
          generalize N[k] = z at *
          generalize M[k] = y at *
          go_wp2_with fail
          go_region_held3 (fun W => W.cell? ⟨b1, o1 + k, none⟩ = some (.int .i64 (z : Int)) ∧ W.cell? ⟨b2, o2 + k, none⟩ = some (.int .i64 (y : Int))) (exact ⟨c1, c2⟩) (fail)
          go_wp2_with fail
          go_ret
          exact ⟨ret_bool HN.out.symm, B.drew⟩
      · have q0 : ¬ (k : Int) < (N.length : Int) := by omega
        obtain rfl : k = N.length := by omega
        have HN := hideP (show decide (N = M) = true by
          have := he.out
          rw [List.take_length, hl, List.take_length] at this
          rw [decide_eq_true_iff]; exact this)
        go_wp2_with fail
        go_ret
        exact ⟨ret_bool HN.out.symm, B⟩
  · have q : ((N.length : Int) == (M.length : Int)) = false := beq_eq_false_iff_ne.2 fun h => hl (by omega)
    have HN := hideP (show decide (N = M) = false by
      rw [decide_eq_false_iff_not]
      intro e
      subst e
      exact hl rfl)
    clear hl
    go_enter Tryd.func7, Tryd.ntmps7
    go_wp2_with fail
    go_ret
    exact ⟨ret_bool HN.out.symm, Below.refl _ _⟩
theorem tot_ex14 : Pn.tot Pn.ex14 3 = 8 := by kernel_rfl
theorem lvs_ex14 : (Pn.ex14.body.all fun y => (Pn.lvs y).all fun v => decide (v.length ≤ 100)) = true := by kernel_rfl
set_option maxRecDepth 100000 in
set_option maxHeartbeats 1600000 in
theorem live14_at (w : World) (hL : Laid w) : Calls Tryd.prog 6 #[] w fun e w' => e = .returned (.bool true) ∧ Below w.heap.size w w' := by
  have T1 := hideP (pprog_ok Pn.px14 w (by decide) hL)
  have iR : (Tryd.prog.info? 29).map (·.size) = some 11 := by kernel_rfl
  go_enter Tryd.func6, Tryd.ntmps6
  go_wp2_with fail
  refine T1.out.mono ?_
  rintro e w1 ⟨⟨a1, c1, rfl, r1⟩, b1⟩
  obtain ⟨a, c, xs, h1, h2, h3, h4⟩ := r1
  simp only [Value.slice.injEq, List.length_cons, List.length_nil] at h1
  obtain ⟨rfl, hl, rfl⟩ := h1
  obtain ⟨z, rfl⟩ : ∃ z, xs = [z] := List.length_eq_one_iff.1 hl.symm
  have hz : z.r = Pn.ex14 := by simpa using h2
  have zA : Rv.Aw w1 z := (h4 z (List.mem_singleton.2 rfl)).aw
  have hbl : z.body.length = 3 := by
    have := congrArg (fun r : Ru => r.body.length) hz
    simpa [Rv.r, Pn.ex14] using this
  have hT : Pn.tot z.r z.body.length ≤ 900000 := by rw [hz, hbl, tot_ex14]; decide
  have hhm : z.home.v.length ≤ maxLen := by
    have : z.home = Pn.ex14.home := congrArg Ru.home hz
    rw [this]; decide
  have hs : ∀ y ∈ z.body, ∀ v ∈ Pn.lvs y.l, v.length ≤ maxLen := fun y hy v hv => by
    have hm : y.l ∈ Pn.ex14.body := by rw [← hz]; exact List.mem_map_of_mem hy
    have := List.all_eq_true.1 (List.all_eq_true.1 lvs_ex14 _ hm) v hv
    have : v.length ≤ 100 := by simpa using this
    unfold maxLen; omega
  have E1 := hideP Pn.ord14.1
  have E2 := hideP Pn.ord14.2
  have OR := hideP (fun (f : Int) W (hb : Below w1.heap.size w1 W) => order_at z f W (zA.below hb (Nat.le_refl _)) (by omega) hT hs hhm)
  rw [hz] at OR
  obtain ⟨b, o, rfl⟩ := h3.row.addr (by simp)
  have KZ := hideP (fun W (hb : Below w1.heap.size w1 W) => (show W.cell? ⟨b, o, none⟩ = some (str z.home.v) ∧ W.cell? ⟨b, o + 1, none⟩ = some (.bool z.home.k.num) ∧ W.cell? ⟨b, o + 2, none⟩ = some (.int .i64 z.home.k.n) ∧ W.cell? ⟨b, o + 3, none⟩ = some (str z.home.k.s) ∧ W.cell? ⟨b, o + 4, none⟩ = some (str z.pred) ∧ W.cell? ⟨b, o + 5, none⟩ = some (.slice z.a z.args.length z.cap) ∧ W.cell? ⟨b, o + 6, none⟩ = some (str z.to_.v) ∧ W.cell? ⟨b, o + 7, none⟩ = some (.bool z.to_.k.num) ∧ W.cell? ⟨b, o + 8, none⟩ = some (.int .i64 z.to_.k.n) ∧ W.cell? ⟨b, o + 9, none⟩ = some (str z.to_.k.s) ∧ W.cell? ⟨b, o + 10, none⟩ = some (.slice z.ba z.body.length z.bcap) from by
    have rg : W.rangeAt b (o + 0 * rK.k) (rK.enc z) := (h3.row.below hb (Nat.le_refl _)).range 0 (by simp)
    rw [Nat.zero_mul, Nat.add_zero] at rg
    exact ⟨rg 0 _ rfl, rg 1 _ rfl, rg 2 _ rfl, rg 3 _ rfl, rg 4 _ rfl, rg 5 _ rfl, rg 6 _ rfl, rg 7 _ rfl, rg 8 _ rfl, rg 9 _ rfl, rg 10 _ rfl⟩))
  clear hhm hs hT hbl h2 h3 h4 hz T1 hl zA
  obtain ⟨k0, k1, k2, k3, k4, k5, k6, k7, k8, k9, k10⟩ := KZ.out w1 (Below.refl _ _)
  go_wp2_with fail
  refine (OR.out (-1) w1 (Below.refl _ _)).mono ?_
  rintro e w2 ⟨⟨a2, c2, rfl, R2⟩, b2⟩
  rw [E1.out] at R2 ⊢
  have A3 := below_alloc w2 (.cells #[.int .i64 2, .int .i64 1, .int .i64 0] 3)
  have N3 := row_blk14 iK14 (heap_alloc_new w2 (.cells #[.int .i64 2, .int .i64 1, .int .i64 0] 3)) [2, 1, 0] rfl (by decide)
  have R3 := R2.below A3 (Nat.le_refl _)
  have B3 := Below.then b2 A3
  clear k0 k1 k2 k3 k4 k5 k6 k7 k8 k9 k10
  go_wp2_with fail
  refine (rints14_at _ a2 (some ⟨w2.heap.size, 0, none⟩) c2 3 [2, 1, 0] [2, 1, 0] R3 N3).mono ?_
  rintro e w4 ⟨rfl, b4⟩
  have B4 := Below.then B3 b4
  rw [show decide ([2, 1, 0] = [2, 1, 0]) = true by decide]
  obtain ⟨k0, k1, k2, k3, k4, k5, k6, k7, k8, k9, k10⟩ := KZ.out w4 B4
  go_wp2_with fail
  refine (OR.out 0 w4 B4).mono ?_
  rintro e w5 ⟨⟨a5, c5, rfl, R5⟩, b5⟩
  rw [E2.out] at R5 ⊢
  have A6 := below_alloc w5 (.cells #[.int .i64 0, .int .i64 1, .int .i64 2] 3)
  have N6 := row_blk14 iK14 (heap_alloc_new w5 (.cells #[.int .i64 0, .int .i64 1, .int .i64 2] 3)) [0, 1, 2] rfl (by decide)
  have R6 := R5.below A6 (Nat.le_refl _)
  clear k0 k1 k2 k3 k4 k5 k6 k7 k8 k9 k10
  go_wp2_with fail
  refine (rints14_at _ a5 (some ⟨w5.heap.size, 0, none⟩) c5 3 [0, 1, 2] [0, 1, 2] R6 N6).mono ?_
  rintro e w7 ⟨rfl, b7⟩
  rw [show decide ([0, 1, 2] = [0, 1, 2]) = true by decide]
  go_wp2_with fail
  go_ret
  exact ⟨rfl, Below.then b1 (Below.then (Below.then (Below.then B4 b5) A6) b7)⟩
end Go.Proofs.YtcncmpgababfjaaDoor
