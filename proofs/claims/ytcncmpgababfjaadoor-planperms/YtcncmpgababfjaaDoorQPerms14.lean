/-
  PlanPerms: its walk.
-/
import Derived.Test.YtcncmpgababfjaaDoorQOrders14
namespace Go.Proofs.YtcncmpgababfjaaDoor
open Go.RowKit Go.Lib Go.Shelf

set_option maxRecDepth 100000 in
set_option maxHeartbeats 1600000 in
theorem planPerms_walk (x : Rv) (k : Int) (w : World) (hL : Laid w) (hx : Rv.Aw w x) (nx : Sh.RIn x.r ∧ TxR x ∧ TxV x.r) (_ : -9223372036854775808 ≤ k) (_ : k ≤ 9223372036854775807) :
    Calls Tryd.prog 4 #[rval x, .int .i64 k] w fun e w' => e = .returned (.bool true) ∧ Below w.heap.size w w' := by
  have LV := hideP live14_at
  have A0 := below_alloc w (.cells (rv x).toArray 29)
  have H0 := heap_alloc_new w (.cells (rv x).toArray 29)
  have W1 := below_alloc (w.alloc (.cells (rv x).toArray 29)) (.cells (rv x).toArray 29)
  have B0 := Below.then A0 W1
  have H1 := below_heap W1 H0
  have R1 : Row rK ((w.alloc (.cells (rv x).toArray 29)).alloc (.cells (rv x).toArray 29)) (some ⟨w.heap.size + 1, 0, none⟩) 1 [x] := by
    have := row_new rK (w.alloc (.cells (rv x).toArray 29)) (rv x).toArray 29 x rfl
    rwa [World.size_alloc] at this
  have T0 := hideP (rweight_few _ 1 [x] _ R1 (fun y hy => by rw [List.mem_singleton] at hy; subst hy; exact hx.below B0 (Nat.le_refl _)) (fun y hy => by rw [List.mem_singleton] at hy; subst hy; exact nx.2.1))
  rw [List.length_singleton] at T0
  go_enter Tryd.func4, Tryd.ntmps4
  go_wp2_with (first
    | (refine wpList_load_all rfl 29 _ rfl w.heap.size 11 29 (rv x) _ rfl H0 rfl Tryd.underlying29 rfl Tryd.iR11 ?_)
    | (refine wpList_build_one rfl 31 29 _ rfl (rv x) _ 11 160 rfl rfl (by decide) (by decide) Tryd.underlying31 Tryd.iRz14 ?_))
  refine T0.out.mono ?_
  rintro e w1 ⟨⟨r, rfl, hfew⟩, g1⟩
  have B1 : Below w.heap.size w w1 := Below.then B0 g1.below
  have H2 := below_heap g1.below H1
  have HF := hideP hfew
  clear hfew T0 R1 W1 H1 A0 B0 g1
  by_cases hr : r > 300
  · go_wp2_with fail
    refine (LV.out _ (hL.below B1)).mono ?_
    rintro e w2 ⟨rfl, b2⟩
    go_wp2_with fail
    go_ret
    exact ⟨rfl, Below.then B1 b2⟩
  obtain ⟨_, hfx⟩ := HF.out (by omega)
  have hv := vok_of nx.2.2 (hfx x (List.mem_singleton.2 rfl))
  have hrl : x.r.body.length = x.body.length := List.length_map ..
  have hbn : x.body.length ≤ 300 := by have := hv.few; rwa [hrl] at this
  have hT := tot_le14 x hv
  have hs := vok_texts14 x hv
  clear HF hfx
  have KK := hideP (fun (W : World) (h : Below w1.heap.size w1 W) => (show W.cell? ⟨w.heap.size, 0, none⟩ = some (str x.home.v) ∧ W.cell? ⟨w.heap.size, 1, none⟩ = some (.bool x.home.k.num) ∧ W.cell? ⟨w.heap.size, 2, none⟩ = some (.int .i64 x.home.k.n) ∧ W.cell? ⟨w.heap.size, 3, none⟩ = some (str x.home.k.s) ∧ W.cell? ⟨w.heap.size, 4, none⟩ = some (str x.pred) ∧ W.cell? ⟨w.heap.size, 5, none⟩ = some (.slice x.a x.args.length x.cap) ∧ W.cell? ⟨w.heap.size, 6, none⟩ = some (str x.to_.v) ∧ W.cell? ⟨w.heap.size, 7, none⟩ = some (.bool x.to_.k.num) ∧ W.cell? ⟨w.heap.size, 8, none⟩ = some (.int .i64 x.to_.k.n) ∧ W.cell? ⟨w.heap.size, 9, none⟩ = some (str x.to_.k.s) ∧ W.cell? ⟨w.heap.size, 10, none⟩ = some (.slice x.ba x.body.length x.bcap) from by
    have e1 := below_heap h H2
    refine ⟨?_, ?_, ?_, ?_, ?_, ?_, ?_, ?_, ?_, ?_, ?_⟩
    all_goals (rw [heap_cell e1]; rfl)))
  have X1 := hideP (fun (W : World) (h : Below w1.heap.size w1 W) => hx.below (Below.then B1 h) (Nat.le_refl _))
  have TP := hideP (fun (W : World) (h : Below w1.heap.size w1 W) => order_at x k W (X1.out W h) (by omega) hT hs hv.home)
  obtain ⟨hok, hlen, hfst⟩ := Pn.ord_ok x.r k
  rw [hrl] at hlen hfst
  have hltN := hideP (fun j (h : j < (Pn.ord x.r k).length) => (show (Pn.ord x.r k)[j] < x.body.length by have := hok.lt _ (List.getElem_mem h); rwa [hrl] at this))
  have hnd := hideP hok.one
  have HF0 := hideP hfst
  clear hok hfst
  generalize Pn.ord x.r k = N at *
  clear hT hs
  have c10 := (KK.out w1 (Below.refl _ _)).2.2.2.2.2.2.2.2.2.2
  obtain ⟨k0, k1, k2, k3, k4, k5, k6, k7, k8, k9, k10⟩ := KK.out w1 (Below.refl _ _)
  clear c10
  go_wp2_with fail
  refine (TP.out w1 (Below.refl _ _)).mono ?_
  rintro e w2 ⟨⟨a2, c2, rfl, R2⟩, b2⟩
  clear k0 k1 k2 k3 k4 k5 k6 k7 k8 k9 k10
  have k10 := (KK.out w2 b2).2.2.2.2.2.2.2.2.2.2
  have few2 := R2.few
  obtain ⟨iB, hB0, hB1, hB2, hB3⟩ := info_parts Tryd.iB14
  have makeB : ∀ X : World, (Instr.makeSlice 37 (.int .i64 (x.body.length : Int)) (.int .i64 (x.body.length : Int))).run Tryd.prog X = .ok (.slice (some ⟨X.heap.size, 0, none⟩) x.body.length x.body.length) (X.alloc (.cells (bvs x.body.length []) 4)) := fun X => by
    have := run_make (P := Tryd.prog) X 37 4 iB (.bool false) Tryd.underlying37 hB0 hB1 .i64 .i64 (x.body.length : Int) (x.body.length : Int) (by omega) (Int.le_refl _) (by rw [hB3]; omega) (by omega)
    rw [hB2, Int.toNat_natCast, Nat.mul_one, made_bools] at this
    exact this
  rw [hlen]
  by_cases h0 : 0 ≤ k
  · by_cases h1 : k < (x.body.length : Int)
    · have f0 := HF0.out h0 h1
      obtain ⟨b, o, rfl⟩ := R2.addr (by omega)
      have n0 := R2.num 0 (by omega)
      have e0 : N[0]'(by omega) = k.toNat := by
        rw [List.getElem?_eq_getElem (by omega)] at f0
        exact Option.some.inj f0
      rw [e0, Int.toNat_of_nonneg h0, Nat.add_zero] at n0
      go_wp2_with fail
      go_loopw [7] (fun v wr => ∃ j : Nat, v = .int .i64 (j : Int) ∧ j ≤ x.body.length ∧ wr.heap[w2.heap.size]? = some (.cells (bvs x.body.length (N.take j)) 4) ∧ Below w2.heap.size w2 wr) (fun v _ => x.body.length - (RowKit.intOf v).toNat)
      case atStart => exact ⟨0, rfl, Nat.zero_le _, heap_alloc_new w2 _, below_alloc w2 _⟩
      case round =>
        obtain ⟨j, rfl, hj, Hj, Bj⟩ := hrel
        by_cases hlt : j < x.body.length
        · have q1 : (j : Int) < (x.body.length : Int) := by omega
          have hjN : j < N.length := by omega
          have Rj := R2.below Bj (Nat.le_refl _)
          have cz := Rj.num j hjN
          have zl := hltN.out j hjN
          have zn := hideP (show N[j] ∉ N.take j from fun hm => by
            have h2 := hnd.out
            rw [← List.take_append_drop j N] at h2
            have h3 := (List.nodup_append.1 h2).2.2 _ hm (N[j]) (by rw [List.drop_eq_getElem_cons hjN]; exact List.mem_cons_self ..)
            exact h3 rfl)
          have HT := hideP (show N.take (j + 1) = N.take j ++ [N[j]] from List.take_succ_eq_append_getElem hjN)
          generalize N[j] = z at *
          have sz : wr.cell? ⟨w2.heap.size, z, none⟩ = some (.bool false) := by rw [heap_cell Hj, bvs_get _ zl, decide_eq_false zn.out]
          have fz : wr.frozen? ⟨w2.heap.size, z, none⟩ = false := heap_frozen Hj _
          have q2 : ¬ (z : Int) < 0 := by omega
          have q3 : (z : Int) < (x.body.length : Int) := by omega
          have q4 : ¬ (x.body.length : Int) ≤ (z : Int) := by omega
          have bS := (But.refl w2.heap.size wr).set z (.bool true)
          have HS : (wr.setCell ⟨w2.heap.size, z, none⟩ (.bool true)).heap[w2.heap.size]? = some (.cells (bvs x.body.length (N.take (j + 1))) 4) := by rw [heap_setCell_same wr _ z _ _ _ Hj, bvs_set, HT.out]
          go_wp2_with fail
          go_roundw
          case rel => exact ⟨j + 1, rfl, hlt, HS, Bj.trans (bS.lower (Nat.le_refl _) Bj.size)⟩
          case measure => simp [RowKit.intOf]; omega
        · have q1 : ¬ (j : Int) < (x.body.length : Int) := by omega
          go_wp2_with fail
          have BL := Below.then B1 (Below.then b2 Bj)
          refine (LV.out _ (hL.below BL)).mono ?_
          rintro e w5 ⟨rfl, b5⟩
          go_wp2_with fail
          go_ret
          exact ⟨rfl, Below.then BL b5⟩
    · go_wp2_with fail
      go_loopw [7] (fun v wr => ∃ j : Nat, v = .int .i64 (j : Int) ∧ j ≤ x.body.length ∧ wr.heap[w2.heap.size]? = some (.cells (bvs x.body.length (N.take j)) 4) ∧ Below w2.heap.size w2 wr) (fun v _ => x.body.length - (RowKit.intOf v).toNat)
      case atStart => exact ⟨0, rfl, Nat.zero_le _, heap_alloc_new w2 _, below_alloc w2 _⟩
      case round =>
        obtain ⟨j, rfl, hj, Hj, Bj⟩ := hrel
        by_cases hlt : j < x.body.length
        · have q1 : (j : Int) < (x.body.length : Int) := by omega
          have hjN : j < N.length := by omega
          have Rj := R2.below Bj (Nat.le_refl _)
          obtain ⟨b, o, rfl⟩ := Rj.addr (by omega)
          have cz := Rj.num j hjN
          have zl := hltN.out j hjN
          have zn := hideP (show N[j] ∉ N.take j from fun hm => by
            have h2 := hnd.out
            rw [← List.take_append_drop j N] at h2
            have h3 := (List.nodup_append.1 h2).2.2 _ hm (N[j]) (by rw [List.drop_eq_getElem_cons hjN]; exact List.mem_cons_self ..)
            exact h3 rfl)
          have HT := hideP (show N.take (j + 1) = N.take j ++ [N[j]] from List.take_succ_eq_append_getElem hjN)
          generalize N[j] = z at *
          have sz : wr.cell? ⟨w2.heap.size, z, none⟩ = some (.bool false) := by rw [heap_cell Hj, bvs_get _ zl, decide_eq_false zn.out]
          have fz : wr.frozen? ⟨w2.heap.size, z, none⟩ = false := heap_frozen Hj _
          have q2 : ¬ (z : Int) < 0 := by omega
          have q3 : (z : Int) < (x.body.length : Int) := by omega
          have q4 : ¬ (x.body.length : Int) ≤ (z : Int) := by omega
          have bS := (But.refl w2.heap.size wr).set z (.bool true)
          have HS : (wr.setCell ⟨w2.heap.size, z, none⟩ (.bool true)).heap[w2.heap.size]? = some (.cells (bvs x.body.length (N.take (j + 1))) 4) := by rw [heap_setCell_same wr _ z _ _ _ Hj, bvs_set, HT.out]
          go_wp2_with fail
          go_roundw
          case rel => exact ⟨j + 1, rfl, hlt, HS, Bj.trans (bS.lower (Nat.le_refl _) Bj.size)⟩
          case measure => simp [RowKit.intOf]; omega
        · have q1 : ¬ (j : Int) < (x.body.length : Int) := by omega
          go_wp2_with fail
          have BL := Below.then B1 (Below.then b2 Bj)
          refine (LV.out _ (hL.below BL)).mono ?_
          rintro e w5 ⟨rfl, b5⟩
          go_wp2_with fail
          go_ret
          exact ⟨rfl, Below.then BL b5⟩
  · go_wp2_with fail
    go_loopw [7] (fun v wr => ∃ j : Nat, v = .int .i64 (j : Int) ∧ j ≤ x.body.length ∧ wr.heap[w2.heap.size]? = some (.cells (bvs x.body.length (N.take j)) 4) ∧ Below w2.heap.size w2 wr) (fun v _ => x.body.length - (RowKit.intOf v).toNat)
    case atStart => exact ⟨0, rfl, Nat.zero_le _, heap_alloc_new w2 _, below_alloc w2 _⟩
    case round =>
      obtain ⟨j, rfl, hj, Hj, Bj⟩ := hrel
      by_cases hlt : j < x.body.length
      · have q1 : (j : Int) < (x.body.length : Int) := by omega
        have hjN : j < N.length := by omega
        have Rj := R2.below Bj (Nat.le_refl _)
        obtain ⟨b, o, rfl⟩ := Rj.addr (by omega)
        have cz := Rj.num j hjN
        have zl := hltN.out j hjN
        have zn := hideP (show N[j] ∉ N.take j from fun hm => by
          have h2 := hnd.out
          rw [← List.take_append_drop j N] at h2
          have h3 := (List.nodup_append.1 h2).2.2 _ hm (N[j]) (by rw [List.drop_eq_getElem_cons hjN]; exact List.mem_cons_self ..)
          exact h3 rfl)
        have HT := hideP (show N.take (j + 1) = N.take j ++ [N[j]] from List.take_succ_eq_append_getElem hjN)
        generalize N[j] = z at *
        have sz : wr.cell? ⟨w2.heap.size, z, none⟩ = some (.bool false) := by rw [heap_cell Hj, bvs_get _ zl, decide_eq_false zn.out]
        have fz : wr.frozen? ⟨w2.heap.size, z, none⟩ = false := heap_frozen Hj _
        have q2 : ¬ (z : Int) < 0 := by omega
        have q3 : (z : Int) < (x.body.length : Int) := by omega
        have q4 : ¬ (x.body.length : Int) ≤ (z : Int) := by omega
        have bS := (But.refl w2.heap.size wr).set z (.bool true)
        have HS : (wr.setCell ⟨w2.heap.size, z, none⟩ (.bool true)).heap[w2.heap.size]? = some (.cells (bvs x.body.length (N.take (j + 1))) 4) := by rw [heap_setCell_same wr _ z _ _ _ Hj, bvs_set, HT.out]
        go_wp2_with fail
        go_roundw
        case rel => exact ⟨j + 1, rfl, hlt, HS, Bj.trans (bS.lower (Nat.le_refl _) Bj.size)⟩
        case measure => simp [RowKit.intOf]; omega
      · have q1 : ¬ (j : Int) < (x.body.length : Int) := by omega
        go_wp2_with fail
        have BL := Below.then B1 (Below.then b2 Bj)
        refine (LV.out _ (hL.below BL)).mono ?_
        rintro e w5 ⟨rfl, b5⟩
        go_wp2_with fail
        go_ret
        exact ⟨rfl, Below.then BL b5⟩
end Go.Proofs.YtcncmpgababfjaaDoor
