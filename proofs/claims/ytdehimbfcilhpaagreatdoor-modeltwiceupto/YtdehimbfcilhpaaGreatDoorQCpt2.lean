/-
  slices.CompactFunc, walked.
-/
import Derived.Test.YtdehimbfcilhpaaGreatDoorQCpt
import Derived.Shelf.SlSortCmp.QuietGrown
namespace Go.Proofs.YtdehimbfcilhpaaGreatDoor
open Go.RowKit Go.Sort

theorem frozen_setCells (b : Nat) (p : Addr) : ∀ (V : List Value) (o : Nat) (w : World), (w.setCells b o V).frozen? p = w.frozen? p
  | [], _, _ => rfl
  | v :: r, o, w => by rw [World.setCells, frozen_setCells b p r]; simp
/-- what stands ahead of what is cleared -/
theorem RowF.head {w : World} {b : Nat} {xs ys : List Fv} (h : RowF w b (xs ++ ys)) (Z : List Value) : RowF (w.setCells b (xs.length * 4) Z) b xs := fun i hi c hc => by
  obtain ⟨h1, h2⟩ := h i (by rw [List.length_append]; omega) c hc
  rw [List.getElem_append_left hi] at h1
  refine ⟨?_, by rw [frozen_setCells]; exact h2⟩
  rw [World.cell?_setCells_out, h1]
  intro _ _
  left
  show i * 4 + c < xs.length * 4
  omega
theorem RowF.take {w : World} {b : Nat} {xs ys : List Fv} (h : RowF w b (xs ++ ys)) : RowF w b xs := fun i hi c hc => by
  have := h i (by rw [List.length_append]; omega) c hc
  rwa [List.getElem_append_left hi] at this
theorem RowF.some {w : World} {b : Nat} {xs : List Fv} (h : RowF w b xs) (j : Nat) (hj : j < xs.length * 4) : (w.cell? ⟨b, j, none⟩).isSome = true ∧ w.frozen? ⟨b, j, none⟩ = false := by
  have := h (j / 4) (by omega) (j % 4) (Nat.mod_lt _ (by decide))
  rw [show j / 4 * 4 + j % 4 = j by omega] at this
  refine ⟨?_, this.2⟩
  rw [this.1, List.getElem?_eq_getElem (by rw [fv_len]; omega)]; rfl

/-- the row while the second round is on -/
theorem mid_get (xs L : List Fv) (i : Nat) (hi : i < xs.length) (hL : L.length ≤ i) : (L ++ xs.drop L.length)[i]'(by simp; omega) = xs[i] := by
  rw [List.getElem_append_right hL, List.getElem_drop]
  congr 1; omega
theorem mid_set (xs L : List Fv) (x : Fv) (hL : L.length < xs.length) : (L ++ xs.drop L.length).set L.length x = (L ++ [x]) ++ xs.drop (L ++ [x]).length := by
  rw [List.set_append_right _ _ (Nat.le_refl _), Nat.sub_self, List.drop_eq_getElem_cons hL, List.set_cons_zero, List.append_assoc, List.length_append]
  rfl

set_option maxHeartbeats 8000000 in
theorem compact_at (w0 w : World) (blk cap : Nat) (xs : List Fv) (hxs : ∀ x ∈ xs, Fv.At w0 x) (hB : Below w0.heap.size w0 w) (hb0 : w0.heap.size ≤ blk) (hrow : RowF w blk xs) (hblk : blk < w.heap.size) (hcap : xs.length ≤ cap) (hlen : xs.length < 4611686018427387904) :
    Calls Tryz.prog 66 #[.slice (some ⟨blk, 0, none⟩) xs.length cap, .func (.func 67) #[] #[]] w
      fun e w' => e = .returned (.slice (some ⟨blk, 0, none⟩) (kept cV xs xs.length).length cap) ∧ RowF w' blk (kept cV xs xs.length) ∧ But blk w w' := by
  have mixed : Tryz.prog.follows .mixedOrders = true := by kernel_rfl
  have eg : ∀ args w, (callFunc 67 args).run Tryz.prog w = .ok (.enter 67 args) w := enters_of Tryz.func67 (by kernel_rfl) rfl
  have hC := fun (x y : Fv) (W : World) (hx : Fv.At W x) (hy : Fv.At W y) => ordered1_at x y W hx hy
  by_cases h2 : xs.length < 2
  · have q1 : (xs.length : Int) < 2 := by omega
    have hk : kept cV xs xs.length = xs := by
      rw [kept_all cV xs xs.length (Nat.le_refl _) (fun j h h0 hk => by omega), List.take_length]
    rw [hk]
    go_enter Tryz.func66, Tryz.ntmps66
    go_wp2_with fail
    go_ret
    exact ⟨rfl, hrow, But.refl _ _⟩
  · have q1 : ¬ (xs.length : Int) < 2 := by omega
    go_enter Tryz.func66, Tryz.ntmps66
    go_wp2_with fail
    go_loopw [5, 6, 7] (fun v _ _ wr => ∃ k : Nat, v = .int .i64 (k : Int) ∧ 1 ≤ k ∧ k ≤ xs.length ∧ Hid (∀ j (h : j < xs.length), 0 < j → j < k → cV xs[j] (xs[j - 1]'(by omega)) ≠ 0) ∧ Grew w wr) (fun v _ _ _ => xs.length - (intOf v).toNat)
    case atStart => exact ⟨1, rfl, by omega, by omega, fun j _ h0 h => absurd h (by omega), Grew.refl _⟩
    case round =>
      obtain ⟨k, rfl, hk1, hk, hev, hg⟩ := hrel
      by_cases hlt : k < xs.length
      · have q2 : (k : Int) < (xs.length : Int) := by omega
        obtain ⟨m, hm⟩ : ∃ m, k = m + 1 := ⟨k - 1, by omega⟩
        have q3 : IntKind.i64.wrap ((k : Int) - 1) = (m : Int) := by simp [IntKind.wrap, IntKind.bits, IntKind.signed]; omega
        have q4 : (m : Int) < (xs.length : Int) := by omega
        have hml : m < xs.length := by omega
        have em : k - 1 = m := by omega
        have hrow' := hrow.below hg.below hblk
        obtain ⟨a1, a2, a3, a4⟩ := hrow'.get k hlt
        obtain ⟨d1, d2, d3, d4⟩ := hrow'.get m hml
        have hBr : Below w0.heap.size w0 wr := hB.trans (hg.below.mono hB.size)
        have hxk : Fv.At wr (xs[k]'hlt) := (hxs _ (List.getElem_mem _)).below hBr (Nat.le_refl _)
        have hxj : Fv.At wr (xs[m]'hml) := (hxs _ (List.getElem_mem _)).below hBr (Nat.le_refl _)
        have hn : ∀ n os, Calls Tryz.prog 67 #[Fv.val (xs[k]'hlt), Fv.val (xs[m]'hml)] (grow (wr.drewN n) os) _ := fun n os => hC (xs[k]'hlt) (xs[m]'hml) _ (hxk.grew (Grew.grow _ _ _)) (hxj.grew (Grew.grow _ _ _))
        have A1 := fun n os => cell_grown (cell_block a1) a1 n os
        have A2 := fun n os => cell_grown (cell_block a2) a2 n os
        have A3 := fun n os => cell_grown (cell_block a3) a3 n os
        have A4 := fun n os => cell_grown (cell_block a4) a4 n os
        have D1 := fun n os => cell_grown (cell_block d1) d1 n os
        have D2 := fun n os => cell_grown (cell_block d2) d2 n os
        have D3 := fun n os => cell_grown (cell_block d3) d3 n os
        have D4 := fun n os => cell_grown (cell_block d4) d4 n os
        generalize hp : (xs[k]'hlt) = p at *
        generalize hq : (xs[m]'hml) = q at *
        have Hp := hideP hp; have Hq := hideP hq; have Hm := hideP hm; have Em := hideP em; have HX := hideP hxs; have HC := hideP hC; clear hm em hp hq hC hxk hxj hxs a1 a2 a3 a4 d1 d2 d3 d4
        by_cases hr : cV p q = 0
        · simp only [hr, decide_true] at hn
          go_wp2_with fail
          go_quiet_grown (first | (go_at_fn 67; refine Calls.grown_of (hn _ _)))
          have G1 : Grew w (grow (wr.drewN nq) osq) := hg.trans (Grew.grow _ _ _)
          generalize grow (wr.drewN nq) osq = w1 at *
          have q5 : ¬ cap = k := by omega
          have q6 : k ≤ cap := by omega
          have q7 : (k : Int) ≤ (cap : Int) := by omega
          have q8 : (k : Int) ≤ (xs.length : Int) := by omega
          go_wp2_with fail
          have hdup : Hid (kept cV xs (k + 1) = xs.take k) := by
            show _ = _
            rw [kept_dup cV xs k (by omega) hlt (by simp only [Em.out, Hp.out, Hq.out]; exact hr)]
            exact kept_all cV xs k (by omega) hev.out
          obtain ⟨n2, hn2⟩ : ∃ n2, xs.length - k = n2 := ⟨_, rfl⟩
          have Hn2 := hideP hn2
          rw [hn2]
          clear hn2 hn A1 A2 A3 A4 D1 D2 D3 D4 hr hev hrow' hBr hg
          go_loopw [5, 7] (fun v5 v7 wi => ∃ (t : Nat) (L : List Fv), 1 ≤ t ∧ t ≤ n2 ∧ v7 = .int .i64 (t : Int) ∧ v5 = .int .i64 (L.length : Int) ∧ Hid (L = kept cV xs (k + t)) ∧ L.length < k + t ∧ RowF wi blk (L ++ xs.drop L.length) ∧ But blk w wi) (fun _ v7 _ => n2 - (intOf v7).toNat)
          case atStart =>
            have := Hn2.out
            have hl : (xs.take k).length = k := by rw [List.length_take]; omega
            exact ⟨1, xs.take k, by omega, by omega, rfl, by rw [hl], hdup.out.symm, by omega, by rw [hl, List.take_append_drop]; exact hrow.below G1.below hblk, (But.refl _ _).below G1.below⟩
          case round =>
            obtain ⟨t, L, ht1, ht, rfl, rfl, hL, hLl, hR, hbut⟩ := hrel
            have hnn := Hn2.out
            by_cases hlt2 : t < n2
            · have q9 : (t : Int) < (n2 : Int) := by omega
              obtain ⟨m2, hm2⟩ : ∃ m2, t = m2 + 1 := ⟨t - 1, by omega⟩
              have qa : IntKind.i64.wrap ((t : Int) - 1) = (m2 : Int) := by simp [IntKind.wrap, IntKind.bits, IntKind.signed]; omega
              have qb : (m2 : Int) < (n2 : Int) := by omega
              have hi : k + t < xs.length := by omega
              have hj : k + m2 < xs.length := by omega
              have hRl : (L ++ xs.drop L.length).length = xs.length := by simp; omega
              have gi := mid_get xs L (k + t) hi (by omega)
              have gj := mid_get xs L (k + m2) hj (by omega)
              have getI : ∀ W, RowF W blk (L ++ xs.drop L.length) → W.cell? ⟨blk, k * 4 + t * 4, none⟩ = some (str (xs[k + t]'hi).at_) ∧ W.cell? ⟨blk, k * 4 + t * 4 + 1, none⟩ = some (str (xs[k + t]'hi).by_) ∧ W.cell? ⟨blk, k * 4 + t * 4 + 2, none⟩ = some (str (xs[k + t]'hi).pred) ∧ W.cell? ⟨blk, k * 4 + t * 4 + 3, none⟩ = some (.slice (xs[k + t]'hi).a (xs[k + t]'hi).ks.length (xs[k + t]'hi).cap) := fun W h => by
                have := h.get (k + t) (by omega)
                rwa [gi, Nat.add_mul] at this
              have getJ : ∀ W, RowF W blk (L ++ xs.drop L.length) → W.cell? ⟨blk, k * 4 + m2 * 4, none⟩ = some (str (xs[k + m2]'hj).at_) ∧ W.cell? ⟨blk, k * 4 + m2 * 4 + 1, none⟩ = some (str (xs[k + m2]'hj).by_) ∧ W.cell? ⟨blk, k * 4 + m2 * 4 + 2, none⟩ = some (str (xs[k + m2]'hj).pred) ∧ W.cell? ⟨blk, k * 4 + m2 * 4 + 3, none⟩ = some (.slice (xs[k + m2]'hj).a (xs[k + m2]'hj).ks.length (xs[k + m2]'hj).cap) := fun W h => by
                have := h.get (k + m2) (by omega)
                rwa [gj, Nat.add_mul] at this
              obtain ⟨a1, a2, a3, a4⟩ := getI _ hR
              obtain ⟨d1, d2, d3, d4⟩ := getJ _ hR
              have hBr : Below w0.heap.size w0 wr := hB.trans (hbut.lower hb0 hB.size)
              have hn : ∀ n os, Calls Tryz.prog 67 #[Fv.val (xs[k + t]'hi), Fv.val (xs[k + m2]'hj)] (grow (wr.drewN n) os) _ := fun n os => HC.out (xs[k + t]'hi) (xs[k + m2]'hj) _ (((HX.out _ (List.getElem_mem hi)).below hBr (Nat.le_refl _)).grew (Grew.grow _ _ _)) (((HX.out _ (List.getElem_mem hj)).below hBr (Nat.le_refl _)).grew (Grew.grow _ _ _))
              have A1 := fun n os => cell_grown (cell_block a1) a1 n os
              have A2 := fun n os => cell_grown (cell_block a2) a2 n os
              have A3 := fun n os => cell_grown (cell_block a3) a3 n os
              have A4 := fun n os => cell_grown (cell_block a4) a4 n os
              have D1 := fun n os => cell_grown (cell_block d1) d1 n os
              have D2 := fun n os => cell_grown (cell_block d2) d2 n os
              have D3 := fun n os => cell_grown (cell_block d3) d3 n os
              have D4 := fun n os => cell_grown (cell_block d4) d4 n os
              have hdup' := kept_dup cV xs (k + t) (by omega) hi
              have hnew' := kept_new cV xs (k + t) (by omega) hi
              have ej : k + t - 1 = k + m2 := by omega
              simp only [ej] at hdup' hnew'
              have Hdup := hideP hdup'; have Hnew := hideP hnew'
              have GetI := hideP getI
              have hblkR : blk < wr.heap.size := cell_block a1
              clear hdup' hnew' a1 a2 a3 a4 d1 d2 d3 d4 getI getJ gi gj
              generalize (xs[k + t]'hi) = p2 at *
              generalize (xs[k + m2]'hj) = r2 at *
              have Hm2 := hideP hm2; have Hej := hideP ej; have HRl := hideP hRl; have Hnn := hideP hnn; clear hm2 ej hRl hnn
              by_cases hr : cV p2 r2 = 0
              · simp only [hr, decide_true] at hn
                go_wp2_with fail
                go_quiet_grown (first | (go_at_fn 67; refine Calls.grown_of (hn _ _)))
                go_wp2_with fail
                refine ⟨⟨t + 1, L, by omega, by omega, by simp, rfl, ?_, by omega, ?_, ?_⟩, by simp [intOf]; omega⟩
                · show L = _; rw [hL.out]; exact (Hdup.out hr).symm
                · exact hR.below (Grew.grow wr _ _).below hblkR
                · exact hbut.below (Grew.grow wr _ _).below
              · simp only [hr, decide_false] at hn
                go_wp2_with fail
                go_quiet_grown (first | (go_at_fn 67; refine Calls.grown_of (hn _ _)))
                have hbut2 := hbut.below (Grew.grow wr nq osq).below
                have hR2 := hR.below (Grew.grow wr nq osq).below hblkR
                clear A1 A2 A3 A4 D1 D2 D3 D4 hn
                generalize grow (wr.drewN nq) osq = w2 at *
                obtain ⟨a1, a2, a3, a4⟩ := GetI.out _ hR2
                have hl : L.length < (L ++ xs.drop L.length).length := by rw [HRl.out]; omega
                obtain ⟨c1, c2, c3, c4⟩ := hR2.get L.length hl
                obtain ⟨f1, f2, f3, f4⟩ := hR2.thaw L.length hl
                have qc : (L.length : Int) < (xs.length : Int) := by omega
                have hst := hR2.store L.length hl p2
                rw [mid_set xs L p2 (by omega)] at hst
                generalize (L ++ xs.drop L.length)[L.length]'hl = old at *
                go_wp2_with fail
                refine ⟨⟨t + 1, L ++ [p2], by omega, by omega, by simp, by simp, ?_, by simp; omega, ?_, ?_⟩, by simp [intOf]; omega⟩
                · show L ++ [p2] = _; rw [hL.out]; exact (Hnew.out hr).symm
                · exact hst
                · exact (((hbut2.set _ _).set _ _).set _ _).set _ _
            · have q9 : ¬ (t : Int) < (n2 : Int) := by omega
              have hkt : k + t = xs.length := by omega
              have hRl : (L ++ xs.drop L.length).length = xs.length := by simp; omega
              have qd : L.length < xs.length := by omega
              obtain ⟨Z, hZ, hcl⟩ := run_clear_facts wr blk (L.length * 4) (xs.length - L.length) (cap - L.length) (by omega)
                (fun j hj => (hR.some (L.length * 4 + j) (by rw [hRl]; omega)).1) (fun j hj => (hR.some (L.length * 4 + j) (by rw [hRl]; omega)).2)
              have qe : (L.length : Int) ≤ (xs.length : Int) := by omega
              have qf : ¬ cap = L.length := by omega
              have qg : (L.length : Int) ≤ (cap : Int) := by omega
              have qh : L.length ≤ cap := by omega
              have HL : Hid (kept cV xs xs.length = L) := by show _ = _; rw [hL.out, hkt]
              clear hL
              go_wp2_with fail
              go_ret
              rw [HL.out]
              exact ⟨rfl, hR.head Z, hbut.cells Z _ _⟩
        · simp only [hr, decide_false] at hn
          go_wp2_with fail
          go_quiet_grown (first | (go_at_fn 67; refine Calls.grown_of (hn _ _)))
          go_wp2_with fail
          refine ⟨⟨k + 1, by simp, by omega, by omega, fun j h h0 hj => ?_, hg.trans (Grew.grow _ _ _)⟩, by simp [intOf]; omega⟩
          by_cases e : j = k
          · subst e; have e2 := Em.out; simp only [e2, Hp.out, Hq.out]; exact hr
          · exact hev.out j h h0 (by omega)
      · have q2 : ¬ (k : Int) < (xs.length : Int) := by omega
        have hk : kept cV xs xs.length = xs := by
          rw [kept_all cV xs xs.length (Nat.le_refl _) (fun j h h0 hk => hev.out j h h0 (by omega)), List.take_length]
        have Hk := hideP hk; clear hk
        go_wp2_with fail
        go_ret
        rw [Hk.out]
        exact ⟨rfl, hrow.below hg.below hblk, (But.refl _ _).below hg.below⟩

end Go.Proofs.YtdehimbfcilhpaaGreatDoor
