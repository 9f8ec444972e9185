/-
  The reference's weight of rules: where it is within 600 there are at most 600 of anything. Rules that came in have texts within reach.
-/
import Derived.Test.YtghhdbkgibpebaaW5
namespace Go.Proofs.Ytghhdbkgibpebaa
open Go.ChangeShapes Go.WideShapes Go.ChangeAt
open Go.RowKit Go.Sort

structure TxR (x : Rv) : Prop where
  a : x.pred.length ≤ 140737488351232
  b : ∀ l ∈ x.body, l.pred.length ≤ 140737488351232
structure FewR (x : Rv) : Prop where
  a : x.args.length ≤ 600
  b : x.body.length ≤ 600
  c : ∀ l ∈ x.body, l.args.length ≤ 600

set_option maxRecDepth 100000 in
set_option maxHeartbeats 4000000 in
theorem rweight_few (a : Option Addr) (c : Nat) (xs : List Rv) (w : World) (hx : Row rK w a c xs) (ax : ∀ x ∈ xs, Rv.At w x) (tx : ∀ x ∈ xs, TxR x) :
    Calls Try.prog 19 #[.slice a xs.length c, .int .i64 600] w fun e w' => (∃ r : Int, e = .returned (.int .i64 r) ∧ (¬ 600 < r → xs.length ≤ 600 ∧ ∀ x ∈ xs, FewR x)) ∧ Grew w w' := by
  have mixed : Try.prog.follows .mixedOrders = true := by kernel_rfl
  have b1 := hx.few
  go_enter Try.func19, Try.ntmps19
  go_wp2_with fail
  go_loopw [5, 6, 7] (fun v5 v6 _ wr => ∃ (k : Nat) (n : Int), v5 = .int .i64 n ∧ v6 = .int .i64 (k : Int) ∧ k ≤ xs.length ∧ (k : Int) ≤ n ∧ n ≤ 4611686018427387904 ∧ Hid (n ≤ 600 → ∀ j (h : j < xs.length), j < k → FewR xs[j]) ∧ Grew w wr) (fun _ v6 _ _ => xs.length - (intOf v6).toNat)
  case atStart => exact ⟨0, 0, rfl, rfl, by omega, by omega, by omega, fun _ j _ h => absurd h (by omega), Grew.refl _⟩
  case round =>
    obtain ⟨k, n, rfl, rfl, hk, hkn, hnt, hfw, hg⟩ := hrel
    by_cases hlt : k < xs.length
    · have q2 : (k : Int) < (xs.length : Int) := by omega
      by_cases hn : n ≤ 600
      · obtain ⟨P1, O1, rfl⟩ := hx.addr (Nat.lt_of_le_of_lt (Nat.zero_le _) hlt)
        have hx' := hx.below hg.below (Nat.le_refl _)
        have hA := (ax _ (List.getElem_mem hlt)).below hg.below (Nat.le_refl _)
        have a1 : wr.cell? ⟨P1, O1 + k * 11 + 4, none⟩ = _ := hx'.range k hlt 4 _ rfl
        have a2 : wr.cell? ⟨P1, O1 + k * 11 + 5, none⟩ = _ := hx'.range k hlt 5 _ rfl
        have a4 : wr.cell? ⟨P1, O1 + k * 11 + 10, none⟩ = _ := hx'.range k hlt 10 _ rfl
        have hT := tx _ (List.getElem_mem hlt)
        have hnext : Hid (FewR (xs[k]'hlt) → ∀ j (h : j < xs.length), j < k + 1 → FewR xs[j]) := fun h j h1 hj => by
          by_cases e : j = k
          · subst e; exact h
          · exact hfw.out hn j h1 (by omega)
        generalize (xs[k]'hlt) = p at *
        obtain ⟨t1, t2⟩ := hT
        clear hfw
        have hfew := hA.args.few
        have hfew2 := hA.body.few
        go_wp2_with fail
        go_quiet (fail)
        go_wp2_with fail
        have hg2 := hg.trans (Grew.drewN wr nq)
        have b2 := (Grew.drewN wr nq).below
        have e4 := (b2.cell (p := ⟨P1, O1 + k * 11 + 10, none⟩) (cell_block a4)).trans a4
        have hA2 := hA.body.below b2 (Nat.le_refl _)
        have hE2 := fun l hl => (hA.each l hl).below b2 (Nat.le_refl _)
        generalize wr.drewN nq = w2 at *
        clear a1 a2 a4 b2 hA hx' hg
        go_loopw [5, 7] (fun v5 v7 wi => ∃ (j : Nat) (n : Int), v5 = .int .i64 n ∧ v7 = .int .i64 (j : Int) ∧ j ≤ p.body.length ∧ (k : Int) + 1 + (p.args.length : Int) + (j : Int) ≤ n ∧ n ≤ 4611686018427387904 ∧ Hid (n ≤ 600 → ∀ i (h : i < p.body.length), i < j → p.body[i].args.length ≤ 600) ∧ Grew w2 wi) (fun _ v7 _ => p.body.length - (intOf v7).toNat)
        case atStart => exact ⟨0, _, rfl, rfl, by omega, by omega, by omega, fun _ j _ h => absurd h (by omega), Grew.refl _⟩
        case round =>
          obtain ⟨j, n', rfl, rfl, hj, hn1, hn2, hfi, hgi⟩ := hrel
          have c4 := (hgi.below.cell (p := ⟨P1, O1 + k * 11 + 10, none⟩) (cell_block e4)).trans e4
          by_cases hjl : j < p.body.length
          · have q3 : (j : Int) < (p.body.length : Int) := by omega
            by_cases hn' : n' ≤ 600
            · have hA3 := hA2.below hgi.below (Nat.le_refl _)
              obtain ⟨P2, O2, hP2⟩ := hA3.addr (Nat.lt_of_le_of_lt (Nat.zero_le _) hjl)
              rw [hP2] at hA3 c4
              have hE3 := hE2 _ (List.getElem_mem hjl)
              have m1 : wr.cell? ⟨P2, O2 + j * 10 + 4, none⟩ = _ := hA3.range j hjl 4 _ rfl
              have m2 : wr.cell? ⟨P2, O2 + j * 10 + 5, none⟩ = _ := hA3.range j hjl 5 _ rfl
              have t5 := t2 _ (List.getElem_mem hjl)
              have hin : Hid ((p.body[j]'hjl).args.length ≤ 600 → ∀ i (h : i < p.body.length), i < j + 1 → p.body[i].args.length ≤ 600) := fun h i h1 hi => by
                by_cases e : i = j
                · subst e; exact h
                · exact hfi.out hn' i h1 (by omega)
              generalize (p.body[j]'hjl) = q at *
              have hfew3 := Row.few hE3
              go_wp2_with fail
              go_quiet (fail)
              go_wp2_with fail
              exact ⟨⟨j + 1, _, rfl, by simp, by omega, by omega, by omega, fun h => hin.out (by omega), hgi.trans (Grew.drewN wr nq)⟩, by simp [intOf]; omega⟩
            · go_wp2_with fail
              exact ⟨⟨k + 1, n', rfl, by simp, by omega, by omega, by omega, fun h => absurd h hn', hg2.trans hgi⟩, by simp [intOf]; omega⟩
          · have q3 : ¬ (j : Int) < (p.body.length : Int) := by omega
            go_wp2_with fail
            exact ⟨⟨k + 1, n', rfl, by simp, by omega, by omega, by omega, fun h => hnext.out ⟨by omega, by omega, fun l hl => by
              obtain ⟨i, hi, rfl⟩ := List.getElem_of_mem hl
              exact hfi.out h i hi (by omega)⟩, hg2.trans hgi⟩, by simp [intOf]; omega⟩
      · go_wp2_with fail
        go_ret
        exact ⟨⟨n, rfl, fun h => by omega⟩, hg⟩
    · have q2 : ¬ (k : Int) < (xs.length : Int) := by omega
      go_wp2_with fail
      go_ret
      exact ⟨⟨n, rfl, fun h => ⟨by omega, fun x hx => by
        obtain ⟨j, hj, rfl⟩ := List.getElem_of_mem hx
        exact hfw.out (by omega) j hj (by omega)⟩⟩, hg⟩


/-! RULES THAT CAME IN, with their names within reach -/

theorem cells_lit2 {H : Type} {enc : TypeId × Value → H} {W : World} {fuel : Nat} {cs : List Value} {x : DataW H × List MemPlace} (h : DataW.trod enc Try.prog W 0 (fun _ => true) true fuel 80 cs = some x) (hw : ∀ n ∈ x.1.weights Try.prog 80, n ≤ reachBytes) : ∃ v : Lv, cs = lv v ∧ (Lv.At W v ∧ LIn v.l ∧ v.pred.length ≤ 140737488351232) := by
  obtain ⟨y0, y1, y2, y3, n, rfl, hl, h0, h1, h2, h3⟩ := Joins.trod_struct4 Try.underlying80 h
  rw [Try.cellsL] at hl
  obtain ⟨a0, a1, a2, a3, a4, a5, a6, a7, a8, a9, rfl⟩ := ten hl
  simp only [Try.cellsT, Try.cellsTs, Try.cellsS, List.drop_zero, List.drop_succ_cons, List.take_succ_cons, List.take_zero] at h0 h1 h2 h3
  obtain ⟨t0, e0, k0⟩ := cells_term h0
  obtain ⟨s1, e1, f1', _⟩ := DataW.trod_string Try.underlying9 h1
  subst f1'
  obtain ⟨⟨l1⟩⟩ := s1
  have g1 : l1.length ≤ reachBytes := hw _ (by
    rw [DataW.weights]
    simp only [Try.underlying80, List.map_cons, List.map_nil, DataW.weightsEach, List.mem_append]
    refine .inr (.inl ?_)
    rw [DataW.weights]; exact List.mem_singleton.2 rfl)
  obtain ⟨a, c, ts, e2, hA, k2⟩ := cells_terms h2 (fun n hn => hw n (by
    rw [DataW.weights]
    simp only [Try.underlying80, List.map_cons, List.map_nil, DataW.weightsEach, List.mem_append]
    exact .inr (.inr (.inl hn))))
  obtain ⟨t3, e3, k3⟩ := cells_term h3
  simp only [List.cons.injEq, and_true, tv] at e0 e1 e2 e3
  exact ⟨⟨t0, l1, a, c, ts, t3⟩, by rw [e0.1, e0.2.1, e0.2.2.1, e0.2.2.2, e1, e2, e3.1, e3.2.1, e3.2.2.1, e3.2.2.2]; rfl, hA, ⟨k0, k3, k2⟩, g1⟩
theorem cells_rule2 {H : Type} {enc : TypeId × Value → H} {W : World} {fuel : Nat} {cs : List Value} {x : DataW H × List MemPlace} (h : DataW.trod enc Try.prog W 0 (fun _ => true) true fuel 55 cs = some x) (hw : ∀ n ∈ x.1.weights Try.prog 55, n ≤ reachBytes) : ∃ v : Rv, cs = rv v ∧ (Rv.At W v ∧ RIn v.r ∧ TxR v) := by
  obtain ⟨y0, y1, y2, y3, y4, n, hx, hl, h0, h1, h2, h3, h4⟩ := trod_struct5 Try.underlying55 h
  rw [hx] at hw
  rw [Try.cellsR] at hl
  obtain ⟨a0, a1, a2, a3, a4, a5, a6, a7, a8, a9, a10, rfl⟩ := eleven hl
  simp only [Try.cellsT, Try.cellsTs, Try.cellsLs, Try.cellsS, List.drop_zero, List.drop_succ_cons, List.take_succ_cons, List.take_zero] at h0 h1 h2 h3 h4
  obtain ⟨t0, e0, k0⟩ := cells_term h0
  obtain ⟨s1, e1, f1', _⟩ := DataW.trod_string Try.underlying9 h1
  subst f1'
  obtain ⟨⟨l1⟩⟩ := s1
  have g1 : l1.length ≤ reachBytes := hw _ (by
    rw [DataW.weights]
    simp only [Try.underlying55, List.map_cons, List.map_nil, DataW.weightsEach, List.mem_append]
    refine .inr (.inl ?_)
    rw [DataW.weights]; exact List.mem_singleton.2 rfl)
  obtain ⟨a, c, ts, e2, hA, k2⟩ := cells_terms h2 (fun n hn => hw n (by
    rw [DataW.weights]
    simp only [Try.underlying55, List.map_cons, List.map_nil, DataW.weightsEach, List.mem_append]
    exact .inr (.inr (.inl hn))))
  obtain ⟨t3, e3, k3⟩ := cells_term h3
  obtain ⟨a', c', ls, e4, hL, _, _, k4⟩ := cells_row lK 53 80 136 Try.underlying53 Try.cellsL Try.bytesL (by omega) (fun v : Lv => Lv.At W v ∧ LIn v.l ∧ v.pred.length ≤ 140737488351232) (fun h hw => cells_lit2 h hw) h4 (fun n hn => hw n (by
    rw [DataW.weights]
    simp only [Try.underlying55, List.map_cons, List.map_nil, DataW.weightsEach, List.mem_append]
    exact .inr (.inr (.inr (.inr (.inl hn))))))
  simp only [List.cons.injEq, and_true, tv] at e0 e1 e2 e3 e4
  refine ⟨⟨t0, l1, a, c, ts, t3, a', c', ls⟩, by rw [e0.1, e0.2.1, e0.2.2.1, e0.2.2.2, e1, e2, e3.1, e3.2.1, e3.2.2.1, e3.2.2.2, e4]; rfl, ⟨hA, hL, fun l hl => (k4 l hl).1⟩, ⟨k0, k3, k2, fun l hl => ?_⟩, ⟨g1, fun l hl => (k4 l hl).2.2⟩⟩
  obtain ⟨v, hv, rfl⟩ := List.mem_map.1 hl
  exact (k4 v hv).2.1
set_option maxRecDepth 100000 in
theorem open_rules2 {H : Type} {enc : TypeId × Value → H} {W : World} {base : Nat} {v : Value} {d : DataW H} {p : List MemPlace} (hw : ∀ n ∈ d.weights Try.prog 38, n ≤ reachBytes) (hv : Value.okWide Try.prog W .any base 38 v) (ht : DataW.Trod enc Try.prog W 0 (fun _ => true) true 38 v d p) :
    ∃ a c xs, v = .slice a (List.length xs) c ∧ Row rK W a c xs ∧ (∀ x ∈ xs, Rv.At W x) ∧ ∀ x ∈ xs, RIn x.r ∧ TxR x := by
  obtain ⟨a, len, cap, rfl⟩ := okWide_slice Try.underlying38 hv
  obtain ⟨fuel, hf⟩ := ht
  obtain ⟨a', c', xs, h1, h2, _, _, h3⟩ := cells_row rK 38 55 160 Try.underlying38 Try.cellsR Try.bytesR (by omega) (fun v : Rv => Rv.At W v ∧ RIn v.r ∧ TxR v) (fun h hw => cells_rule2 h hw) hf hw
  simp only [Value.cells, List.cons.injEq, and_true] at h1
  exact ⟨a', c', xs, h1, h2, fun x hx => (h3 x hx).1, fun x hx => (h3 x hx).2⟩
end Go.Proofs.Ytghhdbkgibpebaa
