/-
  The reference's weight of rules: some number, and nothing is turned. Facts that came in have texts within reach.
-/
import Derived.Test.YtghhdbkgibpebaaW4
import Derived.Test.YtghhdbkgibpebaaOpenR
namespace Go.Proofs.Ytghhdbkgibpebaa
open Go.ChangeShapes Go.WideShapes Go.ChangeAt
open Go.RowKit Go.Sort

set_option maxRecDepth 100000 in
set_option maxHeartbeats 4000000 in
theorem rweight_at (a : Option Addr) (c : Nat) (xs : List Rv) (m : Int) (w : World) (hx : Row rK w a c xs) (ax : ∀ x ∈ xs, Rv.At w x) :
    Calls Try.prog 19 #[.slice a xs.length c, .int .i64 m] w fun e w' => AnyInt e ∧ Grew w w' := by
  have mixed : Try.prog.follows .mixedOrders = true := by kernel_rfl
  have b1 := hx.few
  go_enter Try.func19, Try.ntmps19
  go_wp2_with fail
  go_loopw [5, 6, 7] (fun v5 v6 _ wr => ∃ (k : Nat) (n : Int), v5 = .int .i64 n ∧ v6 = .int .i64 (k : Int) ∧ k ≤ xs.length ∧ Grew w wr) (fun _ v6 _ _ => xs.length - (intOf v6).toNat)
  case atStart => exact ⟨0, 0, rfl, rfl, by omega, Grew.refl _⟩
  case round =>
    obtain ⟨k, n, rfl, rfl, hk, hg⟩ := hrel
    by_cases hlt : k < xs.length
    · have q2 : (k : Int) < (xs.length : Int) := by omega
      by_cases hn : n ≤ m
      · obtain ⟨P1, O1, rfl⟩ := hx.addr (Nat.lt_of_le_of_lt (Nat.zero_le _) hlt)
        have hx' := hx.below hg.below (Nat.le_refl _)
        have hA := (ax _ (List.getElem_mem hlt)).below hg.below (Nat.le_refl _)
        have a1 : wr.cell? ⟨P1, O1 + k * 11 + 4, none⟩ = _ := hx'.range k hlt 4 _ rfl
        have a2 : wr.cell? ⟨P1, O1 + k * 11 + 5, none⟩ = _ := hx'.range k hlt 5 _ rfl
        have a4 : wr.cell? ⟨P1, O1 + k * 11 + 10, none⟩ = _ := hx'.range k hlt 10 _ rfl
        generalize (xs[k]'hlt) = p at *
        have hfew := hA.args.few
        have hfew2 := hA.body.few
        go_wp2_with fail
        go_quiet (fail)
        go_wp2_with fail
        have hg2 := hg.trans (Grew.drewN wr nq)
        have b2 := (Grew.drewN wr nq).below
        have e4 := (b2.cell (p := ⟨P1, O1 + k * 11 + 10, none⟩) (cell_block a4)).trans a4
        have hA2 := hA.body.below b2 (Nat.le_refl _)
        have hE2 := fun l hl => (hA.each l hl).below b2 (Nat.le_refl _)
        generalize wr.drewN nq = w2 at *
        clear a1 a2 a4 b2 hA hx' hg
        go_loopw [5, 7] (fun v5 v7 wi => ∃ (j : Nat) (n : Int), v5 = .int .i64 n ∧ v7 = .int .i64 (j : Int) ∧ j ≤ p.body.length ∧ Grew w2 wi) (fun _ v7 _ => p.body.length - (intOf v7).toNat)
        case atStart => exact ⟨0, _, rfl, rfl, by omega, Grew.refl _⟩
        case round =>
          obtain ⟨j, n', rfl, rfl, hj, hgi⟩ := hrel
          have c4 := (hgi.below.cell (p := ⟨P1, O1 + k * 11 + 10, none⟩) (cell_block e4)).trans e4
          by_cases hjl : j < p.body.length
          · have q3 : (j : Int) < (p.body.length : Int) := by omega
            by_cases hn' : n' ≤ m
            · have hA3 := hA2.below hgi.below (Nat.le_refl _)
              obtain ⟨P2, O2, hP2⟩ := hA3.addr (Nat.lt_of_le_of_lt (Nat.zero_le _) hjl)
              rw [hP2] at hA3 c4
              have hE3 := hE2 _ (List.getElem_mem hjl)
              have m1 : wr.cell? ⟨P2, O2 + j * 10 + 4, none⟩ = _ := hA3.range j hjl 4 _ rfl
              have m2 : wr.cell? ⟨P2, O2 + j * 10 + 5, none⟩ = _ := hA3.range j hjl 5 _ rfl
              generalize (p.body[j]'hjl) = q at *
              have hfew3 := Row.few hE3
              go_wp2_with fail
              go_quiet (fail)
              go_wp2_with fail
              exact ⟨⟨j + 1, _, rfl, by simp, by omega, hgi.trans (Grew.drewN wr nq)⟩, by simp [intOf]; omega⟩
            · go_wp2_with fail
              exact ⟨⟨k + 1, n', rfl, by simp, by omega, hg2.trans hgi⟩, by simp [intOf]; omega⟩
          · have q3 : ¬ (j : Int) < (p.body.length : Int) := by omega
            go_wp2_with fail
            exact ⟨⟨k + 1, n', rfl, by simp, by omega, hg2.trans hgi⟩, by simp [intOf]; omega⟩
      · go_wp2_with fail
        go_ret
        exact ⟨⟨n, rfl⟩, hg⟩
    · have q2 : ¬ (k : Int) < (xs.length : Int) := by omega
      go_wp2_with fail
      go_ret
      exact ⟨⟨n, rfl⟩, hg⟩

/-! FACTS THAT CAME IN, with their texts within reach -/

theorem cells_const2 {H : Type} {enc : TypeId × Value → H} {W : World} {fuel : Nat} {cs : List Value} {x : DataW H × List MemPlace} (h : DataW.trod enc Try.prog W 0 (fun _ => true) true fuel 49 cs = some x) (hw : ∀ n ∈ x.1.weights Try.prog 49, n ≤ reachBytes) : ∃ k : K, cs = kv k ∧ (KIn k ∧ k.s.length ≤ 140737488351232) := by
  obtain ⟨y0, y1, y2, n, hx, hl, h0, h1, h2⟩ := Deep.trod_struct3 Try.underlying49 h
  rw [hx] at hw
  rw [Try.cellsK] at hl
  obtain ⟨c0, c1, c2, rfl⟩ := three3 hl
  simp only [Try.cellsB, Try.cellsI, Try.cellsS, List.drop_zero, List.drop_succ_cons, List.take_succ_cons, List.take_zero] at h0 h1 h2
  obtain ⟨b, e0, _⟩ := DataW.trod_bool Try.underlying4 h0
  obtain ⟨i, e1, _, hwf⟩ := DataW.trod_int Try.underlying3 h1
  obtain ⟨s, e2, e2', _⟩ := DataW.trod_string Try.underlying9 h2
  subst e2'
  obtain ⟨⟨l⟩⟩ := s
  have hs : l.length ≤ reachBytes := hw _ (by
    rw [DataW.weights]
    simp only [Try.underlying49, List.map_cons, List.map_nil, DataW.weightsEach, List.mem_append]
    refine .inr (.inr (.inl ?_))
    rw [DataW.weights]; exact List.mem_singleton.2 rfl)
  simp only [List.cons.injEq, and_true] at e0 e1 e2
  exact ⟨⟨b, i, l⟩, by rw [e0, e1, e2]; rfl, bounds_i64 hwf, hs⟩

theorem cells_fact2 {H : Type} {enc : TypeId × Value → H} {W : World} {fuel : Nat} {cs : List Value} {x : DataW H × List MemPlace} (h : DataW.trod enc Try.prog W 0 (fun _ => true) true fuel 24 cs = some x) (hw : ∀ n ∈ x.1.weights Try.prog 24, n ≤ reachBytes) : ∃ f : Fv, cs = fv f ∧ (Fv.At W f ∧ (∀ k ∈ f.ks, KIn k) ∧ TxF f) := by
  obtain ⟨y0, y1, y2, y3, n, rfl, hl, h0, h1, h2, h3⟩ := Joins.trod_struct4 Try.underlying24 h
  rw [Try.cellsF] at hl
  obtain ⟨c0, c1, c2, c3, rfl⟩ := four4 hl
  simp only [Try.cellsA, Try.cellsS, List.drop_zero, List.drop_succ_cons, List.take_succ_cons, List.take_zero] at h0 h1 h2 h3
  obtain ⟨s0, e0, f0', _⟩ := DataW.trod_string Try.underlying9 h0
  obtain ⟨s1, e1, f1', _⟩ := DataW.trod_string Try.underlying9 h1
  obtain ⟨s2, e2, f2', _⟩ := DataW.trod_string Try.underlying9 h2
  subst f0' f1' f2'
  obtain ⟨⟨l0⟩⟩ := s0; obtain ⟨⟨l1⟩⟩ := s1; obtain ⟨⟨l2⟩⟩ := s2
  have g0 : l0.length ≤ reachBytes := hw _ (by
    rw [DataW.weights]
    simp only [Try.underlying24, List.map_cons, List.map_nil, DataW.weightsEach, List.mem_append]
    refine .inl ?_
    rw [DataW.weights]; exact List.mem_singleton.2 rfl)
  have g1 : l1.length ≤ reachBytes := hw _ (by
    rw [DataW.weights]
    simp only [Try.underlying24, List.map_cons, List.map_nil, DataW.weightsEach, List.mem_append]
    refine .inr (.inl ?_)
    rw [DataW.weights]; exact List.mem_singleton.2 rfl)
  have g2 : l2.length ≤ reachBytes := hw _ (by
    rw [DataW.weights]
    simp only [Try.underlying24, List.map_cons, List.map_nil, DataW.weightsEach, List.mem_append]
    refine .inr (.inr (.inl ?_))
    rw [DataW.weights]; exact List.mem_singleton.2 rfl)
  obtain ⟨a, c, ks, e3, hA, _, _, hk⟩ := cells_row kK 22 49 32 Try.underlying22 Try.cellsK Try.bytesK (Nat.le_refl _) (fun k => KIn k ∧ k.s.length ≤ 140737488351232) (fun h hw => cells_const2 h hw) h3 (fun n hn => hw n (by
    rw [DataW.weights]
    simp only [Try.underlying24, List.map_cons, List.map_nil, DataW.weightsEach, List.mem_append]
    exact .inr (.inr (.inr (.inl hn)))))
  simp only [List.cons.injEq, and_true] at e0 e1 e2 e3
  exact ⟨⟨l0, l1, l2, a, c, ks⟩, by rw [e0, e1, e2, e3]; rfl, ⟨hA.room, hA.few, hA.void, hA.cells⟩, fun k h => (hk k h).1, ⟨g0, g1, g2, fun k h => (hk k h).2⟩⟩

set_option maxRecDepth 100000 in
theorem open_facts2 {H : Type} {enc : TypeId × Value → H} {W : World} {base : Nat} {v : Value} {d : DataW H} {p : List MemPlace} (hw : ∀ n ∈ d.weights Try.prog 27, n ≤ reachBytes) (hv : Value.okWide Try.prog W .any base 27 v) (ht : DataW.Trod enc Try.prog W 0 (fun _ => true) true 27 v d p) :
    ∃ a c xs, v = .slice a (List.length xs) c ∧ Lies W a c xs ∧ (∀ x ∈ xs, Fv.At W x) ∧ ∀ x ∈ xs, (∀ k ∈ x.ks, KIn k) ∧ TxF x := by
  obtain ⟨a, len, cap, rfl⟩ := okWide_slice Try.underlying27 hv
  obtain ⟨fuel, hf⟩ := ht
  obtain ⟨a', c', xs, h1, h2, h3, h4, h5⟩ := cells_row fK 27 24 72 Try.underlying27 Try.cellsF Try.bytesF (by omega) (fun v : Fv => Fv.At W v ∧ (∀ k ∈ v.ks, KIn k) ∧ TxF v) (fun h hw => cells_fact2 h hw) hf hw
  simp only [Value.cells, List.cons.injEq, and_true] at h1
  exact ⟨a', c', xs, h1, ⟨h2.room, h3, by unfold reachBytes at h4; omega, h2.void, h2.cells⟩, fun x hx => (h5 x hx).1, fun x hx => (h5 x hx).2⟩
end Go.Proofs.Ytghhdbkgibpebaa
