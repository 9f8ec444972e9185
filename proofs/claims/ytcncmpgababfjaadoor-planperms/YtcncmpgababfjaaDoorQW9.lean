/-
  The reference's weight of rules: some number, and nothing is turned; where it is within 300 there are at most 300 of anything.
-/
import Derived.Test.YtcncmpgababfjaaDoorQBs
namespace Go.Proofs.YtcncmpgababfjaaDoor
open Go.RowKit Go.Lib Go.Shelf

set_option maxRecDepth 100000 in
set_option maxHeartbeats 4000000 in
theorem rweight_at (a : Option Addr) (c : Nat) (xs : List Rv) (m : Int) (w : World) (hx : Row rK w a c xs) (ax : ∀ x ∈ xs, Rv.Aw w x) :
    Calls Tryd.prog 5 #[.slice a xs.length c, .int .i64 m] w fun e w' => (∃ r : Int, e = .returned (.int .i64 r)) ∧ Grew w w' := by
  have mixed : Tryd.prog.follows .mixedOrders = true := by kernel_rfl
  have b1 := hx.few
  go_enter Tryd.func5, Tryd.ntmps5
  go_wp2_with fail
  go_loopw [5, 6, 7] (fun v5 v6 _ wr => ∃ (k : Nat) (n : Int), v5 = .int .i64 n ∧ v6 = .int .i64 (k : Int) ∧ k ≤ xs.length ∧ Grew w wr) (fun _ v6 _ _ => xs.length - (RowKit.intOf v6).toNat)
  case atStart => exact ⟨0, 0, rfl, rfl, by omega, Grew.refl _⟩
  case round =>
    obtain ⟨k, n, rfl, rfl, hk, hg⟩ := hrel
    by_cases hlt : k < xs.length
    · have q2 : (k : Int) < (xs.length : Int) := by omega
      by_cases hn : n ≤ m
      · obtain ⟨P1, O1, rfl⟩ := hx.addr (Nat.lt_of_le_of_lt (Nat.zero_le _) hlt)
        have hx' := hx.below hg.below (Nat.le_refl _)
        have hA := (ax _ (List.getElem_mem hlt)).below hg.below (Nat.le_refl _)
        have a1 : wr.cell? ⟨P1, O1 + k * 11 + 4, none⟩ = _ := hx'.range k hlt 4 _ rfl
        have a2 : wr.cell? ⟨P1, O1 + k * 11 + 5, none⟩ = _ := hx'.range k hlt 5 _ rfl
        have a4 : wr.cell? ⟨P1, O1 + k * 11 + 10, none⟩ = _ := hx'.range k hlt 10 _ rfl
        generalize (xs[k]'hlt) = p at *
        have hfew := hA.args.few
        have hfew2 := hA.body.few
        go_wp2_with fail
        go_quiet (fail)
        go_wp2_with fail
        have hg2 := hg.trans (Grew.drewN wr nq)
        have b2 := (Grew.drewN wr nq).below
        have e4 := (b2.cell (p := ⟨P1, O1 + k * 11 + 10, none⟩) (cell_block a4)).trans a4
        have hA2 := hA.body.below b2 (Nat.le_refl _)
        have hE2 := fun l hl => (hA.each l hl).below b2 (Nat.le_refl _)
        generalize wr.drewN nq = w2 at *
        clear a1 a2 a4 b2 hA hx' hg
        go_loopw [5, 7] (fun v5 v7 wi => ∃ (j : Nat) (n : Int), v5 = .int .i64 n ∧ v7 = .int .i64 (j : Int) ∧ j ≤ p.body.length ∧ Grew w2 wi) (fun _ v7 _ => p.body.length - (RowKit.intOf v7).toNat)
        case atStart => exact ⟨0, _, rfl, rfl, by omega, Grew.refl _⟩
        case round =>
          obtain ⟨j, n', rfl, rfl, hj, hgi⟩ := hrel
          have c4 := (hgi.below.cell (p := ⟨P1, O1 + k * 11 + 10, none⟩) (cell_block e4)).trans e4
          by_cases hjl : j < p.body.length
          · have q3 : (j : Int) < (p.body.length : Int) := by omega
            by_cases hn' : n' ≤ m
            · have hA3 := hA2.below hgi.below (Nat.le_refl _)
              obtain ⟨P2, O2, hP2⟩ := hA3.addr (Nat.lt_of_le_of_lt (Nat.zero_le _) hjl)
              rw [hP2] at hA3 c4
              have hE3 := hE2 _ (List.getElem_mem hjl)
              have m1 : wr.cell? ⟨P2, O2 + j * 10 + 4, none⟩ = _ := hA3.range j hjl 4 _ rfl
              have m2 : wr.cell? ⟨P2, O2 + j * 10 + 5, none⟩ = _ := hA3.range j hjl 5 _ rfl
              generalize (p.body[j]'hjl) = q at *
              have hfew3 := Row.few hE3
              go_wp2_with fail
              go_quiet (fail)
              go_wp2_with fail
              exact ⟨⟨j + 1, _, rfl, by simp, by omega, hgi.trans (Grew.drewN wr nq)⟩, by simp [RowKit.intOf]; omega⟩
            · go_wp2_with fail
              exact ⟨⟨k + 1, n', rfl, by simp, by omega, hg2.trans hgi⟩, by simp [RowKit.intOf]; omega⟩
          · have q3 : ¬ (j : Int) < (p.body.length : Int) := by omega
            go_wp2_with fail
            exact ⟨⟨k + 1, n', rfl, by simp, by omega, hg2.trans hgi⟩, by simp [RowKit.intOf]; omega⟩
      · go_wp2_with fail
        go_ret
        exact ⟨⟨n, rfl⟩, hg⟩
    · have q2 : ¬ (k : Int) < (xs.length : Int) := by omega
      go_wp2_with fail
      go_ret
      exact ⟨⟨n, rfl⟩, hg⟩


structure TxR (x : Rv) : Prop where
  a : x.pred.length ≤ 140737488351232
  b : ∀ l ∈ x.body, l.pred.length ≤ 140737488351232
structure FewR (x : Rv) : Prop where
  a : x.args.length ≤ 300
  b : x.body.length ≤ 300
  c : ∀ l ∈ x.body, l.args.length ≤ 300

set_option maxRecDepth 100000 in
set_option maxHeartbeats 4000000 in
theorem rweight_few (a : Option Addr) (c : Nat) (xs : List Rv) (w : World) (hx : Row rK w a c xs) (ax : ∀ x ∈ xs, Rv.Aw w x) (tx : ∀ x ∈ xs, TxR x) :
    Calls Tryd.prog 5 #[.slice a xs.length c, .int .i64 300] w fun e w' => (∃ r : Int, e = .returned (.int .i64 r) ∧ (¬ 300 < r → xs.length ≤ 300 ∧ ∀ x ∈ xs, FewR x)) ∧ Grew w w' := by
  have mixed : Tryd.prog.follows .mixedOrders = true := by kernel_rfl
  have b1 := hx.few
  go_enter Tryd.func5, Tryd.ntmps5
  go_wp2_with fail
  go_loopw [5, 6, 7] (fun v5 v6 _ wr => ∃ (k : Nat) (n : Int), v5 = .int .i64 n ∧ v6 = .int .i64 (k : Int) ∧ k ≤ xs.length ∧ (k : Int) ≤ n ∧ n ≤ 4611686018427387904 ∧ Hid (n ≤ 300 → ∀ j (h : j < xs.length), j < k → FewR xs[j]) ∧ Grew w wr) (fun _ v6 _ _ => xs.length - (RowKit.intOf v6).toNat)
  case atStart => exact ⟨0, 0, rfl, rfl, by omega, by omega, by omega, fun _ j _ h => absurd h (by omega), Grew.refl _⟩
  case round =>
    obtain ⟨k, n, rfl, rfl, hk, hkn, hnt, hfw, hg⟩ := hrel
    by_cases hlt : k < xs.length
    · have q2 : (k : Int) < (xs.length : Int) := by omega
      by_cases hn : n ≤ 300
      · obtain ⟨P1, O1, rfl⟩ := hx.addr (Nat.lt_of_le_of_lt (Nat.zero_le _) hlt)
        have hx' := hx.below hg.below (Nat.le_refl _)
        have hA := (ax _ (List.getElem_mem hlt)).below hg.below (Nat.le_refl _)
        have a1 : wr.cell? ⟨P1, O1 + k * 11 + 4, none⟩ = _ := hx'.range k hlt 4 _ rfl
        have a2 : wr.cell? ⟨P1, O1 + k * 11 + 5, none⟩ = _ := hx'.range k hlt 5 _ rfl
        have a4 : wr.cell? ⟨P1, O1 + k * 11 + 10, none⟩ = _ := hx'.range k hlt 10 _ rfl
        have hT := tx _ (List.getElem_mem hlt)
        have hnext : Hid (FewR (xs[k]'hlt) → ∀ j (h : j < xs.length), j < k + 1 → FewR xs[j]) := fun h j h1 hj => by
          by_cases e : j = k
          · subst e; exact h
          · exact hfw.out hn j h1 (by omega)
        generalize (xs[k]'hlt) = p at *
        obtain ⟨t1, t2⟩ := hT
        clear hfw
        have hfew := hA.args.few
        have hfew2 := hA.body.few
        go_wp2_with fail
        go_quiet (fail)
        go_wp2_with fail
        have hg2 := hg.trans (Grew.drewN wr nq)
        have b2 := (Grew.drewN wr nq).below
        have e4 := (b2.cell (p := ⟨P1, O1 + k * 11 + 10, none⟩) (cell_block a4)).trans a4
        have hA2 := hA.body.below b2 (Nat.le_refl _)
        have hE2 := fun l hl => (hA.each l hl).below b2 (Nat.le_refl _)
        generalize wr.drewN nq = w2 at *
        clear a1 a2 a4 b2 hA hx' hg
        go_loopw [5, 7] (fun v5 v7 wi => ∃ (j : Nat) (n : Int), v5 = .int .i64 n ∧ v7 = .int .i64 (j : Int) ∧ j ≤ p.body.length ∧ (k : Int) + 1 + (p.args.length : Int) + (j : Int) ≤ n ∧ n ≤ 4611686018427387904 ∧ Hid (n ≤ 300 → ∀ i (h : i < p.body.length), i < j → p.body[i].args.length ≤ 300) ∧ Grew w2 wi) (fun _ v7 _ => p.body.length - (RowKit.intOf v7).toNat)
        case atStart => exact ⟨0, _, rfl, rfl, by omega, by omega, by omega, fun _ j _ h => absurd h (by omega), Grew.refl _⟩
        case round =>
          obtain ⟨j, n', rfl, rfl, hj, hn1, hn2, hfi, hgi⟩ := hrel
          have c4 := (hgi.below.cell (p := ⟨P1, O1 + k * 11 + 10, none⟩) (cell_block e4)).trans e4
          by_cases hjl : j < p.body.length
          · have q3 : (j : Int) < (p.body.length : Int) := by omega
            by_cases hn' : n' ≤ 300
            · have hA3 := hA2.below hgi.below (Nat.le_refl _)
              obtain ⟨P2, O2, hP2⟩ := hA3.addr (Nat.lt_of_le_of_lt (Nat.zero_le _) hjl)
              rw [hP2] at hA3 c4
              have hE3 := hE2 _ (List.getElem_mem hjl)
              have m1 : wr.cell? ⟨P2, O2 + j * 10 + 4, none⟩ = _ := hA3.range j hjl 4 _ rfl
              have m2 : wr.cell? ⟨P2, O2 + j * 10 + 5, none⟩ = _ := hA3.range j hjl 5 _ rfl
              have t5 := t2 _ (List.getElem_mem hjl)
              have hin : Hid ((p.body[j]'hjl).args.length ≤ 300 → ∀ i (h : i < p.body.length), i < j + 1 → p.body[i].args.length ≤ 300) := fun h i h1 hi => by
                by_cases e : i = j
                · subst e; exact h
                · exact hfi.out hn' i h1 (by omega)
              generalize (p.body[j]'hjl) = q at *
              have hfew3 := Row.few hE3
              go_wp2_with fail
              go_quiet (fail)
              go_wp2_with fail
              exact ⟨⟨j + 1, _, rfl, by simp, by omega, by omega, by omega, fun h => hin.out (by omega), hgi.trans (Grew.drewN wr nq)⟩, by simp [RowKit.intOf]; omega⟩
            · go_wp2_with fail
              exact ⟨⟨k + 1, n', rfl, by simp, by omega, by omega, by omega, fun h => absurd h hn', hg2.trans hgi⟩, by simp [RowKit.intOf]; omega⟩
          · have q3 : ¬ (j : Int) < (p.body.length : Int) := by omega
            go_wp2_with fail
            exact ⟨⟨k + 1, n', rfl, by simp, by omega, by omega, by omega, fun h => hnext.out ⟨by omega, by omega, fun l hl => by
              obtain ⟨i, hi, rfl⟩ := List.getElem_of_mem hl
              exact hfi.out h i hi (by omega)⟩, hg2.trans hgi⟩, by simp [RowKit.intOf]; omega⟩
      · go_wp2_with fail
        go_ret
        exact ⟨⟨n, rfl, fun h => by omega⟩, hg⟩
    · have q2 : ¬ (k : Int) < (xs.length : Int) := by omega
      go_wp2_with fail
      go_ret
      exact ⟨⟨n, rfl, fun h => ⟨by omega, fun x hx => by
        obtain ⟨j, hj, rfl⟩ := List.getElem_of_mem hx
        exact hfw.out (by omega) j hj (by omega)⟩⟩, hg⟩


end Go.Proofs.YtcncmpgababfjaaDoor
