/-
  The reference's weight of facts: where it is within M there are at most M facts.
-/
import Derived.Test.YtomiefhfkdfgbaaW4
namespace Go.Proofs.Ytomiefhfkdfgbaa
open Go.RowKit Go.Sort

set_option maxHeartbeats 4000000 in
theorem weight15 (M : Nat) (hM : M ≤ 1000) (a : Option Addr) (c : Nat) (xs : List Fv) (w : World) (hx : Lies w a c xs) (ax : ∀ x ∈ xs, Fv.At w x) (tx : ∀ x ∈ xs, TxF x) :
    Calls Try.prog 29 #[.slice a xs.length c, .int .i64 (M : Int)] w fun e w' => (∃ r : Int, e = .returned (.int .i64 r) ∧ (¬ (M : Int) < r → xs.length ≤ M)) ∧ Grew w w' := by
  have mixed : Try.prog.follows .mixedOrders = true := by kernel_rfl
  have b1 := hx.few
  go_enter Try.func29, Try.ntmps29
  go_wp2_with fail
  go_loopw [5, 6, 7] (fun v5 v6 _ wr => ∃ (k : Nat) (n : Int), v5 = .int .i64 n ∧ v6 = .int .i64 (k : Int) ∧ k ≤ xs.length ∧ (k : Int) ≤ n ∧ n ≤ 4611686018427387904 ∧ Grew w wr) (fun _ v6 _ _ => xs.length - (intOf v6).toNat)
  case atStart => exact ⟨0, 0, rfl, rfl, by omega, by omega, by omega, Grew.refl _⟩
  case round =>
    obtain ⟨k, n, rfl, rfl, hk, hkn, hnt, hg⟩ := hrel
    by_cases hlt : k < xs.length
    · have q2 : (k : Int) < (xs.length : Int) := by omega
      by_cases hn : n ≤ (M : Int)
      · obtain ⟨P1, O1, rfl⟩ := hx.addr (Nat.lt_of_le_of_lt (Nat.zero_le _) hlt)
        have hx' := hx.below hg.below (Nat.le_refl _)
        obtain ⟨a1, a2, a3, a4⟩ := hx'.get k hlt
        have hA := (ax _ (List.getElem_mem hlt)).grew hg
        have hT := tx _ (List.getElem_mem hlt)
        have hfew := ArgsAt.few hA
        generalize (xs[k]'hlt) = p at *
        obtain ⟨t1, t2, t3, t4⟩ := hT
        go_wp2_with fail
        go_quiet (fail)
        go_wp2_with fail
        have hg2 := hg.trans (Grew.drewN wr nq)
        have b2 := (Grew.drewN wr nq).below
        have e4 := (b2.cell (p := ⟨P1, O1 + k * 4 + 3, none⟩) (cell_block a4)).trans a4
        have hA2 := hA.grew (Grew.drewN wr nq)
        generalize wr.drewN nq = w2 at *
        clear a1 a2 a3 a4 b2 hA hx' hg
        go_loopw [5, 7] (fun v5 v7 wi => ∃ (j : Nat) (n : Int), v5 = .int .i64 n ∧ v7 = .int .i64 (j : Int) ∧ j ≤ p.ks.length ∧ (k : Int) + 1 ≤ n ∧ n ≤ 4611686018427387904 ∧ Grew w2 wi) (fun _ v7 _ => p.ks.length - (intOf v7).toNat)
        case atStart => exact ⟨0, _, rfl, rfl, by omega, by omega, by omega, Grew.refl _⟩
        case round =>
          obtain ⟨j, n', rfl, rfl, hj, hn1, hn2, hgi⟩ := hrel
          have c4 := (hgi.below.cell (p := ⟨P1, O1 + k * 4 + 3, none⟩) (cell_block e4)).trans e4
          by_cases hjl : j < p.ks.length
          · have q3 : (j : Int) < (p.ks.length : Int) := by omega
            by_cases hn' : n' ≤ (M : Int)
            · obtain ⟨P2, O2, hP2⟩ := ArgsAt.addr hA2 (Nat.lt_of_le_of_lt (Nat.zero_le _) hjl)
              have hA3 := hA2.grew hgi
              rw [Fv.At, hP2] at hA3
              rw [hP2] at c4
              obtain ⟨m1, m2, m3⟩ := hA3.get j hjl
              have t5 := t4 _ (List.getElem_mem hjl)
              go_wp2_with fail
              exact ⟨⟨j + 1, _, rfl, by simp, by omega, by omega, by omega, hgi⟩, by simp [intOf]; omega⟩
            · go_wp2_with fail
              exact ⟨⟨k + 1, n', rfl, by simp, by omega, by omega, by omega, hg2.trans hgi⟩, by simp [intOf]; omega⟩
          · have q3 : ¬ (j : Int) < (p.ks.length : Int) := by omega
            go_wp2_with fail
            exact ⟨⟨k + 1, n', rfl, by simp, by omega, by omega, by omega, hg2.trans hgi⟩, by simp [intOf]; omega⟩
      · go_wp2_with fail
        go_ret
        exact ⟨⟨n, rfl, fun h => by omega⟩, hg⟩
    · have q2 : ¬ (k : Int) < (xs.length : Int) := by omega
      go_wp2_with fail
      go_ret
      exact ⟨⟨n, rfl, fun h => by omega⟩, hg⟩
end Go.Proofs.Ytomiefhfkdfgbaa
