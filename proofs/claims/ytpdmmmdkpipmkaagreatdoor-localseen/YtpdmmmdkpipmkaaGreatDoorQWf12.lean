/-
  The reference's weight of facts: what is true of facts whose weight is within a limit.
-/
import Derived.Test.YtpdmmmdkpipmkaaGreatDoorQW4
namespace Go.Proofs.YtpdmmmdkpipmkaaGreatDoor
open Go.RowKit Go.Lib Go.Shelf Go.Sort

/-- a fact of little weight -/
structure LtF (m : Int) (x : Fv) : Prop where
  ks : (x.ks.length : Int) ≤ m
  txt : (x.at_.length : Int) + x.by_.length + x.pred.length < 16 * (m + 1)
  each : ∀ q ∈ x.ks, (q.s.length : Int) < 16 * (m + 1)

set_option maxHeartbeats 4000000 in
theorem weightF_at (m : Int) (hm0 : 0 ≤ m) (hm1 : m ≤ 1000) (a : Option Addr) (c : Nat) (xs : List Fv) (w : World) (hx : Lies w a c xs) (ax : ∀ x ∈ xs, Fv.At w x) (tx : ∀ x ∈ xs, TxF x) :
    Calls Tryz.prog 15 #[.slice a xs.length c, .int .i64 m] w fun e w' => (∃ r : Int, e = .returned (.int .i64 r) ∧ (r ≤ m → (xs.length : Int) ≤ m ∧ ∀ x ∈ xs, LtF m x)) ∧ Grew w w' := by
  have mixed : Tryz.prog.follows .mixedOrders = true := by kernel_rfl
  have b1 := hx.few
  go_enter Tryz.func15, Tryz.ntmps15
  go_wp2_with fail
  go_loopw [5, 6, 7] (fun v5 v6 _ wr => ∃ (k : Nat) (n : Int), v5 = .int .i64 n ∧ v6 = .int .i64 (k : Int) ∧ k ≤ xs.length ∧ (k : Int) ≤ n ∧ n ≤ 4611686018427387904 ∧ Hid (n ≤ m → ∀ x ∈ xs.take k, LtF m x) ∧ Grew w wr) (fun _ v6 _ _ => xs.length - (RowKit.intOf v6).toNat)
  case atStart => exact ⟨0, 0, rfl, rfl, by omega, by omega, by omega, hideP (fun _ x h => by simp at h), Grew.refl _⟩
  case round =>
    obtain ⟨k, n, rfl, rfl, hk, hkn, hnt, hP, hg⟩ := hrel
    by_cases hlt : k < xs.length
    · have q2 : (k : Int) < (xs.length : Int) := by omega
      by_cases hn : n ≤ m
      · obtain ⟨P1, O1, rfl⟩ := hx.addr (Nat.lt_of_le_of_lt (Nat.zero_le _) hlt)
        have hx' := hx.below hg.below (Nat.le_refl _)
        obtain ⟨a1, a2, a3, a4⟩ := hx'.get k hlt
        have hA := (ax _ (List.getElem_mem hlt)).grew hg
        have hT := tx _ (List.getElem_mem hlt)
        have hfew := ArgsAt.few hA
        have hst : Hid (∀ x, x ∈ xs.take (k + 1) → x ∈ xs.take k ∨ x = xs[k]'hlt) := hideP (fun x h => by
          rw [← List.take_append_getElem hlt, List.mem_append, List.mem_singleton] at h; exact h)
        generalize (xs[k]'hlt) = p at *
        obtain ⟨t1, t2, t3, t4⟩ := hT
        go_wp2_with fail
        go_quiet (fail)
        go_wp2_with fail
        have hg2 := hg.trans (Grew.drewN wr nq)
        have b2 := (Grew.drewN wr nq).below
        have e4 := (b2.cell (p := ⟨P1, O1 + k * 4 + 3, none⟩) (cell_block a4)).trans a4
        have hA2 := hA.grew (Grew.drewN wr nq)
        generalize wr.drewN nq = w2 at *
        clear a1 a2 a3 a4 b2 hA hx' hg
        go_loopw [5, 7] (fun v5 v7 wi => ∃ (j : Nat) (n' : Int), v5 = .int .i64 n' ∧ v7 = .int .i64 (j : Int) ∧ j ≤ p.ks.length ∧ (k : Int) + 1 ≤ n' ∧ n' ≤ 4611686018427387904 ∧ n ≤ n' ∧ (p.ks.length : Int) ≤ n' ∧ (p.at_.length : Int) + p.by_.length + p.pred.length < 16 * (n' + 1) ∧ Hid (n' ≤ m → ∀ q ∈ p.ks.take j, (q.s.length : Int) < 16 * (m + 1)) ∧ Grew w2 wi) (fun _ v7 _ => p.ks.length - (RowKit.intOf v7).toNat)
        case atStart => exact ⟨0, _, rfl, rfl, by omega, by omega, by omega, by omega, by omega, by omega, hideP (fun _ x h => by simp at h), Grew.refl _⟩
        case round =>
          obtain ⟨j, n', rfl, rfl, hj, hn1, hn2, hn3, hn4, hn5, hQ, hgi⟩ := hrel
          have c4 := (hgi.below.cell (p := ⟨P1, O1 + k * 4 + 3, none⟩) (cell_block e4)).trans e4
          by_cases hjl : j < p.ks.length
          · have q3 : (j : Int) < (p.ks.length : Int) := by omega
            by_cases hn' : n' ≤ m
            · obtain ⟨P2, O2, hP2⟩ := ArgsAt.addr hA2 (Nat.lt_of_le_of_lt (Nat.zero_le _) hjl)
              have hA3 := hA2.grew hgi
              rw [Fv.At, hP2] at hA3
              rw [hP2] at c4
              obtain ⟨m1, m2, m3⟩ := hA3.get j hjl
              have t5 := t4 _ (List.getElem_mem hjl)
              have hsj : Hid (∀ q, q ∈ p.ks.take (j + 1) → q ∈ p.ks.take j ∨ q = p.ks[j]'hjl) := hideP (fun x h => by
                rw [← List.take_append_getElem hjl, List.mem_append, List.mem_singleton] at h; exact h)
              generalize (p.ks[j]'hjl) = qq at *
              go_wp2_with fail
              refine ⟨⟨j + 1, _, rfl, by simp, by omega, by omega, by omega, by omega, by omega, by omega, hideP (fun hle q hq => ?_), hgi⟩, by simp [RowKit.intOf]; omega⟩
              rcases hsj.out q hq with h | rfl
              · exact hQ.out hn' q h
              · omega
            · have HN : Hid (n' ≤ m → ∀ x ∈ xs.take (k + 1), LtF m x) := hideP (fun h => absurd h hn')
              go_wp2_with fail
              exact ⟨⟨k + 1, n', rfl, by simp, by omega, by omega, by omega, HN, hg2.trans hgi⟩, by simp [RowKit.intOf]; omega⟩
          · have q3 : ¬ (j : Int) < (p.ks.length : Int) := by omega
            have HN : Hid (n' ≤ m → ∀ x ∈ xs.take (k + 1), LtF m x) := hideP (fun h x hx => by
              rcases hst.out x hx with h' | rfl
              · exact hP.out (by omega) x h'
              · have hq := hQ.out h
                rw [List.take_of_length_le (by omega)] at hq
                exact ⟨by omega, by omega, hq⟩)
            go_wp2_with fail
            exact ⟨⟨k + 1, n', rfl, by simp, by omega, by omega, by omega, HN, hg2.trans hgi⟩, by simp [RowKit.intOf]; omega⟩
      · go_wp2_with fail
        go_ret
        exact ⟨⟨n, rfl, fun h => by omega⟩, hg⟩
    · have q2 : ¬ (k : Int) < (xs.length : Int) := by omega
      have HN : Hid (n ≤ m → ∀ x ∈ xs, LtF m x) := hideP (fun h x hx => hP.out h x (by rw [List.take_of_length_le (by omega)]; exact hx))
      go_wp2_with fail
      go_ret
      exact ⟨⟨n, rfl, fun h => ⟨by omega, HN.out h⟩⟩, hg⟩
end Go.Proofs.YtpdmmmdkpipmkaaGreatDoor
