/-
  The reference's Like and Weight.
-/
import Derived.Test.YtghhdbkgibpebaaROrd
import Derived.Deep.QuietTactic
import Derived.BigQuiet
namespace Go.Proofs.Ytghhdbkgibpebaa
open Go.RowKit Go.Sort

/-- are two lists of facts the same? -/
def likeB (l m : List F) : Bool := decide (cL cF l m = 0)
theorem likeB_iff (l m : List F) : likeB l m = true ↔ l = m := by
  unfold likeB; rw [decide_eq_true_eq, cL_zero cF_zero]
theorem likeB_self (l : List F) : likeB l l = true := (likeB_iff l l).2 rfl
theorem likeB_no {l m : List F} (h : l ≠ m) : likeB l m = false := by
  rw [Bool.eq_false_iff]; exact fun h' => h ((likeB_iff l m).1 h')

/-- Weight hands back some number and turns nothing -/
def AnyInt (e : Ending) : Prop := ∃ r : Int, e = .returned (.int .i64 r)

set_option maxHeartbeats 4000000 in
theorem weight_at (a : Option Addr) (c : Nat) (xs : List Fv) (m : Int) (w : World) (hx : Lies w a c xs) (ax : ∀ x ∈ xs, Fv.At w x) :
    Calls Try.prog 9 #[.slice a xs.length c, .int .i64 m] w fun e w' => AnyInt e ∧ Grew w w' := by
  have mixed : Try.prog.follows .mixedOrders = true := by kernel_rfl
  have b1 := hx.few
  go_enter Try.func9, Try.ntmps9
  go_wp2_with fail
  go_loopw [5, 6, 7] (fun v5 v6 _ wr => ∃ (k : Nat) (n : Int), v5 = .int .i64 n ∧ v6 = .int .i64 (k : Int) ∧ k ≤ xs.length ∧ Grew w wr) (fun _ v6 _ _ => xs.length - (intOf v6).toNat)
  case atStart => exact ⟨0, 0, rfl, rfl, by omega, Grew.refl _⟩
  case round =>
    obtain ⟨k, n, rfl, rfl, hk, hg⟩ := hrel
    by_cases hlt : k < xs.length
    · have q2 : (k : Int) < (xs.length : Int) := by omega
      by_cases hn : n ≤ m
      · obtain ⟨P1, O1, rfl⟩ := hx.addr (Nat.lt_of_le_of_lt (Nat.zero_le _) hlt)
        have hx' := hx.below hg.below (Nat.le_refl _)
        obtain ⟨a1, a2, a3, a4⟩ := hx'.get k hlt
        have hA := (ax _ (List.getElem_mem hlt)).grew hg
        have hfew := ArgsAt.few hA
        generalize (xs[k]'hlt) = p at *
        go_wp2_with fail
        go_quiet (fail)
        go_wp2_with fail
        have hg2 := hg.trans (Grew.drewN wr nq)
        have b2 := (Grew.drewN wr nq).below
        have e4 := (b2.cell (p := ⟨P1, O1 + k * 4 + 3, none⟩) (cell_block a4)).trans a4
        have hA2 := hA.grew (Grew.drewN wr nq)
        generalize wr.drewN nq = w2 at *
        clear a1 a2 a3 a4 b2 hA hx' hg
        go_loopw [5, 7] (fun v5 v7 wi => ∃ (j : Nat) (n : Int), v5 = .int .i64 n ∧ v7 = .int .i64 (j : Int) ∧ j ≤ p.ks.length ∧ Grew w2 wi) (fun _ v7 _ => p.ks.length - (intOf v7).toNat)
        case atStart => exact ⟨0, _, rfl, rfl, by omega, Grew.refl _⟩
        case round =>
          obtain ⟨j, n', rfl, rfl, hj, hgi⟩ := hrel
          have c4 := (hgi.below.cell (p := ⟨P1, O1 + k * 4 + 3, none⟩) (cell_block e4)).trans e4
          by_cases hjl : j < p.ks.length
          · have q3 : (j : Int) < (p.ks.length : Int) := by omega
            by_cases hn' : n' ≤ m
            · obtain ⟨P2, O2, hP2⟩ := ArgsAt.addr hA2 (Nat.lt_of_le_of_lt (Nat.zero_le _) hjl)
              have hA3 := hA2.grew hgi
              rw [Fv.At, hP2] at hA3
              rw [hP2] at c4
              obtain ⟨m1, m2, m3⟩ := hA3.get j hjl
              go_wp2_with fail
              exact ⟨⟨j + 1, _, rfl, by simp, by omega, hgi⟩, by simp [intOf]; omega⟩
            · go_wp2_with fail
              exact ⟨⟨k + 1, n', rfl, by simp, by omega, hg2.trans hgi⟩, by simp [intOf]; omega⟩
          · have q3 : ¬ (j : Int) < (p.ks.length : Int) := by omega
            go_wp2_with fail
            exact ⟨⟨k + 1, n', rfl, by simp, by omega, hg2.trans hgi⟩, by simp [intOf]; omega⟩
      · go_wp2_with fail
        go_ret
        exact ⟨⟨n, rfl⟩, hg⟩
    · have q2 : ¬ (k : Int) < (xs.length : Int) := by omega
      go_wp2_with fail
      go_ret
      exact ⟨⟨n, rfl⟩, hg⟩

end Go.Proofs.Ytghhdbkgibpebaa
