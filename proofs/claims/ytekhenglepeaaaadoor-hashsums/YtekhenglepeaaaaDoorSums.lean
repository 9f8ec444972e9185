/-
  The walk of HashSums: the sum of any bytes is the document's.
-/
import Derived.Test.YtekhenglepeaaaaDoorRefS
import Derived.Test.YtekhenglepeaaaaDoorLive
import Derived.Test.YtekhenglepeaaaaDoorLentKept
namespace Go.Proofs.YtekhenglepeaaaaDoor
open Go.RowKit

set_option maxRecDepth 100000 in
set_option maxHeartbeats 1600000 in
theorem hashSums_walk (a : Option Addr) (c : Nat) (l : List UInt8) (w : World) (hL : Laid w) (ha : Holds w a c l) (ra : l.length ≤ 140737488351232) :
    Calls Tryd.prog 3 #[.slice a l.length c] w fun e w' => e = .returned (.bool true) ∧ Below w.heap.size w w' := by
  by_cases h0 : 20000 < l.length
  · have k0 : (20000 : Int) < (l.length : Int) := by omega
    go_enter Tryd.func3, Tryd.ntmps3
    go_wp2_with (go_at_call 8; refine (live_any w hL).mono ?_; rintro e w2 ⟨rfl, hb2⟩)
    go_ret
    exact ⟨rfl, hb2⟩
  · have k0 : ¬ (20000 : Int) < (l.length : Int) := by omega
    have hE := equalIn32 (Sm.sum l) (Sm.sum l) (Sm.sum_length _) (Sm.sum_length _)
    rw [beq_self_eq_true] at hE
    go_enter Tryd.func3, Tryd.ntmps3
    go_wp2_with fail
    refine (lent_any a c l w ha ra).mono ?_
    rintro e1 w1 ⟨g, cap, rfl, hH, hg, hb1⟩
    have h1 : Holds w1 (some ⟨g, 2, none⟩) cap l := by
      have := hH.take l.length
      rwa [List.take_left] at this
    go_wp2_with fail
    refine (hsum_any (some ⟨g, 2, none⟩) cap l w1 h1 (hL.below hb1) (by omega)).mono ?_
    rintro e2 w2 ⟨rfl, hb2⟩
    have B2 := Below.then hb1 hb2
    go_wp2_with fail
    refine (refSum_any a c l w2 (ha.below B2) (by omega)).mono ?_
    rintro e3 w3 ⟨rfl, hb3⟩
    have B3 := Below.then B2 hb3
    have hH3 := (hH.below hb2).below hb3
    have ha3 := ha.below B3
    clear h1 hH hb1 hb2 hb3 B2
    go_wp2_with fail
    refine (kept_any a g c cap l w3 hH3 ha3 ra).mono ?_
    rintro e4 w4 ⟨rfl, rfl⟩
    go_wp2_with (go_at_call 8; refine (live_any w3 (hL.below B3)).mono ?_; rintro e w5 ⟨rfl, hb5⟩)
    go_ret
    exact ⟨rfl, Below.then B3 hb5⟩
end Go.Proofs.YtekhenglepeaaaaDoor
