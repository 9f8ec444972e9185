/-
  Any bytes in digits, and any text as bytes, are the document's: for all inputs, in whatever memory, the law returns true and nothing that was there turns.
-/
import Derived.Test.YtmgddkijheaknaaRefHex
import Derived.Test.YtmgddkijheaknaaLive
namespace Go.Proofs.Ytmgddkijheaknaa
open Go.RowKit

set_option maxRecDepth 100000 in
set_option maxHeartbeats 1600000 in
theorem packHex_walk (a : Option Addr) (c : Nat) (l : List UInt8) (s : List UInt8) (w : World) (ha : Holds w a c l) (hr : l.length ≤ 140737488351232) (hs : s.length ≤ 140737488351232) :
    Calls Try.prog 6 #[.slice a l.length c, str s] w fun e w' => e = .returned (.bool true) ∧ Below w.heap.size w w' := by
  have hsz : (⟨s.toArray⟩ : ByteArray).size = s.length := by simp [ByteArray.size]
  by_cases hl : 5000 < l.length
  · have hl2 : (5000 : Int) < (l.length : Int) := by omega
    go_enter Try.func6, Try.ntmps6
    go_wp2_with fail
    refine (live_any _).mono ?_
    rintro e w3 ⟨rfl, B3⟩
    go_wp2
    go_ret
    exact ⟨rfl, B3⟩
  · have hl2 : ¬ (5000 : Int) < (l.length : Int) := by omega
    by_cases h5 : 5000 < s.length
    · have h52 : (5000 : Int) < (s.length : Int) := by omega
      go_enter Try.func6, Try.ntmps6
      go_wp2_with fail
      refine (live_any _).mono ?_
      rintro e w3 ⟨rfl, B3⟩
      go_wp2
      go_ret
      exact ⟨rfl, B3⟩
    · have h52 : ¬ (5000 : Int) < (s.length : Int) := by omega
      go_enter Try.func6, Try.ntmps6
      go_wp2_with fail
      refine (unhex_any s w hs).mono ?_
      rintro e w1 (⟨hun, rfl, B1⟩ | ⟨u, hun, g1, c1, rfl, ho1, B1⟩)
      · go_wp2_with fail
        refine (runhex_any s w1 hs).mono ?_
        rintro e w2 (⟨_, rfl, B2⟩ | ⟨u2, hun2, a2, c2, rfl, ho2, B2⟩)
        · clear hun
          have B12 := Below.then B1 B2
          have hab := ha.below B12
          go_wp2_with fail
          refine (hex_any a c l w2 hab (by omega)).mono ?_
          rintro e w3 ⟨rfl, B3⟩
          go_wp2_with fail
          refine (rhex_any a c l w3 (hab.below B3) hr).mono ?_
          rintro e w4 ⟨rfl, B4⟩
          generalize Pm.hexOf l = X at *
          go_wp2_with fail
          refine (same_at none none 0 0 0 0 [] [] w4 rfl rfl (Holds.nil _) (Holds.nil _)).mono ?_
          rintro e w5 ⟨rfl, rfl⟩
          rw [beq_self_eq_true]
          go_wp2_with fail
          refine (live_any _).mono ?_
          rintro e w6 ⟨rfl, B6⟩
          go_wp2
          go_ret
          exact ⟨rfl, Below.then (Below.then (Below.then B12 B3) B4) B6⟩
        · rw [hun] at hun2; cases hun2
      · go_wp2_with fail
        refine (runhex_any s w1 hs).mono ?_
        rintro e w2 (⟨hun2, rfl, B2⟩ | ⟨u2, hun2, a2, c2, rfl, ho2, B2⟩)
        · rw [hun] at hun2; cases hun2
        · rw [hun] at hun2
          cases hun2
          clear hun
          have B12 := Below.then B1 B2
          have hab := ha.below B12
          have h1 := ho1.holds.below B2
          clear ho1
          go_wp2_with fail
          refine (hex_any a c l w2 hab (by omega)).mono ?_
          rintro e w3 ⟨rfl, B3⟩
          go_wp2_with fail
          refine (rhex_any a c l w3 (hab.below B3) hr).mono ?_
          rintro e w4 ⟨rfl, B4⟩
          generalize Pm.hexOf l = X at *
          go_wp2_with fail
          refine (same_at (some ⟨g1, 0, none⟩) a2 u.length u.length c1 c2 u u w4 rfl rfl ((h1.below B3).below B4) ((ho2.below B3).below B4)).mono ?_
          rintro e w5 ⟨rfl, rfl⟩
          rw [beq_self_eq_true]
          go_wp2_with fail
          refine (live_any _).mono ?_
          rintro e w6 ⟨rfl, B6⟩
          go_wp2
          go_ret
          exact ⟨rfl, Below.then (Below.then (Below.then B12 B3) B4) B6⟩
end Go.Proofs.Ytmgddkijheaknaa
