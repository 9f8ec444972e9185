/-
  A number and a text stand behind any bytes as the document says: for all inputs that together hold at most 1048576 values and letters, in whatever memory, the law returns true and nothing that was there turns.
-/
import Derived.Test.YtmgddkijheaknaaRefPut
import Derived.Test.YtmgddkijheaknaaOne
namespace Go.Proofs.Ytmgddkijheaknaa
open Go.RowKit

theorem rputText_ex (a : Option Addr) (n c m : Nat) (l k s : List UInt8) (w : World) (hn : l.length = n) (ha : Holds w a c l) (hr : n + (10 + s.length) ≤ 140737488355328) (hk : l ++ Pm.vb (Pm.tb s.length) ++ s = k) (hm : k.length = m) :
    Calls Try.prog 14 #[.slice a n c, str s] w fun e w' => ∃ g cap, e = .returned (.slice (some ⟨g, 0, none⟩) m cap) ∧ Own w' w.heap.size g m cap k ∧ Below w.heap.size w w' := by
  subst hn hk hm
  exact rputText_any a c l s w ha hr

theorem Holds.lent2 {w : World} {g c : Nat} {l : List UInt8} (h : Holds w (some ⟨g, 2, none⟩) c (l ++ [203, 204])) : Holds w (some ⟨g, 2, none⟩) c l := by
  have := h.take l.length
  rwa [List.take_left] at this

set_option maxRecDepth 100000 in
set_option maxHeartbeats 1600000 in
theorem packPuts_walk (a : Option Addr) (c : Nat) (l : List UInt8) (n : Int) (s : List UInt8) (w : World) (ha : Holds w a c l) (hr : l.length ≤ 1048576) (h0 : -9223372036854775808 ≤ n) (h1 : n ≤ 9223372036854775807) (hs : s.length ≤ 1048576) :
    Calls Try.prog 3 #[.slice a l.length c, .int .i64 n, str s] w fun e w' => e = .returned (.bool true) ∧ Below w.heap.size w w' := by
  obtain ⟨K, hK⟩ : ∃ K, l ++ Pm.vb (Pm.tb n) = K := ⟨_, rfl⟩
  obtain ⟨M, hM⟩ : ∃ M, l ++ Pm.vb (Pm.tb s.length) ++ s = M := ⟨_, rfl⟩
  have HK : Hid (l ++ Pm.vb (Pm.tb n) = K) := hK
  have HM : Hid (l ++ Pm.vb (Pm.tb s.length) ++ s = M) := hM
  clear hK hM
  go_enter Try.func3, Try.ntmps3
  go_wp2_with fail
  refine (lent_any a c l w ha (by omega)).mono ?_
  rintro e w1 ⟨g, c1, rfl, hL, hg, B1⟩
  go_wp2_with fail
  refine (putInt_ex (some ⟨g, 2, none⟩) l.length c1 K.length l K n w1 rfl hL.lent2 (by omega) h0 h1 HK.out rfl).mono ?_
  rintro e w2 ⟨g2, c2, rfl, ho2, B2⟩
  have B12 := Below.then B1 B2
  go_wp2_with fail
  refine (rputInt_ex a l.length c K.length l K n w2 rfl (ha.below B12) (by omega) h0 h1 HK.out rfl).mono ?_
  rintro e w3 ⟨g3, c3, rfl, ho3, B3⟩
  have B13 := Below.then B12 B3
  go_wp2_with fail
  refine (same_at (some ⟨g2, 0, none⟩) (some ⟨g3, 0, none⟩) K.length K.length c2 c3 K K w3 rfl rfl (ho2.holds.below B3) ho3.holds).mono ?_
  rintro e w4 ⟨rfl, rfl⟩
  rw [beq_self_eq_true]
  have hL3 := (hL.below B2).below B3
  clear ho2 ho3 hL
  go_wp2_with fail
  refine (putText_ex (some ⟨g, 2, none⟩) l.length c1 M.length l M s w3 rfl hL3.lent2 (by omega) HM.out rfl).mono ?_
  rintro e w4 ⟨g4, c4, rfl, ho4, B4⟩
  have B14 := Below.then B13 B4
  go_wp2_with fail
  refine (rputText_ex a l.length c M.length l M s w4 rfl (ha.below B14) (by omega) HM.out rfl).mono ?_
  rintro e w5 ⟨g5, c5, rfl, ho5, B5⟩
  have B15 := Below.then B14 B5
  go_wp2_with fail
  refine (same_at (some ⟨g4, 0, none⟩) (some ⟨g5, 0, none⟩) M.length M.length c4 c5 M M w5 rfl rfl (ho4.holds.below B5) ho5.holds).mono ?_
  rintro e w6 ⟨rfl, rfl⟩
  rw [beq_self_eq_true]
  have hL5 := (hL3.below B4).below B5
  clear ho4 ho5 hL3
  go_wp2_with fail
  refine (kept_any a g c c1 l w5 hL5 (ha.below B15) (by omega)).mono ?_
  rintro e w6 ⟨rfl, rfl⟩
  go_wp2_with fail
  refine (live_any _).mono ?_
  rintro e w7 ⟨rfl, B7⟩
  go_wp2
  go_ret
  exact ⟨rfl, Below.then B15 B7⟩
end Go.Proofs.Ytmgddkijheaknaa
