/-
  Any bytes, at any place, are the number or the error that the document names: for all bytes and places, in whatever memory, the law returns true and nothing that was there turns.
-/
import Derived.Test.YtmgddkijheaknaaLent
import Derived.Test.YtmgddkijheaknaaRefRead
namespace Go.Proofs.Ytmgddkijheaknaa
open Go.RowKit

theorem Holds.lent {w : World} {g c : Nat} {l : List UInt8} (h : Holds w (some ⟨g, 2, none⟩) c (l ++ [203, 204])) : Holds w (some ⟨g, 2, none⟩) c l := by
  have := h.take l.length
  rwa [List.take_left] at this

set_option maxRecDepth 100000 in
set_option maxHeartbeats 800000 in
theorem packInts_walk (a : Option Addr) (c : Nat) (l : List UInt8) (x : Int) (w : World) (ha : Holds w a c l) (hr : l.length ≤ 140737488351232) (h0 : -9223372036854775808 ≤ x) (h1 : x ≤ 9223372036854775807) :
    Calls Try.prog 4 #[.slice a l.length c, .int .i64 x] w fun e w' => e = .returned (.bool true) ∧ Below w.heap.size w w' := by
  have hm : l.length ≤ maxLen := by unfold maxLen; omega
  go_enter Try.func4, Try.ntmps4
  go_wp2_with fail
  refine (lent_any a c l w ha hr).mono ?_
  rintro e w1 ⟨g, c1, rfl, hL, hg, B1⟩
  have ha1 := ha.below B1
  go_wp2_with fail
  refine (int_any (some ⟨g, 2, none⟩) c1 l x w1 hL.lent hm h0 h1).mono ?_
  rintro e w2 ⟨rfl, rfl⟩
  go_wp2_with fail
  refine (rint_any a c l x w1 ha1 hm h0 h1).mono ?_
  rintro e w2 ⟨rfl, rfl⟩
  generalize Pm.rd l x = R at *
  go_wp2_with fail
  refine (kept_any a g c c1 l w1 hL ha1 hr).mono ?_
  rintro e w2 ⟨rfl, rfl⟩
  go_wp2_with fail
  refine (live_any w1).mono ?_
  rintro e w3 ⟨rfl, B3⟩
  go_wp2
  go_ret
  exact ⟨rfl, Below.then B1 B3⟩
end Go.Proofs.Ytmgddkijheaknaa
