/-
  Any bytes, at any place, are the text, or the count up to any number, or the error that the document names: for all inputs, in whatever memory, the law returns true and nothing that was there turns.
-/
import Derived.Test.YtmgddkijheaknaaInts
import Derived.Test.YtmgddkijheaknaaText
namespace Go.Proofs.Ytmgddkijheaknaa
open Go.RowKit

set_option maxRecDepth 100000 in
set_option maxHeartbeats 800000 in
theorem packTexts_walk (a : Option Addr) (c : Nat) (l : List UInt8) (x m : Int) (w : World) (ha : Holds w a c l) (hr : l.length ≤ 140737488351232) (h0 : -9223372036854775808 ≤ x) (h1 : x ≤ 9223372036854775807) (_h2 : -9223372036854775808 ≤ m) (_h3 : m ≤ 9223372036854775807) :
    Calls Try.prog 5 #[.slice a l.length c, .int .i64 x, .int .i64 m] w fun e w' => e = .returned (.bool true) ∧ Below w.heap.size w w' := by
  have hm : l.length ≤ maxLen := by unfold maxLen; omega
  go_enter Try.func5, Try.ntmps5
  go_wp2_with fail
  refine (lent_any a c l w ha hr).mono ?_
  rintro e w1 ⟨g, c1, rfl, hL, hg, B1⟩
  have ha1 := ha.below B1
  go_wp2_with fail
  refine (text_any (some ⟨g, 2, none⟩) c1 l x w1 hL.lent (by omega) h0 h1).mono ?_
  rintro e w2 ⟨rfl, rfl⟩
  go_wp2_with fail
  refine (rtext_any a c l x w1 ha1 (by omega) h0 h1).mono ?_
  rintro e w2 ⟨rfl, rfl⟩
  generalize Pm.tx l x = T at *
  go_wp2_with fail
  refine (count_any (some ⟨g, 2, none⟩) c1 l x m w1 hL.lent hm h0 h1).mono ?_
  rintro e w2 ⟨rfl, rfl⟩
  go_wp2_with fail
  refine (rcount_any a c l x m w1 ha1 hm h0 h1).mono ?_
  rintro e w2 ⟨rfl, rfl⟩
  generalize Pm.ct l x m = R at *
  go_wp2_with fail
  refine (live_any w1).mono ?_
  rintro e w3 ⟨rfl, B3⟩
  go_wp2
  go_ret
  exact ⟨rfl, Below.then B1 B3⟩
end Go.Proofs.Ytmgddkijheaknaa
