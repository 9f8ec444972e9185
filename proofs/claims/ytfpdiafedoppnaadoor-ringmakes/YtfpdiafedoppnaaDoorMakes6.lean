/-
  The walk of RingMakes: which names make a ring, and what it tells of them, is the document's.
-/
import Derived.Test.YtfpdiafedoppnaaDoorRs6
import Derived.Test.YtfpdiafedoppnaaDoorTx6
import Derived.Test.YtfpdiafedoppnaaDoorRa
namespace Go.Proofs.YtfpdiafedoppnaaDoor
open Go.RowKit

set_option maxRecDepth 100000 in
set_option maxHeartbeats 3200000 in
theorem ringMakes_walk (seed : Int) (a : Option Addr) (c : Nat) (N : List (List UInt8)) (who : List UInt8) (w : World) (hL : Laid w) (s0 : -9223372036854775808 ≤ seed) (s1 : seed ≤ 9223372036854775807) (h : Row sK w a c N) (_ : N.length * 16 ≤ reachBytes) (_ : who.length ≤ 140737488351232) :
    Calls Tryd.prog 3 #[.int .i64 seed, .slice a N.length c, str who] w fun e w' => e = .returned (.bool true) ∧ Below w.heap.size w w' := by
  have few := h.few
  go_enter Tryd.func3, Tryd.ntmps3
  go_wp2_with fail
  by_cases hb : N.length ≤ 6
  rotate_left
  · refine (new6_big w a c seed N hb).mono ?_
    rintro _ w1 ⟨rfl, rfl⟩
    go_wp2_with fail
    refine (rnew6_big w a c seed N hb).mono ?_
    rintro _ w2 ⟨rfl, rfl⟩
    go_wp2_with fail
    refine (live6 w hL).mono ?_
    rintro _ w9 ⟨rfl, b9⟩
    go_wp2_with fail
    go_ret
    exact ⟨rfl, b9⟩
  by_cases hm : may N
  rotate_left
  · refine (new6_arg w a c seed N h hb hm).mono ?_
    rintro _ w1 ⟨rfl, rfl⟩
    go_wp2_with fail
    refine (rnew6 w a c seed N h hb s0 s1).mono ?_
    rintro _ w2 ⟨(⟨_, rfl⟩ | ⟨hm', _⟩), b2⟩
    rotate_left
    · exact absurd hm' hm
    go_wp2_with fail
    refine (live6 w2 (hL.below b2)).mono ?_
    rintro _ w9 ⟨rfl, b9⟩
    go_wp2_with fail
    go_ret
    exact ⟨rfl, Below.then b2 b9⟩
  refine (new6_ok w a c seed N h hL hb hm s0 s1).mono ?_
  rintro _ w1 ⟨rb, rfl, ⟨g, cap, bm, r1, _⟩, b1⟩
  go_wp2_with fail
  refine (rnew6 w1 a c seed N (h.below b1 (Nat.le_refl _)) hb s0 s1).mono ?_
  rintro _ w2 ⟨(⟨hm', _⟩ | ⟨_, qb, na, nc, rfl, q2⟩), b2⟩
  · exact absurd hm hm'
  have B2 := Below.then b1 b2
  have r2 := r1.below b2
  clear b1 b2 r1
  go_wp2_with fail
  refine (names6 w2 rb g cap bm seed N [] r2).mono ?_
  rintro _ w3 ⟨v3, rfl, o3, b3⟩
  obtain ⟨a3, c3, rfl, H3, _⟩ := own_row (D := sK) o3 few
  have B3 := Below.then B2 b3
  have r3 := r2.below b3
  have q3 := q2.below b3
  clear o3 b3 r2 q2 B2
  go_wp2_with fail
  refine (texts6 w3 a3 a c3 c N H3.row (h.below B3 (Nat.le_refl _))).mono ?_
  rintro _ w4 ⟨rfl, b4⟩
  have B4 := Below.then B3 b4
  have r4 := r3.below b4
  have q4 := q3.below b4
  go_wp2_with fail
  refine (is6 w4 rb g cap bm seed N [] who r4).mono ?_
  rintro _ w5 ⟨rfl, b5⟩
  have B5 := Below.then B4 b5
  have r5 := r4.below b5
  have q5 := q4.below b5
  go_wp2_with fail
  refine (ris6 w5 _ qb na nc _ seed N [] who q5).mono ?_
  rintro _ w6 ⟨rfl, rfl⟩
  generalize decide (who ∈ N) = d
  have hd : (d == d) = true := by simp
  go_wp2_with fail
  refine (len6 w5 rb g cap bm seed N [] r5).mono ?_
  rintro _ w6 ⟨rfl, rfl⟩
  go_wp2_with fail
  refine (live6 w5 (hL.below B5)).mono ?_
  rintro _ w9 ⟨rfl, b9⟩
  go_wp2_with fail
  go_ret
  exact ⟨rfl, Below.then B5 b9⟩
end Go.Proofs.YtfpdiafedoppnaaDoor
