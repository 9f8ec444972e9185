/-
  The walk of MacTags: the tag and what is tagged are the document's; what was lent is kept.
-/
import Derived.Test.YtmdeielcoomeeaaDoorMLive
import Derived.Test.YtmdeielcoomeeaaDoorLentKept
namespace Go.Proofs.YtmdeielcoomeeaaDoor
open Go.RowKit

theorem lent_holds {w : World} {g c : Nat} {l : List UInt8} (h : Holds w (some ⟨g, 2, none⟩) c (l ++ [203, 204])) : Holds w (some ⟨g, 2, none⟩) c l := by
  have := h.take l.length
  rwa [List.take_left] at this

set_option maxRecDepth 100000 in
set_option maxHeartbeats 3200000 in
theorem macTags_walk (a : Option Addr) (c : Nat) (k : List UInt8) (d : List UInt8) (b : Option Addr) (cb : Nat) (m : List UInt8) (w : World) (hL : Laid w)
    (ha : Holds w a c k) (ra : k.length ≤ 140737488351232) (rd : d.length ≤ 140737488351232) (hb : Holds w b cb m) (rb : m.length ≤ 140737488351232) :
    Calls Tryd.prog 3 #[.slice a k.length c, str d, .slice b m.length cb] w fun e w' => e = .returned (.bool true) ∧ Below w.heap.size w w' := by
  have hsz : (⟨d.toArray⟩ : ByteArray).size = d.length := by simp [ByteArray.size]
  by_cases h : k.length + d.length + m.length ≤ 9000
  · have q0 : ¬ (9000 : Int) < (k.length : Int) + (d.length : Int) + (m.length : Int) := by omega
    have z1 : (k.length : Int) ≤ 9000 := by omega
    have z2 : (d.length : Int) ≤ 9000 := by omega
    have z3 : (m.length : Int) ≤ 9000 := by omega
    go_enter Tryd.func3, Tryd.ntmps3
    go_wp2_with fail
    refine (lent_any a c k w ha ra).mono ?_
    rintro _ w1 ⟨g1, c1, rfl, h1, -, b1⟩
    go_wp2_with fail
    refine (lent_any b cb m w1 (hb.below b1) rb).mono ?_
    rintro _ w2 ⟨g2, c2, rfl, h2, -, b2⟩
    have B2 := Below.then b1 b2
    have h1' := h1.below b2
    clear h1 b1 b2
    go_wp2_with fail
    refine (tag_any k d m (some ⟨g1, 2, none⟩) (some ⟨g2, 2, none⟩) c1 c2 w2 (lent_holds h1') (lent_holds h2) (hL.below B2) (by omega) (by omega) (by omega)).mono ?_
    rintro _ w3 ⟨rfl, b3⟩
    have B3 := Below.then B2 b3
    have h1x := h1'.below b3
    have h2x := h2.below b3
    clear B2 b3 h1' h2
    go_wp2_with fail
    refine (rtag_any k d m a b c cb w3 (ha.below B3) (hb.below B3) (by omega) (by omega) (by omega)).mono ?_
    rintro _ w4 ⟨rfl, b4⟩
    have B4 := Below.then B3 b4
    have h1y := h1x.below b4
    have h2y := h2x.below b4
    clear B3 b4 h1x h2x
    have lD := Mm.tag_length k d m
    have hE := equalIn32 (Mm.tag k d m) (Mm.tag k d m) lD lD
    rw [beq_self_eq_true] at hE
    generalize Mm.tag k d m = D at hE ⊢
    go_wp2_with fail
    refine (text_any d (some ⟨g2, 2, none⟩) c2 m w4 (lent_holds h2y) (by omega)).mono ?_
    rintro _ w5 ⟨g5, c5, rfl, o5, b5⟩
    have B5 := Below.then B4 b5
    go_wp2_with fail
    refine (rtext_any d b cb m w5 (hb.below B5) (by omega)).mono ?_
    rintro _ w6 ⟨g6, c6, rfl, o6, b6⟩
    have B6 := Below.then B5 b6
    have h1z := (h1y.below b5).below b6
    have h2z := (h2y.below b5).below b6
    have o5' := o5.holds.below b6
    have o6' := o6.holds
    clear B4 B5 b5 b6 h1y h2y o5 o6 hE lD
    generalize Mm.text d m = T at o5' o6' ⊢
    go_wp2_with fail
    refine (same_at (some ⟨g5, 0, none⟩) (some ⟨g6, 0, none⟩) T.length T.length c5 c6 T T w6 rfl rfl o5' o6').mono ?_
    rintro _ w7 ⟨rfl, rfl⟩
    rw [beq_self_eq_true]
    go_wp2_with fail
    refine (kept_any a g1 c c1 k w6 h1z (ha.below B6) ra).mono ?_
    rintro _ w7 ⟨rfl, rfl⟩
    go_wp2_with fail
    refine (kept_any b g2 cb c2 m w6 h2z (hb.below B6) rb).mono ?_
    rintro _ w7 ⟨rfl, rfl⟩
    go_wp2_with fail
    refine (live_any w6 (hL.below B6)).mono ?_
    rintro _ w8 ⟨rfl, b8⟩
    go_wp2_with fail
    go_ret
    exact ⟨rfl, Below.then B6 b8⟩
  · have q0 : (9000 : Int) < (k.length : Int) + (d.length : Int) + (m.length : Int) := by omega
    have z1 : (k.length : Int) ≤ 140737488351232 := by omega
    have z2 : (d.length : Int) ≤ 140737488351232 := by omega
    have z3 : (m.length : Int) ≤ 140737488351232 := by omega
    go_enter Tryd.func3, Tryd.ntmps3
    go_wp2_with fail
    refine (live_any w hL).mono ?_
    rintro _ w3 ⟨rfl, b3⟩
    go_wp2_with fail
    go_ret
    exact ⟨rfl, b3⟩
end Go.Proofs.YtmdeielcoomeeaaDoor
