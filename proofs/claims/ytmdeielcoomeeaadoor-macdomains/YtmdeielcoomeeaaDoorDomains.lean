/-
  The walk of MacDomains: unlike pairs of a domain and bytes have unlike texts.
-/
import Derived.Test.YtmdeielcoomeeaaDoorMLive
namespace Go.Proofs.YtmdeielcoomeeaaDoor
open Go.RowKit

set_option maxRecDepth 100000 in
set_option maxHeartbeats 3200000 in
theorem macDomains_walk (d : List UInt8) (a : Option Addr) (c : Nat) (x : List UInt8) (b : Option Addr) (cb : Nat) (y : List UInt8) (w : World) (hL : Laid w)
    (rd : d.length ≤ 140737488351232) (ha : Holds w a c x) (ra : x.length ≤ 140737488351232) (hb : Holds w b cb y) (rb : y.length ≤ 140737488351232) :
    Calls Tryd.prog 6 #[str d, .slice a x.length c, .slice b y.length cb] w fun e w' => e = .returned (.bool true) ∧ Below w.heap.size w w' := by
  have hsz : (⟨d.toArray⟩ : ByteArray).size = d.length := by simp [ByteArray.size]
  have z1 : (x.length : Int) ≤ 140737488351232 := by omega
  have z2 : (d.length : Int) ≤ 140737488351232 := by omega
  have z3 : (y.length : Int) ≤ 140737488351232 := by omega
  by_cases h1 : 5000 < d.length
  · have q1 : (5000 : Int) < (d.length : Int) := by omega
    go_enter Tryd.func6, Tryd.ntmps6
    go_wp2_with fail
    refine (live_any w hL).mono ?_
    rintro _ w3 ⟨rfl, b3⟩
    go_wp2_with fail
    go_ret
    exact ⟨rfl, b3⟩
  · have q1 : ¬ (5000 : Int) < (d.length : Int) := by omega
    by_cases h2 : 5000 < x.length
    · have q2 : (5000 : Int) < (x.length : Int) := by omega
      go_enter Tryd.func6, Tryd.ntmps6
      go_wp2_with fail
      refine (live_any w hL).mono ?_
      rintro _ w3 ⟨rfl, b3⟩
      go_wp2_with fail
      go_ret
      exact ⟨rfl, b3⟩
    · have q2 : ¬ (5000 : Int) < (x.length : Int) := by omega
      by_cases h3 : 5000 < y.length
      · have q3 : (5000 : Int) < (y.length : Int) := by omega
        go_enter Tryd.func6, Tryd.ntmps6
        go_wp2_with fail
        refine (live_any w hL).mono ?_
        rintro _ w3 ⟨rfl, b3⟩
        go_wp2_with fail
        go_ret
        exact ⟨rfl, b3⟩
      · have q3 : ¬ (5000 : Int) < (y.length : Int) := by omega
        have cv := conv hb
        have hX := Mm.text_other d x y
        obtain ⟨p, hp⟩ : ∃ p, (d == y) = p := ⟨_, rfl⟩
        obtain ⟨q, hq⟩ : ∃ q, ((x.length : Int) == 0) = q := ⟨_, rfl⟩
        have hq' : (x.length == 0) = q := by rw [← hq, Bool.eq_iff_iff, beq_iff_eq, beq_iff_eq]; omega
        rw [hp, hq'] at hX
        have HX := hideP hX
        clear hX hq'
        cases p <;> cases q
        all_goals
          go_enter Tryd.func6, Tryd.ntmps6
          go_wp2_with fail
          refine (text_any d a c x w ha (by omega)).mono ?_
          rintro _ w1 ⟨g1, c1, rfl, o1, b1⟩
          go_wp2_with fail
          refine (text_any y none 0 [] w1 (Holds.nil w1) (by simp; omega)).mono ?_
          rintro _ w2 ⟨g2, c2, rfl, o2, b2⟩
          have B2 := Below.then b1 b2
          have o1' := o1.holds.below b2
          have o2' := o2.holds
          go_wp2_with fail
          refine (same_at (some ⟨g1, 0, none⟩) (some ⟨g2, 0, none⟩) (Mm.text d x).length (Mm.text y []).length c1 c2 (Mm.text d x) (Mm.text y []) w2 rfl rfl o1' o2').mono ?_
          rintro _ w3 ⟨rfl, rfl⟩
          rw [HX.out]
          clear HX b1 b2 o1 o2 o1' o2'
          go_wp2_with fail
          refine (text_any d a c x w2 (ha.below B2) (by omega)).mono ?_
          rintro _ w3 ⟨g3, c3, rfl, o3, b3⟩
          have B3 := Below.then B2 b3
          go_wp2_with fail
          refine (text_any d b cb y w3 (hb.below B3) (by omega)).mono ?_
          rintro _ w4 ⟨g4, c4, rfl, o4, b4⟩
          have B4 := Below.then B3 b4
          have o3' := o3.holds.below b4
          have o4' := o4.holds
          have hS := Mm.text_same d x y
          have HS := hideP hS
          clear hS B2 B3 b3 b4 o3 o4
          go_wp2_with fail
          refine (same_at (some ⟨g3, 0, none⟩) (some ⟨g4, 0, none⟩) (Mm.text d x).length (Mm.text d y).length c3 c4 (Mm.text d x) (Mm.text d y) w4 rfl rfl o3' o4').mono ?_
          rintro _ w5 ⟨rfl, rfl⟩
          rw [HS.out]
          clear HS o3' o4'
          go_wp2_with fail
          refine (same_any a b c cb x y w4 (ha.below B4) (hb.below B4)).mono ?_
          rintro _ w5 ⟨rfl, rfl⟩
          go_wp2_with fail
          refine (live_any w4 (hL.below B4)).mono ?_
          rintro _ w6 ⟨rfl, b6⟩
          go_wp2_with fail
          go_ret
          exact ⟨rfl, Below.then B4 b6⟩
end Go.Proofs.YtmdeielcoomeeaaDoor
