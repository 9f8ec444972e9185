/-
  Of two unlike numbers neither's bytes begin the other's, and each has one to ten bytes: for all numbers, in whatever memory, the law returns true and nothing that was there turns.
-/
import Derived.Test.YtmgddkijheaknabLive
import Derived.Deep.RegionWith
import Derived.StillTailTactics
namespace Go.Proofs.Ytmgddkijheaknab
open Go.RowKit

theorem Holds.drew {w : World} {a : Option Addr} {cap : Nat} {l : List UInt8} (h : Holds w a cap l) : Holds w.drew a cap l := ⟨h.1, h.2.1, fun ad ha j u hu => by simpa using h.2.2 ad ha j u hu⟩
theorem Holds.take {w : World} {a : Option Addr} {cap : Nat} {l : List UInt8} (h : Holds w a cap l) (k : Nat) : Holds w a cap (l.take k) := by
  refine ⟨Nat.le_trans (by simp; omega) h.1, fun ha => ?_, fun ad ha j u hu => h.2.2 ad ha j u ?_⟩
  · obtain ⟨rfl, hc⟩ := h.2.1 ha
    exact ⟨by simp, hc⟩
  · have hj : j < k := by
      have := (List.getElem?_eq_some_iff.1 hu).1
      rw [cs_length, List.length_take] at this; omega
    simp only [cs, List.map_take] at hu
    rw [List.getElem?_take, if_pos hj] at hu
    exact hu

set_option maxRecDepth 100000 in
set_option maxHeartbeats 1600000 in
theorem packApart_walk (n m : Int) (w : World) (h0 : -9223372036854775808 ≤ n) (h1 : n ≤ 9223372036854775807) (h2 : -9223372036854775808 ≤ m) (h3 : m ≤ 9223372036854775807) :
    Calls Try.prog 3 #[.int .i64 n, .int .i64 m] w fun e w' => e = .returned (.bool true) ∧ Below w.heap.size w w' := by
  have l1 := Pm.vb_pos (Pm.tb n)
  have l2 := Pm.vb_len10 _ (Pm.tb_lt n h0 h1)
  have l3 := Pm.vb_pos (Pm.tb m)
  have l4 := Pm.vb_len10 _ (Pm.tb_lt m h2 h3)
  obtain ⟨b, hb1, hb2⟩ : ∃ b, ((Pm.vb (Pm.tb n)).take (min (Pm.vb (Pm.tb n)).length (Pm.vb (Pm.tb m)).length) == (Pm.vb (Pm.tb m)).take (min (Pm.vb (Pm.tb n)).length (Pm.vb (Pm.tb m)).length)) = b ∧ (n == m) = b := by
    refine ⟨_, rfl, ?_⟩
    rw [Bool.eq_iff_iff, beq_iff_eq, beq_iff_eq]
    constructor
    · rintro rfl; rfl
    · intro h; exact Pm.tb_inj (Pm.vb_apart _ _ _ rfl h)
  generalize hu : Pm.vb (Pm.tb n) = u at *
  generalize hv : Pm.vb (Pm.tb m) = v at *
  have HU : Hid ([] ++ Pm.vb (Pm.tb n) = u) := hu
  have HV : Hid ([] ++ Pm.vb (Pm.tb m) = v) := hv
  clear hu hv
  rcases Nat.lt_or_ge v.length u.length with hvu | hvu
  · rw [show min u.length v.length = v.length by omega] at hb1
    go_enter Try.func3, Try.ntmps3
    go_wp2_with fail
    refine (putInt_ex none 0 0 u.length [] u n w rfl (Holds.nil _) (by omega) h0 h1 HU.out rfl).mono ?_
    rintro e w1 ⟨g1, c1, rfl, ho1, B1⟩
    go_wp2_with fail
    refine (putInt_ex none 0 0 v.length [] v m w1 rfl (Holds.nil _) (by omega) h2 h3 HV.out rfl).mono ?_
    rintro e w2 ⟨g2, c2, rfl, ho2, B2⟩
    have H1 := ho1.holds.below B2
    have H2 := ho2.holds
    have B := Below.then B1 B2
    clear ho1 ho2 B1 B2 HU HV
    have cv1 := conv (H1.drew.take v.length)
    have cv2 := conv H2.drew
    rw [show (u.take v.length).length = v.length by rw [List.length_take]; omega] at cv1
    rw [List.take_length] at hb1
    generalize u.take v.length = p1 at *
    have k1 := H1.1
    have k2 := H2.1
    clear H1 H2
    have m1 : (1 : Int) ≤ (u.length : Int) := by omega
    have m2 : (u.length : Int) ≤ 10 := by omega
    have m3 : (v.length : Int) ≤ (c1 : Int) := by omega
    have m4 : (v.length : Int) ≤ (c2 : Int) := by omega
    have m5 : (v.length : Int) < (u.length : Int) := by omega
    go_wp2_with fail
    go_still_tail 24, (by kernel_rfl)
    go_wp2_with (first | (go_at_call 5; refine (live_any _).mono ?_; rintro e w9 ⟨rfl, hb9⟩))
    go_ret
    exact ⟨by simp, Below.then B.drew hb9⟩
  · rw [show min u.length v.length = u.length by omega] at hb1
    go_enter Try.func3, Try.ntmps3
    go_wp2_with fail
    refine (putInt_ex none 0 0 u.length [] u n w rfl (Holds.nil _) (by omega) h0 h1 HU.out rfl).mono ?_
    rintro e w1 ⟨g1, c1, rfl, ho1, B1⟩
    go_wp2_with fail
    refine (putInt_ex none 0 0 v.length [] v m w1 rfl (Holds.nil _) (by omega) h2 h3 HV.out rfl).mono ?_
    rintro e w2 ⟨g2, c2, rfl, ho2, B2⟩
    have H1 := ho1.holds.below B2
    have H2 := ho2.holds
    have B := Below.then B1 B2
    clear ho1 ho2 B1 B2 HU HV
    have cv1 := conv H1.drew
    have cv2 := conv (H2.drew.take u.length)
    rw [show (v.take u.length).length = u.length by rw [List.length_take]; omega] at cv2
    rw [List.take_length] at hb1
    generalize v.take u.length = p2 at *
    have k1 := H1.1
    have k2 := H2.1
    clear H1 H2
    have m1 : (1 : Int) ≤ (u.length : Int) := by omega
    have m2 : (u.length : Int) ≤ 10 := by omega
    have m3 : (u.length : Int) ≤ (c1 : Int) := by omega
    have m4 : (u.length : Int) ≤ (c2 : Int) := by omega
    have m5 : ¬ (v.length : Int) < (u.length : Int) := by omega
    go_wp2_with fail
    go_still_tail 24, (by kernel_rfl)
    go_wp2_with (first | (go_at_call 5; refine (live_any _).mono ?_; rintro e w9 ⟨rfl, hb9⟩))
    go_ret
    exact ⟨by simp, Below.then B.drew hb9⟩
end Go.Proofs.Ytmgddkijheaknab
