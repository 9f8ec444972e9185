/-
  What is read as a number or a text, laid again, is the very bytes that were read; digits that are read are told again: for all inputs, in whatever memory, the law returns true and nothing that was there turns.
-/
import Derived.Test.YtmgddkijheaknaaPutText
import Derived.Test.YtmgddkijheaknaaUnhex
import Derived.Test.YtmgddkijheaknaaText
import Derived.Test.YtmgddkijheaknaaMath3
import Derived.Deep.DeepCutAuto
import Derived.Deep.RegionHeld3
import Derived.BigQuiet
import Derived.StillTailTactics
namespace Go.Proofs.Ytmgddkijheaknaa
open Go.RowKit

theorem putText_ex (a : Option Addr) (n c m : Nat) (l k s : List UInt8) (w : World) (hn : l.length = n) (ha : Holds w a c l) (hr : n + (10 + s.length) ≤ 281474976710656) (hk : l ++ Pm.vb (Pm.tb s.length) ++ s = k) (hm : k.length = m) :
    Calls Try.prog 13 #[.slice a n c, str s] w fun e w' => ∃ g cap, e = .returned (.slice (some ⟨g, 0, none⟩) m cap) ∧ Own w' w.heap.size g m cap k ∧ Below w.heap.size w w' := by
  subst hn hk hm
  exact (putText_any a c l s w ha hr).mono fun e w' ⟨g, cap, he, _, ho, hb⟩ => ⟨g, cap, he, ho, hb⟩

theorem below_draws {B n : Nat} {w w' : World} (h : Below B w w') : Below B w (w'.drewN n) := h.trans ⟨rfl, rfl, rfl, Nat.le_refl _, fun _ _ => rfl⟩

set_option maxRecDepth 100000 in
set_option maxHeartbeats 1600000 in
theorem packOne_walk (a : Option Addr) (c : Nat) (l : List UInt8) (x : Int) (s : List UInt8) (w : World) (ha : Holds w a c l) (hr : l.length ≤ 140737488351232) (h0 : -9223372036854775808 ≤ x) (h1 : x ≤ 9223372036854775807) (hs : s.length ≤ 140737488351232) :
    Calls Try.prog 8 #[.slice a l.length c, .int .i64 x, str s] w fun e w' => e = .returned (.bool true) ∧ Below w.heap.size w w' := by
  have hm : l.length ≤ maxLen := by unfold maxLen; omega
  have hI := int_any a c l x w ha hm h0 h1
  have hnx := Pm.rd_next l x
  have hbk := Pm.rd_back l x
  generalize Pm.rd l x = R at *
  obtain ⟨n, j, er⟩ := R
  have HI := hideIt hI
  have HX := hideIt hnx
  have HB := hideIt hbk
  clear hI hnx hbk
  go_enter Try.func8, Try.ntmps8
  go_wp2_with fail
  refine HI.out.mono ?_
  rintro e w1 ⟨rfl, rfl⟩
  go_wp2_with fail
  go_cut [44] (fun t wc => t = .bool false ∧ Below w.heap.size w wc)
  case first =>
    by_cases he : er = 0
    · subst he
      obtain ⟨hx0, hx1, hx2⟩ := HX.out n j rfl
      obtain ⟨⟨hn0, hn1⟩, hvb⟩ := HB.out n j rfl
      obtain ⟨X, rfl⟩ := Int.eq_ofNat_of_zero_le hx0
      obtain ⟨J, rfl⟩ := Int.eq_ofNat_of_zero_le (show 0 ≤ j by omega)
      simp only [Int.toNat_natCast] at hvb
      obtain ⟨b, o, rfl⟩ := ha.addr (by omega)
      have hsub := ha.sub X (J - X) (by omega)
      have hcap := ha.1
      have k0 : ¬ c = X := by omega
      have k1 : ¬ (J : Int) ≤ (X : Int) := by omega
      have k2 : ¬ (l.length : Int) < (J : Int) := by omega
      have k3 : (J : Int) ≤ (c : Int) := by omega
      have k4 : (X : Int) ≤ (J : Int) := by omega
      have hlen : ((l.drop X).take (J - X)).length = J - X := by rw [List.length_take, List.length_drop]; omega
      generalize (l.drop X).take (J - X) = P at *
      have HV : Hid ([] ++ Pm.vb (Pm.tb n) = P) := by rw [List.nil_append]; exact hvb
      clear hvb
      have HL := hideIt hlen
      clear hlen
      go_region_held3 (fun _ => True) (trivial) (first | (go_at_call 11; refine (putInt_ex none 0 0 (J - X) [] P n w.drew rfl (Holds.nil _) (by omega) hn0 hn1 HV.out HL.out).mono ?_; rintro e w2 ⟨g2, c2, rfl, ho2, B2⟩) | (go_at_call 10; refine (same_at (some ⟨g2, 0, none⟩) (some ⟨b, o + X, none⟩) (J - X) (J - X) c2 (c - X) P P w2 HL.out HL.out ho2.holds (hsub.drew.below B2)).mono ?_; rintro e w3 ⟨rfl, rfl⟩; rw [beq_self_eq_true]))
      go_wp2_with fail
      go_meet
      case rel => exact ⟨rfl, Below.then (Below.refl _ _).drew B2⟩
    · have he2 : (er == 0) = false := by rw [beq_eq_false_iff_ne]; exact he
      go_quiet (fail)
      go_wp2_with fail
      go_meet
      case rel => exact ⟨rfl, below_draws (Below.refl _ _)⟩
  case rest =>
    obtain ⟨rfl, B⟩ := hcut
    clear HI HX HB
    have hac := ha.below B
    clear ha
    have hT := text_any a c l x wc hac (by omega) h0 h1
    have hbk := Pm.tx_back l
    generalize hR : Pm.tx l x = R at *
    obtain ⟨t, j2, e2⟩ := R
    have HT := hideIt hT
    have HB : Hid (e2 = 0 → 0 ≤ x ∧ x < j2 ∧ j2 ≤ l.length ∧ t.length ≤ 65536 ∧ Pm.vb (Pm.tb t.length) ++ t = (l.drop x.toNat).take (j2.toNat - x.toNat)) := fun h => hbk t x j2 (by rw [hR, h])
    clear hT hbk hR
    go_wp2_with fail
    refine HT.out.mono ?_
    rintro e w1 ⟨rfl, rfl⟩
    go_wp2_with fail
    go_cut [74] (fun t wd => t = .bool false ∧ Below wc.heap.size wc wd)
    case first =>
      by_cases he : e2 = 0
      · subst he
        obtain ⟨hx0, hx1, hx2, ht, hvb⟩ := HB.out rfl
        obtain ⟨X, rfl⟩ := Int.eq_ofNat_of_zero_le hx0
        obtain ⟨J, rfl⟩ := Int.eq_ofNat_of_zero_le (show 0 ≤ j2 by omega)
        simp only [Int.toNat_natCast] at hvb
        obtain ⟨b, o, rfl⟩ := hac.addr (by omega)
        have hsub := hac.sub X (J - X) (by omega)
        have hcap := hac.1
        have k0 : ¬ c = X := by omega
        have k1 : ¬ (J : Int) ≤ (X : Int) := by omega
        have k2 : ¬ (l.length : Int) < (J : Int) := by omega
        have k3 : (J : Int) ≤ (c : Int) := by omega
        have k4 : (X : Int) ≤ (J : Int) := by omega
        have hlen : ((l.drop X).take (J - X)).length = J - X := by rw [List.length_take, List.length_drop]; omega
        generalize (l.drop X).take (J - X) = P at *
        have HV : Hid ([] ++ Pm.vb (Pm.tb t.length) ++ t = P) := by rw [List.nil_append]; exact hvb
        clear hvb
        have HL := hideIt hlen
        clear hlen
        go_region_held3 (fun _ => True) (trivial) (first | (go_at_call 13; refine (putText_ex none 0 0 (J - X) [] P t wc.drew rfl (Holds.nil _) (by omega) HV.out HL.out).mono ?_; rintro e w2 ⟨g2, c2, rfl, ho2, B2⟩) | (go_at_call 10; refine (same_at (some ⟨g2, 0, none⟩) (some ⟨b, o + X, none⟩) (J - X) (J - X) c2 (c - X) P P w2 HL.out HL.out ho2.holds (hsub.drew.below B2)).mono ?_; rintro e w3 ⟨rfl, rfl⟩; rw [beq_self_eq_true]))
        go_wp2_with fail
        go_meet
        case rel => exact ⟨rfl, Below.then (Below.refl _ _).drew B2⟩
      · have he2 : (e2 == 0) = false := by rw [beq_eq_false_iff_ne]; exact he
        go_quiet (fail)
        go_wp2_with fail
        go_meet
        case rel => exact ⟨rfl, below_draws (Below.refl _ _)⟩
    case rest =>
      obtain ⟨rfl, B2⟩ := hcut
      have BB := Below.then B B2
      clear HT HB hac B B2
      have hsz : (⟨s.toArray⟩ : ByteArray).size = s.length := by simp [ByteArray.size]
      by_cases hlong : 5000 < s.length
      · have hl2 : (5000 : Int) < (s.length : Int) := by omega
        go_wp2_with fail
        refine (live_any _).mono ?_
        rintro e w3 ⟨rfl, B3⟩
        go_wp2
        go_ret
        exact ⟨rfl, Below.then BB B3⟩
      · have hl2 : ¬ (5000 : Int) < (s.length : Int) := by omega
        go_wp2_with fail
        refine (unhex_any s _ hs).mono ?_
        rintro e w3 (⟨hun, rfl, B3⟩ | ⟨u, hun, g3, c3, rfl, ho3, B3⟩)
        · clear hun
          go_wp2_with fail
          refine (live_any _).mono ?_
          rintro e w4 ⟨rfl, B4⟩
          go_wp2
          go_ret
          exact ⟨rfl, Below.then (Below.then BB B3) B4⟩
        · have hhx := Pm.hex_uh s u hun
          have hl3 := Pm.hexOf_length u
          rw [hhx] at hl3
          clear hun
          have HX := hideIt hhx
          clear hhx
          have HL3 := hideIt hl3
          clear hl3
          go_wp2_with fail
          refine (hex_at (some ⟨g3, 0, none⟩) u.length c3 u w3 rfl ho3.holds (by have := HL3.out; omega)).mono ?_
          rintro e w4 ⟨rfl, B4⟩
          rw [HX.out]
          go_wp2_with fail
          refine (live_any _).mono ?_
          rintro e w5 ⟨rfl, B5⟩
          go_wp2
          go_ret
          exact ⟨rfl, Below.then (Below.then (Below.then BB B3) B4) B5⟩
end Go.Proofs.Ytmgddkijheaknaa
