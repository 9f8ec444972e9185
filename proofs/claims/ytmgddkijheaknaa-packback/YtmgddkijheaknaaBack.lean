/-
  A number and a text that were laid, behind any bytes and ahead of any others, are read as they were, with the place behind them; digits lead back: for all inputs, in whatever memory, the law returns true and nothing that was there turns.
-/
import Derived.Test.YtmgddkijheaknaaOne
namespace Go.Proofs.Ytmgddkijheaknaa
open Go.RowKit

set_option maxRecDepth 100000 in
set_option maxHeartbeats 1600000 in
theorem packBack_walk (a : Option Addr) (c : Nat) (l : List UInt8) (n : Int) (s : List UInt8) (w : World) (ha : Holds w a c l) (hr : l.length ≤ 140737488351232) (h0 : -9223372036854775808 ≤ n) (h1 : n ≤ 9223372036854775807) (_hs : s.length ≤ 140737488351232) :
    Calls Try.prog 7 #[.slice a l.length c, .int .i64 n, str s] w fun e w' => e = .returned (.bool true) ∧ Below w.heap.size w w' := by
  obtain ⟨i0, hi, hz0, hz1, hz2⟩ := info_parts Try.infoU8
  have hsz : (⟨s.toArray⟩ : ByteArray).size = s.length := by simp [ByteArray.size]
  by_cases hlong : 65536 < s.length
  · have hl2 : (65536 : Int) < (s.length : Int) := by omega
    go_enter Try.func7, Try.ntmps7
    go_wp2_with fail
    refine (live_any _).mono ?_
    rintro e w3 ⟨rfl, B3⟩
    go_wp2
    go_ret
    exact ⟨rfl, Below.then (below_alloc w _) B3⟩
  · have hl2 : ¬ (65536 : Int) < (s.length : Int) := by omega
    have hv1 := Pm.vb_len10 _ (Pm.tb_lt n h0 h1)
    have hv2 := Pm.vb_short s (by omega)
    have hrd := Pm.rd_put l (Pm.vb (Pm.tb s.length) ++ s ++ [129, 0]) n h0 h1
    have htx := Pm.tx_put (l ++ Pm.vb (Pm.tb n)) [129, 0] s (by omega)
    have e3 : l ++ Pm.vb (Pm.tb n) ++ (Pm.vb (Pm.tb s.length) ++ s ++ [129, 0]) = l ++ Pm.vb (Pm.tb n) ++ Pm.vb (Pm.tb s.length) ++ s ++ [129, 0] := by simp only [List.append_assoc]
    rw [e3] at hrd
    clear e3
    obtain ⟨b7, hb7⟩ : ∃ W, w.alloc (.cells #[.int .u8 129, .int .u8 0] 5) = W := ⟨_, rfl⟩
    have hmore : Holds b7 (some ⟨w.heap.size, 0, none⟩) 2 [129, 0] := by rw [← hb7]; exact holds_new w [129, 0] _ _ rfl
    have B7 : Below w.heap.size w b7 := by rw [← hb7]; exact below_alloc w _
    have P1 := putInt_ex a l.length c (l ++ Pm.vb (Pm.tb n)).length l (l ++ Pm.vb (Pm.tb n)) n b7 rfl (ha.below B7) (by omega) h0 h1 rfl rfl
    generalize hL1 : l ++ Pm.vb (Pm.tb n) = L1 at *
    have hl1 : L1.length ≤ l.length + 10 := by rw [← hL1, List.length_append]; omega
    have hv3 : L1.length + (Pm.vb (Pm.tb s.length)).length + s.length = (L1 ++ Pm.vb (Pm.tb s.length) ++ s).length := by simp only [List.length_append]
    have P2 := fun (g1 c1 : Nat) (w1 : World) (h : Holds w1 (some ⟨g1, 0, none⟩) c1 L1) => putText_any (some ⟨g1, 0, none⟩) c1 L1 s w1 h (by omega)
    generalize hL2 : L1 ++ Pm.vb (Pm.tb s.length) ++ s = L2 at *
    have hlen3 : (L2 ++ [129, 0]).length = L2.length + 2 := by simp
    generalize hL3 : L2 ++ [129, 0] = L3 at *
    have HP1 := hideIt P1
    have HP2 := hideIt P2
    have HR := hideIt hrd
    have HT := hideIt htx
    have H3 := hideIt hL3
    have H7 := hideIt hb7
    have HL3 := hideIt hlen3
    clear P1 P2 hrd htx hL1 hL2 hL3 hlen3 hb7
    go_enter Try.func7, Try.ntmps7
    go_wp2_with fail
    rw [H7.out]
    refine HP1.out.mono ?_
    rintro e w1 ⟨g1, c1, rfl, ho1, B1⟩
    go_wp2_with fail
    refine (HP2.out g1 c1 w1 ho1.holds).mono ?_
    rintro e w2 ⟨g2, c2, rfl, hc2, ho2, B2⟩
    have hm2 := (hmore.below B1).below B2
    have hc3 : L2.length + 2 ≤ c2 := by omega
    clear hc2
    go_wp2_with (at_builtin; refine wpList_append_fits _ rfl _ _ 22 rfl w1.heap.size 5 i0 1 Try.underlying22 hi hz1 g2 L2.length c2 (cs L2) rfl ho2 ⟨w.heap.size, 0, none⟩ 2 2 (cs [129, 0]) rfl rfl (hm2.2.2 _ rfl) (cs_one _) ?r ?ap)
    case r => omega
    case ap =>
      intro w3 ho3' hg3
      have ho3 : Own w3 w1.heap.size g2 (L2.length + 2) c2 L3 := by
        unfold Own
        rw [← H3.out, cs_append]
        exact ho3'
      clear ho3'
      have B3 : Below w1.heap.size w1 w3 := B2.grown hg3 B2.size (fun k h => by cases h; exact ho2.parts.1)
      have BB := Below.then (Below.then B7 B1) B3
      have hb3 := ha.below BB
      clear hm2 hmore ho2 ho1 B1 B2 B7 hg3
      have hI := int_at (some ⟨g2, 0, none⟩) (L2.length + 2) c2 L3 (l.length : Int) w3 HL3.out ho3.holds (by unfold maxLen; omega) (by omega) (by omega)
      rw [HR.out] at hI
      have hT := text_any (some ⟨g2, 0, none⟩) c2 L3 (L1.length : Int) w3 ho3.holds (by rw [HL3.out]; omega) (by omega) (by omega)
      rw [HT.out, HL3.out] at hT
      have HI := hideIt hI
      have HTT := hideIt hT
      clear hI hT HP1 HP2 HR HT H3 H7 HL3 ho3
      have z1 : (L2.length : Int) ≤ 281474976710656 := by omega
      go_wp2_with fail
      refine HI.out.mono ?_
      rintro e w4 ⟨rfl, rfl⟩
      go_wp2_with fail
      refine HTT.out.mono ?_
      rintro e w4 ⟨rfl, rfl⟩
      clear HI HTT
      by_cases h5 : 5000 < l.length
      · have h5' : (5000 : Int) < (l.length : Int) := by omega
        go_wp2_with fail
        refine (live_any _).mono ?_
        rintro e w4 ⟨rfl, B4⟩
        go_wp2
        go_ret
        exact ⟨rfl, Below.then BB B4⟩
      · have h5' : ¬ (5000 : Int) < (l.length : Int) := by omega
        go_wp2_with fail
        refine (hex_at a l.length c l w3 rfl hb3 (by omega)).mono ?_
        rintro e w4 ⟨rfl, B4⟩
        have hu := Pm.uh_hex l
        have hxl := Pm.hexOf_length l
        go_wp2_with fail
        refine (unhex_any (Pm.hexOf l) _ (by omega)).mono ?_
        rintro e w5 (⟨hun, rfl, B5⟩ | ⟨u, hun, g5, c5, rfl, ho5, B5⟩)
        · rw [hu] at hun; cases hun
        · rw [hu] at hun
          cases hun
          clear hu hxl
          go_wp2_with fail
          refine (same_at a (some ⟨g5, 0, none⟩) l.length l.length c c5 l l w5 rfl rfl ((hb3.below B4).below B5) ho5.holds).mono ?_
          rintro e w6 ⟨rfl, rfl⟩
          rw [beq_self_eq_true]
          go_wp2_with fail
          refine (live_any _).mono ?_
          rintro e w6 ⟨rfl, B6⟩
          go_wp2
          go_ret
          exact ⟨rfl, Below.then (Below.then (Below.then BB B4) B5) B6⟩
end Go.Proofs.Ytmgddkijheaknaa
