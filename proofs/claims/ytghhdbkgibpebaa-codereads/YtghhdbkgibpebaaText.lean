/-
  The contracts of Text, the project's and the reference's: both answer as the reading function Pm.tx does.
-/
import Derived.Test.YtghhdbkgibpebaaCount
namespace Go.Proofs.Ytghhdbkgibpebaa
open Go.RowKit

theorem Holds.sub {w : World} {b o c : Nat} {l : List UInt8} (h : Holds w (some ⟨b, o, none⟩) c l) (j n : Nat) (hj : j + n ≤ l.length) : Holds w (some ⟨b, o + j, none⟩) (c - j) ((l.drop j).take n) := by
  have hc := h.1
  refine ⟨by rw [List.length_take, List.length_drop]; omega, fun h => (by cases h), fun ad had i u hu => ?_⟩
  cases had
  have hi : i < n := by
    have := (List.getElem?_eq_some_iff.1 hu).1
    rw [cs_length, List.length_take] at this; omega
  have hlt : j + i < l.length := by omega
  have e : (cs ((l.drop j).take n))[i]? = (cs l)[j + i]? := by
    simp [cs, hi, hlt]
  rw [e] at hu
  have := h.2.2 _ rfl (j + i) u hu
  simpa [Addr.add_lit, Nat.add_assoc] using this

theorem Holds.empty {w : World} {ad : Addr} {c : Nat} : Holds w (some ad) c [] := ⟨by simp, fun h => (by cases h), fun _ _ _ _ hu => by simp [cs] at hu⟩

theorem tx_err (l : List UInt8) (x n j er : Int) (h : Pm.rd l x = (n, j, er)) (he : ¬ er = 0) : Pm.tx l x = ([], 0, er) := by
  have hc : Pm.ct l x 65536 = (0, 0, er) := by unfold Pm.ct; rw [h]; exact if_pos he
  unfold Pm.tx; rw [hc]; exact if_pos he
theorem tx_out (l : List UInt8) (x n j : Int) (h : Pm.rd l x = (n, j, 0)) (hn : n < 0 ∨ 65536 < n) : Pm.tx l x = ([], 0, 11) := by
  have hc : Pm.ct l x 65536 = (0, 0, 11) := by unfold Pm.ct; rw [h, if_neg (by simp)]; exact if_pos hn
  unfold Pm.tx; rw [hc]; exact if_pos (by simp)
theorem tx_short (l : List UInt8) (x n j : Int) (h : Pm.rd l x = (n, j, 0)) (hn : ¬ (n < 0 ∨ 65536 < n)) (hs : (l.length : Int) - j < n) : Pm.tx l x = ([], 0, 10) := by
  have hc : Pm.ct l x 65536 = (n, j, 0) := by unfold Pm.ct; rw [h, if_neg (by simp)]; exact if_neg hn
  unfold Pm.tx; rw [hc, if_neg (by simp)]; exact if_pos hs
theorem tx_ok (l : List UInt8) (x n j : Int) (h : Pm.rd l x = (n, j, 0)) (hn : ¬ (n < 0 ∨ 65536 < n)) (hs : ¬ (l.length : Int) - j < n) : Pm.tx l x = ((l.drop j.toNat).take n.toNat, j + n, 0) := by
  have hc : Pm.ct l x 65536 = (n, j, 0) := by unfold Pm.ct; rw [h, if_neg (by simp)]; exact if_neg hn
  unfold Pm.tx; rw [hc, if_neg (by simp)]; exact if_neg hs

theorem ret_text {r r' : List UInt8 × Int × Int} (h : r = r') : Ending.returned (textOf r) = .returned (textOf r') := by rw [h]

set_option maxRecDepth 100000 in
set_option maxHeartbeats 800000 in
theorem text_any (a : Option Addr) (c : Nat) (l : List UInt8) (x : Int) (w : World) (ha : Holds w a c l) (hm : l.length ≤ 281474976710656) (h0 : -9223372036854775808 ≤ x) (h1 : x ≤ 9223372036854775807) :
    Calls Try.prog 97 #[.slice a l.length c, .int .i64 x] w fun e w' => e = .returned (textOf (Pm.tx l x)) ∧ w = w' := by
  have hR := count_any a c l x 65536 w ha (by unfold maxLen; omega) h0 h1
  have hok := Pm.ct_ok l x 65536
  have hnx := Pm.rd_next l x
  unfold Pm.tx
  generalize Pm.ct l x 65536 = R at *
  have HR := hideIt hR
  clear hR
  obtain ⟨n, j, er⟩ := R
  simp only
  by_cases he : er = 0
  · subst he
    obtain ⟨hv, hn0, hn1⟩ := hok n j rfl
    obtain ⟨hx0, hx1, hx2⟩ := hnx n j hv
    clear hok hnx hv
    by_cases hs : (l.length : Int) - j < n
    · rw [if_neg (by simp), if_pos hs]
      go_enter Try.func97, Try.ntmps97
      go_wp2_with fail
      refine HR.out.mono ?_
      rintro e w1 ⟨rfl, rfl⟩
      go_wp2
      go_ret3
      exact ⟨rfl, rfl⟩
    · rw [if_neg (by simp), if_neg hs]
      obtain ⟨J, rfl⟩ := Int.eq_ofNat_of_zero_le (show 0 ≤ j by omega)
      obtain ⟨K, rfl⟩ := Int.eq_ofNat_of_zero_le (show 0 ≤ n by omega)
      obtain ⟨b, o, rfl⟩ := ha.addr (by omega)
      have hcap := ha.1
      have hsub := conv (ha.sub J K (by omega))
      have hlen : ((l.drop J).take K).length = K := by rw [List.length_take, List.length_drop]; omega
      rw [hlen] at hsub
      simp only [Int.toNat_natCast]
      generalize (l.drop J).take K = S at *
      by_cases hcj : c = J
      · have hK : K = 0 := by omega
        have hS : S = [] := List.eq_nil_of_length_eq_zero (by omega)
        subst hK hS hcj
        have hsub2 := conv (Holds.empty (w := w) (ad := ⟨b, o, none⟩) (c := c - c))
        simp only [List.length_nil, Nat.sub_self] at hsub2
        clear hsub hlen
        go_enter Try.func97, Try.ntmps97
        go_wp2_with fail
        refine HR.out.mono ?_
        rintro e w1 ⟨rfl, rfl⟩
        go_wp2
        go_ret3
        exact ⟨by simp, rfl⟩
      · have m1 : (J : Int) + (K : Int) ≤ (l.length : Int) := by omega
        have m2 : (J : Int) + (K : Int) ≤ (c : Int) := by omega
        go_enter Try.func97, Try.ntmps97
        go_wp2_with fail
        refine HR.out.mono ?_
        rintro e w1 ⟨rfl, rfl⟩
        go_wp2
        go_ret3
        exact ⟨rfl, rfl⟩
  · have he2 : (er != 0) = true := by rw [bne_iff_ne]; exact he
    rw [if_pos he]
    clear hok hnx
    go_enter Try.func97, Try.ntmps97
    go_wp2_with fail
    refine HR.out.mono ?_
    rintro e w1 ⟨rfl, rfl⟩
    go_wp2
    go_ret3
    exact ⟨rfl, rfl⟩

set_option maxRecDepth 100000 in
set_option maxHeartbeats 800000 in
theorem rtext_any (a : Option Addr) (c : Nat) (l : List UInt8) (x : Int) (w : World) (ha : Holds w a c l) (hm : l.length ≤ 281474976710656) (h0 : -9223372036854775808 ≤ x) (h1 : x ≤ 9223372036854775807) :
    Calls Try.prog 68 #[.slice a l.length c, .int .i64 x] w fun e w' => e = .returned (textOf (Pm.tx l x)) ∧ w = w' := by
  have hR := rint_any a c l x w ha (by unfold maxLen; omega) h0 h1
  have hnx := Pm.rd_next l x
  have e1 := tx_err l x
  have e2 := tx_out l x
  have e3 := tx_short l x
  have e4 := tx_ok l x
  generalize Pm.tx l x = T at *
  generalize Pm.rd l x = R at *
  have HR := hideIt hR
  clear hR
  obtain ⟨n, j, er⟩ := R
  by_cases he : er = 0
  · subst he
    obtain ⟨hx0, hx1, hx2⟩ := hnx n j rfl
    clear hnx
    by_cases hn0 : n < 0
    · rw [e2 n j rfl (Or.inl hn0)]
      clear e1 e2 e3 e4
      go_enter Try.func68, Try.ntmps68
      go_wp2_with fail
      refine HR.out.mono ?_
      rintro e w1 ⟨rfl, rfl⟩
      go_wp2
      go_ret3
      exact ⟨rfl, rfl⟩
    · by_cases hn1 : 65536 < n
      · rw [e2 n j rfl (Or.inr hn1)]
        clear e1 e2 e3 e4
        go_enter Try.func68, Try.ntmps68
        go_wp2_with fail
        refine HR.out.mono ?_
        rintro e w1 ⟨rfl, rfl⟩
        go_wp2
        go_ret3
        exact ⟨rfl, rfl⟩
      · have hno : ¬ (n < 0 ∨ 65536 < n) := by omega
        by_cases hs : (l.length : Int) - j < n
        · rw [e3 n j rfl hno hs]
          clear e1 e2 e3 e4 hno
          go_enter Try.func68, Try.ntmps68
          go_wp2_with fail
          refine HR.out.mono ?_
          rintro e w1 ⟨rfl, rfl⟩
          go_wp2
          go_ret3
          exact ⟨rfl, rfl⟩
        · rw [e4 n j rfl hno hs]
          clear e1 e2 e3 e4 hno
          obtain ⟨J, rfl⟩ := Int.eq_ofNat_of_zero_le (show 0 ≤ j by omega)
          obtain ⟨K, rfl⟩ := Int.eq_ofNat_of_zero_le (show 0 ≤ n by omega)
          obtain ⟨b, o, rfl⟩ := ha.addr (by omega)
          have hcap := ha.1
          have hsub := conv (ha.sub J K (by omega))
          have hlen : ((l.drop J).take K).length = K := by rw [List.length_take, List.length_drop]; omega
          rw [hlen] at hsub
          simp only [Int.toNat_natCast]
          generalize (l.drop J).take K = S at *
          by_cases hcj : c = J
          · have hK : K = 0 := by omega
            have hS : S = [] := List.eq_nil_of_length_eq_zero (by omega)
            subst hK hS hcj
            have hsub2 := conv (Holds.empty (w := w) (ad := ⟨b, o, none⟩) (c := c - c))
            simp only [List.length_nil, Nat.sub_self] at hsub2
            clear hsub hlen
            go_enter Try.func68, Try.ntmps68
            go_wp2_with fail
            refine HR.out.mono ?_
            rintro e w1 ⟨rfl, rfl⟩
            go_wp2
            go_ret3
            exact ⟨by simp, rfl⟩
          · have m1 : (J : Int) + (K : Int) ≤ (l.length : Int) := by omega
            have m2 : (J : Int) + (K : Int) ≤ (c : Int) := by omega
            go_enter Try.func68, Try.ntmps68
            go_wp2_with fail
            refine HR.out.mono ?_
            rintro e w1 ⟨rfl, rfl⟩
            go_wp2
            go_ret3
            exact ⟨rfl, rfl⟩
  · have he2 : (er != 0) = true := by rw [bne_iff_ne]; exact he
    rw [e1 n j er rfl he]
    clear hnx e1 e2 e3 e4
    go_enter Try.func68, Try.ntmps68
    go_wp2_with fail
    refine HR.out.mono ?_
    rintro e w1 ⟨rfl, rfl⟩
    go_wp2
    go_ret3
    exact ⟨rfl, rfl⟩
end Go.Proofs.Ytghhdbkgibpebaa
