/-
  LexNumbers: its walk.
-/
import Derived.Test.YtoahcaocgpgceaaDoorLv
import Derived.Test.YtoahcaocgpgceaaDoorLm3
namespace Go.Proofs.YtoahcaocgpgceaaDoor
open Go.RowKit Go.Lib Go.Shelf

namespace Lx
/-- what was told of a number's digits, and what is left of it -/
structure Inv (U : Nat) (t : List UInt8) (v i : Nat) : Prop where
  start : i = 0 → t = [] ∧ v = U
  told : 0 < i → decDigits U = if v = 0 then t else decDigits v ++ t
  left : v * 10 ^ i ≤ U
theorem Inv.zero (U : Nat) : Inv U [] U 0 := ⟨fun _ => ⟨rfl, rfl⟩, fun h => absurd h (Nat.lt_irrefl _), by simp⟩
theorem Inv.step {U : Nat} {t : List UInt8} {v i : Nat} (h : Inv U t v i) (hc : 0 < v ∨ i = 0) : Inv U (UInt8.ofNat (48 + v % 10) :: t) (v / 10) (i + 1) := by
  have hd : decDigits U = decDigits v ++ t := by
    by_cases h0 : i = 0
    · obtain ⟨rfl, rfl⟩ := h.start h0; simp
    · rw [h.told (by omega), if_neg (by omega)]
  refine ⟨fun h' => by omega, fun _ => ?_, ?_⟩
  · by_cases hv : v < 10
    · rw [if_pos (by omega), hd, dec_small hv, show v % 10 = v by omega]; rfl
    · rw [if_neg (by omega), hd, dec_big hv, List.append_assoc]; rfl
  · refine Nat.le_trans ?_ h.left
    rw [Nat.pow_succ, show v / 10 * (10 ^ i * 10) = v / 10 * 10 * 10 ^ i by rw [Nat.mul_comm (10 ^ i) 10, ← Nat.mul_assoc]]
    exact Nat.mul_le_mul_right _ (by omega)
theorem Inv.done {U : Nat} {t : List UInt8} {v i : Nat} (h : Inv U t v i) (hv : v = 0) (hi : 0 < i) : t = decDigits U := by rw [h.told hi, if_pos hv]
theorem Inv.late {U : Nat} {t : List UInt8} {v i : Nat} (h : Inv U t v i) (hU : U < 18446744073709551616) (hi : 20 ≤ i) : v = 0 := by
  rcases Nat.eq_zero_or_pos v with h0 | h0
  · exact h0
  · have h1 := h.left
    have h2 : 10 ^ 20 ≤ 10 ^ i := Nat.pow_le_pow_right (by decide) hi
    have h3 : 1 * 10 ^ i ≤ v * 10 ^ i := Nat.mul_le_mul_right _ h0
    have h4 : (18446744073709551616 : Nat) ≤ 10 ^ 20 := by decide
    omega
end Lx

theorem cat_str (l m : List UInt8) : (⟨l.toArray⟩ : ByteArray) ++ ⟨m.toArray⟩ = ⟨(l ++ m).toArray⟩ := by
  apply ByteArray.ext
  simp
theorem wrap_back {U : Nat} (h : 1 ≤ U) (h2 : U ≤ 9223372036854775808) : IntKind.u64.wrap (-IntKind.u64.wrap (-(U : Int))) = (U : Int) := by
  simp only [IntKind.wrap, IntKind.bits, IntKind.signed]
  simp
  omega
theorem conv_one (v : Nat) (W : World) : (convert 40 9 (.slice (some ⟨W.heap.size, 0, none⟩) 1 1)).run Tryd.prog (W.alloc (.cells #[.int .u8 (48 + (v : Int) % 10)] 5)) = .ok (str [UInt8.ofNat (48 + v % 10)]) (W.alloc (.cells #[.int .u8 (48 + (v : Int) % 10)] 5)) := by
  refine conv (l := [UInt8.ofNat (48 + v % 10)]) (holds_new W _ _ _ ?_)
  simp only [cs, List.map_cons, List.map_nil, Lx.ofNat_toNat (show 48 + v % 10 < 256 by omega)]
  congr 2

set_option maxRecDepth 100000 in
set_option maxHeartbeats 4000000 in
theorem numbers_pos (U : Nat) (w : World) (hL : Laid w) (hU2 : U < 9223372036854775808) :
    Calls Tryd.prog 8 #[.int .i64 ((U : Int))] w fun e w' => e = .returned (.bool true) ∧ Below w.heap.size w w' := by
  have LV := hideP live_at
  have hn : ¬ (U : Int) < 0 := by omega
  have A1 := Lx.number_txt (neg := false) (Lx.dec_digits U) (Lx.dec_ne U)
  have A2 := Lx.number_txt (neg := false) (ds := 48 :: decDigits U) (fun c hc => by rcases List.mem_cons.1 hc with rfl | hc; decide; exact Lx.dec_digits U c hc) (by simp)
  have hnum : Lx.numOf false (decDigits U) = some ((U : Int)) := Lx.num_self rfl (fun h => by cases h) (fun h => hU2)
  rw [hnum] at A1
  rw [Lx.num_none] at A2
  have HA : Hid ((decDigits U).length ≤ 20 → Lx.ans (Lx.txt false (decDigits U)) = .ok [⟨3, [], (U : Int), 0⟩]) := fun hl => by rw [A1, if_neg (by simp [Lx.txt]; omega)]
  have HB : Hid ((decDigits U).length ≤ 20 → Lx.ans (Lx.txt false (48 :: decDigits U)) = .error (0, 70)) := fun hl => by rw [A2, if_neg (by simp [Lx.txt]; omega)]
  clear A1 A2 hnum
  go_enter Tryd.func8, Tryd.ntmps8
  go_wp2_with fail
  go_loopw [3, 4, 5] (fun s u k wr => ∃ (t : List UInt8) (v i : Nat), s = str t ∧ u = .int .u64 (v : Int) ∧ k = .int .i64 (i : Int) ∧ i ≤ 20 ∧ t.length ≤ i ∧ v ≤ U ∧ Lx.Inv U t v i ∧ Below w.heap.size w wr) (fun _ _ k _ => 20 - (Lib.intOf k).toNat)
  case atStart => exact ⟨[], U, 0, rfl, rfl, rfl, by omega, by simp, Nat.le_refl _, Lx.Inv.zero U, Below.refl _ _⟩
  case round =>
    obtain ⟨t, v, i, rfl, rfl, rfl, hi, ht, hv, hinv, hb⟩ := hrel
    have HI := hideP hinv
    clear hinv
    have hst := str_size t
    by_cases hgo : i < 20 ∧ (0 < v ∨ i = 0)
    · have q1 : (i : Int) < 20 := by omega
      have hcv := conv_one v wr
      have HS := hideP (HI.out.step hgo.2)
      have hs1 := str_size [UInt8.ofNat (48 + v % 10)]
      have hcat := cat_str [UInt8.ofNat (48 + v % 10)] t
      have hn1 : [UInt8.ofNat (48 + v % 10)].length = 1 := rfl
      generalize hc : UInt8.ofNat (48 + v % 10) = c at *
      rw [List.singleton_append] at hcat
      have BA := below_alloc wr (.cells #[.int .u8 (48 + (v : Int) % 10)] 5)
      have hlen : ([c] : List UInt8).toArray.size = 1 := rfl
      generalize hsc : [c] = sc at *
      rcases (show 0 < v ∨ (v = 0 ∧ i = 0) by omega) with h0 | h0
      · have q2 : (v : Int) > 0 := by omega
        go_wp2_with fail
        refine ⟨⟨c :: t, v / 10, i + 1, rfl, by push_cast; rfl, by go_num, by omega, by simp; omega, by omega, HS.out, hb.trans (BA.mono hb.size)⟩, by simp [Lib.intOf]; omega⟩
      · obtain ⟨rfl, rfl⟩ := h0
        have hcv0 : (convert 40 9 (.slice (some ⟨wr.heap.size, 0, none⟩) 1 1)).run Tryd.prog (wr.alloc (.cells #[.int .u8 48] 5)) = .ok (str sc) (wr.alloc (.cells #[.int .u8 48] 5)) := hcv
        have BA0 := below_alloc wr (.cells #[.int .u8 48] 5)
        go_wp2_with fail
        refine ⟨⟨c :: t, 0, 1, rfl, rfl, rfl, by omega, by simp at ht ⊢; omega, by omega, HS.out, hb.trans (BA0.mono hb.size)⟩, by simp [Lib.intOf]⟩
    · have hv0 : v = 0 := by
        rcases Nat.lt_or_ge i 20 with h | h
        · omega
        · exact HI.out.late (by omega) h
      have hi0 : 0 < i := by
        rcases Nat.lt_or_ge i 20 with h | h
        · omega
        · omega
      have et := HI.out.done hv0 hi0
      have dl : (decDigits U).length ≤ 20 := by rw [← et]; omega
      have e1 := HA.out dl
      have e2 := HB.out dl
      rw [← et] at e1 e2
      have T1 := hideP (fun w hL => ltokens_at (Lx.txt false t) w (by simp [Lx.txt]; omega) hL)
      have T2 := hideP (fun w hL => ltokens_at (Lx.txt false (48 :: t)) w (by simp [Lx.txt]; omega) hL)
      have E1 := hideP e1
      have E2 := hideP e2
      have k1 : (⟨#[48]⟩ : ByteArray) ++ ⟨t.toArray⟩ = ⟨(48 :: t).toArray⟩ := cat_str [48] t
      have k2 : Lx.txt false t = t := rfl
      have k3 : Lx.txt false (48 :: t) = 48 :: t := rfl
      rw [k2] at T1 E1
      rw [k3] at T2 E2
      have z1 := str_size (48 :: t)
      have z2 : (48 :: t).length = t.length + 1 := rfl
      have Lb := hL.below hb
      clear e1 e2 et dl HA HB
      generalize hm : (48 :: t : List UInt8) = m at *
      clear HI hgo
      subst hv0
      rcases (show (i = 20) ∨ (i < 20) by omega) with h20 | h20
      · have q1 : ¬ (i : Int) < 20 := by omega
        clear h20
        go_wp2_with fail
        refine (T1.out _ Lb).mono ?_
        rintro e w1 ⟨⟨d1, g1, rfl, r1, _⟩, b1⟩
        rw [E1.out] at r1 ⊢
        simp only [Lx.toks_ok, Lx.place_ok, Lx.err_ok] at r1 ⊢
        obtain ⟨P1, O1, rfl⟩ := r1.row.addr (Nat.succ_pos _)
        have hroom := r1.row.room
        simp only [List.length_cons, List.length_nil, Nat.zero_add] at hroom ⊢
        have L1 := Lb.below b1
        go_wp2_with fail
        refine (T2.out _ L1).mono ?_
        rintro e w2 ⟨⟨d2, g2, rfl, r2, _⟩, b2⟩
        rw [E2.out]
        simp only [Lx.toks_err, Lx.place_err, Lx.err_err]
        obtain ⟨y1, y2, y3, y4⟩ := tok_cells (r1.row.below b2 (Nat.le_refl _)) 0 (Nat.succ_pos _)
        simp only [List.getElem_cons_zero, Nat.zero_mul, Nat.add_zero] at y1 y2 y3
        have L2 := L1.below b2
        go_wp2_with (first
          | (go_at_call 12; refine (LV.out _ L2).mono ?_; rintro e w4 ⟨rfl, b4⟩))
        go_ret
        exact ⟨rfl, Below.then (Below.then (hb.trans (b1.mono hb.size)) b2) b4⟩
      · have q1 : (i : Int) < 20 := by omega
        have q3 : ((i : Int) == 0) = false := by simp; omega
        clear h20
        go_wp2_with fail
        refine (T1.out _ Lb).mono ?_
        rintro e w1 ⟨⟨d1, g1, rfl, r1, _⟩, b1⟩
        rw [E1.out] at r1 ⊢
        simp only [Lx.toks_ok, Lx.place_ok, Lx.err_ok] at r1 ⊢
        obtain ⟨P1, O1, rfl⟩ := r1.row.addr (Nat.succ_pos _)
        have hroom := r1.row.room
        simp only [List.length_cons, List.length_nil, Nat.zero_add] at hroom ⊢
        have L1 := Lb.below b1
        go_wp2_with fail
        refine (T2.out _ L1).mono ?_
        rintro e w2 ⟨⟨d2, g2, rfl, r2, _⟩, b2⟩
        rw [E2.out]
        simp only [Lx.toks_err, Lx.place_err, Lx.err_err]
        obtain ⟨y1, y2, y3, y4⟩ := tok_cells (r1.row.below b2 (Nat.le_refl _)) 0 (Nat.succ_pos _)
        simp only [List.getElem_cons_zero, Nat.zero_mul, Nat.add_zero] at y1 y2 y3
        have L2 := L1.below b2
        go_wp2_with (first
          | (go_at_call 12; refine (LV.out _ L2).mono ?_; rintro e w4 ⟨rfl, b4⟩))
        go_ret
        exact ⟨rfl, Below.then (Below.then (hb.trans (b1.mono hb.size)) b2) b4⟩
set_option maxRecDepth 100000 in
set_option maxHeartbeats 4000000 in
theorem numbers_neg (U : Nat) (w : World) (hL : Laid w) (hU : 1 ≤ U) (hU2 : U ≤ 9223372036854775808) :
    Calls Tryd.prog 8 #[.int .i64 (-(U : Int))] w fun e w' => e = .returned (.bool true) ∧ Below w.heap.size w w' := by
  have LV := hideP live_at
  have hn : (-(U : Int)) < 0 := by omega
  have A1 := Lx.number_txt (neg := true) (Lx.dec_digits U) (Lx.dec_ne U)
  have A2 := Lx.number_txt (neg := true) (ds := 48 :: decDigits U) (fun c hc => by rcases List.mem_cons.1 hc with rfl | hc; decide; exact Lx.dec_digits U c hc) (by simp)
  have hnum : Lx.numOf true (decDigits U) = some (-(U : Int)) := Lx.num_self rfl (fun h => ⟨hU, hU2⟩) (fun h => by cases h)
  rw [hnum] at A1
  rw [Lx.num_none] at A2
  have HA : Hid ((decDigits U).length ≤ 20 → Lx.ans (Lx.txt true (decDigits U)) = .ok [⟨3, [], -(U : Int), 0⟩]) := fun hl => by rw [A1, if_neg (by simp [Lx.txt]; omega)]
  have HB : Hid ((decDigits U).length ≤ 20 → Lx.ans (Lx.txt true (48 :: decDigits U)) = .error (0, 70)) := fun hl => by rw [A2, if_neg (by simp [Lx.txt]; omega)]
  clear A1 A2 hnum
  go_enter Tryd.func8, Tryd.ntmps8
  go_wp2_with fail
  go_loopw [3, 4, 5] (fun s u k wr => ∃ (t : List UInt8) (v i : Nat), s = str t ∧ u = .int .u64 (v : Int) ∧ k = .int .i64 (i : Int) ∧ i ≤ 20 ∧ t.length ≤ i ∧ v ≤ U ∧ Lx.Inv U t v i ∧ Below w.heap.size w wr) (fun _ _ k _ => 20 - (Lib.intOf k).toNat)
  case atStart => exact ⟨[], U, 0, rfl, by rw [wrap_back hU hU2], rfl, by omega, by simp, Nat.le_refl _, Lx.Inv.zero U, Below.refl _ _⟩
  case round =>
    obtain ⟨t, v, i, rfl, rfl, rfl, hi, ht, hv, hinv, hb⟩ := hrel
    have HI := hideP hinv
    clear hinv
    have hst := str_size t
    by_cases hgo : i < 20 ∧ (0 < v ∨ i = 0)
    · have q1 : (i : Int) < 20 := by omega
      have hcv := conv_one v wr
      have HS := hideP (HI.out.step hgo.2)
      have hs1 := str_size [UInt8.ofNat (48 + v % 10)]
      have hcat := cat_str [UInt8.ofNat (48 + v % 10)] t
      have hn1 : [UInt8.ofNat (48 + v % 10)].length = 1 := rfl
      generalize hc : UInt8.ofNat (48 + v % 10) = c at *
      rw [List.singleton_append] at hcat
      have BA := below_alloc wr (.cells #[.int .u8 (48 + (v : Int) % 10)] 5)
      have hlen : ([c] : List UInt8).toArray.size = 1 := rfl
      generalize hsc : [c] = sc at *
      rcases (show 0 < v ∨ (v = 0 ∧ i = 0) by omega) with h0 | h0
      · have q2 : (v : Int) > 0 := by omega
        go_wp2_with fail
        refine ⟨⟨c :: t, v / 10, i + 1, rfl, by push_cast; rfl, by go_num, by omega, by simp; omega, by omega, HS.out, hb.trans (BA.mono hb.size)⟩, by simp [Lib.intOf]; omega⟩
      · obtain ⟨rfl, rfl⟩ := h0
        have hcv0 : (convert 40 9 (.slice (some ⟨wr.heap.size, 0, none⟩) 1 1)).run Tryd.prog (wr.alloc (.cells #[.int .u8 48] 5)) = .ok (str sc) (wr.alloc (.cells #[.int .u8 48] 5)) := hcv
        have BA0 := below_alloc wr (.cells #[.int .u8 48] 5)
        go_wp2_with fail
        refine ⟨⟨c :: t, 0, 1, rfl, rfl, rfl, by omega, by simp at ht ⊢; omega, by omega, HS.out, hb.trans (BA0.mono hb.size)⟩, by simp [Lib.intOf]⟩
    · have hv0 : v = 0 := by
        rcases Nat.lt_or_ge i 20 with h | h
        · omega
        · exact HI.out.late (by omega) h
      have hi0 : 0 < i := by
        rcases Nat.lt_or_ge i 20 with h | h
        · omega
        · omega
      have et := HI.out.done hv0 hi0
      have dl : (decDigits U).length ≤ 20 := by rw [← et]; omega
      have e1 := HA.out dl
      have e2 := HB.out dl
      rw [← et] at e1 e2
      have T1 := hideP (fun w hL => ltokens_at (Lx.txt true t) w (by simp [Lx.txt]; omega) hL)
      have T2 := hideP (fun w hL => ltokens_at (Lx.txt true (48 :: t)) w (by simp [Lx.txt]; omega) hL)
      have E1 := hideP e1
      have E2 := hideP e2
      have k1 : (⟨#[48]⟩ : ByteArray) ++ ⟨t.toArray⟩ = ⟨(48 :: t).toArray⟩ := cat_str [48] t
      have k2 : (⟨#[45]⟩ : ByteArray) ++ ⟨t.toArray⟩ = ⟨(Lx.txt true t).toArray⟩ := cat_str [45] t
      have k3 : (⟨#[45]⟩ : ByteArray) ++ ⟨(48 :: t).toArray⟩ = ⟨(Lx.txt true (48 :: t)).toArray⟩ := cat_str [45] (48 :: t)
      have z1 := str_size (48 :: t)
      have z2 : (48 :: t).length = t.length + 1 := rfl
      have Lb := hL.below hb
      clear e1 e2 et dl HA HB
      generalize hm : (48 :: t : List UInt8) = m at *
      clear HI hgo
      subst hv0
      rcases (show (i = 20) ∨ (i < 20) by omega) with h20 | h20
      · have q1 : ¬ (i : Int) < 20 := by omega
        clear h20
        go_wp2_with fail
        refine (T1.out _ Lb).mono ?_
        rintro e w1 ⟨⟨d1, g1, rfl, r1, _⟩, b1⟩
        rw [E1.out] at r1 ⊢
        simp only [Lx.toks_ok, Lx.place_ok, Lx.err_ok] at r1 ⊢
        obtain ⟨P1, O1, rfl⟩ := r1.row.addr (Nat.succ_pos _)
        have hroom := r1.row.room
        simp only [List.length_cons, List.length_nil, Nat.zero_add] at hroom ⊢
        have L1 := Lb.below b1
        go_wp2_with fail
        refine (T2.out _ L1).mono ?_
        rintro e w2 ⟨⟨d2, g2, rfl, r2, _⟩, b2⟩
        rw [E2.out]
        simp only [Lx.toks_err, Lx.place_err, Lx.err_err]
        obtain ⟨y1, y2, y3, y4⟩ := tok_cells (r1.row.below b2 (Nat.le_refl _)) 0 (Nat.succ_pos _)
        simp only [List.getElem_cons_zero, Nat.zero_mul, Nat.add_zero] at y1 y2 y3
        have L2 := L1.below b2
        go_wp2_with (first
          | (go_at_call 12; refine (LV.out _ L2).mono ?_; rintro e w4 ⟨rfl, b4⟩))
        go_ret
        exact ⟨rfl, Below.then (Below.then (hb.trans (b1.mono hb.size)) b2) b4⟩
      · have q1 : (i : Int) < 20 := by omega
        have q3 : ((i : Int) == 0) = false := by simp; omega
        clear h20
        go_wp2_with fail
        refine (T1.out _ Lb).mono ?_
        rintro e w1 ⟨⟨d1, g1, rfl, r1, _⟩, b1⟩
        rw [E1.out] at r1 ⊢
        simp only [Lx.toks_ok, Lx.place_ok, Lx.err_ok] at r1 ⊢
        obtain ⟨P1, O1, rfl⟩ := r1.row.addr (Nat.succ_pos _)
        have hroom := r1.row.room
        simp only [List.length_cons, List.length_nil, Nat.zero_add] at hroom ⊢
        have L1 := Lb.below b1
        go_wp2_with fail
        refine (T2.out _ L1).mono ?_
        rintro e w2 ⟨⟨d2, g2, rfl, r2, _⟩, b2⟩
        rw [E2.out]
        simp only [Lx.toks_err, Lx.place_err, Lx.err_err]
        obtain ⟨y1, y2, y3, y4⟩ := tok_cells (r1.row.below b2 (Nat.le_refl _)) 0 (Nat.succ_pos _)
        simp only [List.getElem_cons_zero, Nat.zero_mul, Nat.add_zero] at y1 y2 y3
        have L2 := L1.below b2
        go_wp2_with (first
          | (go_at_call 12; refine (LV.out _ L2).mono ?_; rintro e w4 ⟨rfl, b4⟩))
        go_ret
        exact ⟨rfl, Below.then (Below.then (hb.trans (b1.mono hb.size)) b2) b4⟩

theorem lexNumbers_walk (n : Int) (w : World) (hL : Laid w) (hx0 : -9223372036854775808 ≤ n) (hx1 : n ≤ 9223372036854775807) :
    Calls Tryd.prog 8 #[.int .i64 n] w fun e w' => e = .returned (.bool true) ∧ Below w.heap.size w w' := by
  rcases (show n < 0 ∨ 0 ≤ n by omega) with hn | hn
  · obtain ⟨U, rfl⟩ : ∃ U : Nat, n = -(U : Int) := ⟨n.natAbs, by omega⟩
    exact numbers_neg U w hL (by omega) (by omega)
  · obtain ⟨U, rfl⟩ : ∃ U : Nat, n = (U : Int) := ⟨n.toNat, by omega⟩
    exact numbers_pos U w hL (by omega)
end Go.Proofs.YtoahcaocgpgceaaDoor
