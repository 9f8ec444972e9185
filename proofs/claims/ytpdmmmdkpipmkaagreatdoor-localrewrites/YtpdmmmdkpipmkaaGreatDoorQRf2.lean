/-
  The reference's digits of a number.
-/
import Derived.Test.YtpdmmmdkpipmkaaGreatDoorQRf1
namespace Go.Proofs.YtpdmmmdkpipmkaaGreatDoor
open Go.RowKit Go.Lib Go.Shelf

/-! the mathematics: one digit more at the front -/
/-- of n's digits the last ones, s, are there; k is what is left -/
def Left (n k : Int) (s : List UInt8) : Prop := Lib.decDigits n.natAbs = (if k = 0 ∧ s ≠ [] then [] else Lib.decDigits k.natAbs) ++ s
theorem Left.start (n : Int) : Left n n [] := by unfold Left; simp
theorem Left.step {n k : Int} {s : List UInt8} (h : Left n k s) (hk : ¬ (k = 0 ∧ s ≠ [])) {m u : Nat} (hm : k.natAbs % 10 = m) {k' : Int} (hu : k.natAbs / 10 = u) (hk' : k'.natAbs = u) : Left n k' (UInt8.ofNat (48 + m) :: s) := by
  unfold Left at *
  rw [if_neg hk] at h
  rw [h, Lib.decDigits]
  by_cases h10 : k.natAbs < 10
  · have h0 : k' = 0 := by omega
    rw [dif_pos h10, if_pos ⟨h0, by simp⟩]
    have : k.natAbs = m := by omega
    rw [this]; simp
  · have h0 : ¬ k' = 0 := by omega
    rw [dif_neg h10, if_neg (fun h => h0 h.1), hm, hu, hk']
    simp
theorem Left.done {n : Int} {s : List UInt8} (h : Left n 0 s) (hs : s ≠ []) : s = Lib.decDigits n.natAbs := by
  unfold Left at h
  rw [if_pos ⟨rfl, hs⟩] at h
  simpa using h.symm
theorem Left.short {n k : Int} {s : List UInt8} (h : Left n k s) (hn : -9223372036854775808 ≤ n ∧ n ≤ 9223372036854775807) : s.length ≤ 20 := by
  unfold Left at h
  have h1 := congrArg List.length h
  have h2 := Sh.itoa_len hn
  rw [List.length_append] at h1
  unfold Lib.itoa at h2
  split at h2
  · simp only [List.length_cons] at h2; omega
  · have : n.toNat = n.natAbs := by omega
    rw [this] at h2; omega
def strLen : Value → Nat
  | .string s => s.size
  | _ => 0

set_option maxRecDepth 100000 in
set_option maxHeartbeats 2000000 in
theorem rdigits_at (n : Int) (w : World) (hn : -9223372036854775808 ≤ n ∧ n ≤ 9223372036854775807) :
    Calls Tryz.prog 53 #[.int .i64 n] w fun e w' => e = .returned (str (Lib.itoa n)) ∧ Below w.heap.size w w' := by
  obtain ⟨hn1, hn2⟩ := hn
  go_enter Tryz.func53, Tryz.ntmps53
  go_wp2_with fail
  go_loopw [3, 4, 5] (fun v3 v4 _ wr => ∃ (k : Int) (s : List UInt8), v3 = str s ∧ v4 = .int .i64 k ∧ Hid (Left n k s) ∧ -9223372036854775808 ≤ k ∧ k ≤ 9223372036854775807 ∧ Below w.heap.size w wr) (fun v3 _ _ _ => 25 - strLen v3)
  case atStart => exact ⟨n, [], rfl, rfl, Left.start n, hn1, hn2, Below.refl _ _⟩
  case round =>
    obtain ⟨k, s, rfl, rfl, HL, hk1, hk2, hb⟩ := hrel
    have hsl := HL.out.short ⟨hn1, hn2⟩
    have hsz := str_size s
    by_cases hend : k = 0 ∧ s ≠ []
    · obtain ⟨rfl, hs0⟩ := hend
      have q1 : s.isEmpty = false := by simpa using hs0
      have HD := hideP (HL.out.done hs0)
      clear hs0 HL
      by_cases hneg : n < 0
      · have HI : Hid (Lib.itoa n = 45 :: s) := by show _ = _; rw [HD.out]; unfold Lib.itoa; rw [if_pos hneg]
        have e1 : (⟨#[45]⟩ : ByteArray) ++ ⟨s.toArray⟩ = ⟨(45 :: s).toArray⟩ := str_add [45] s
        generalize 45 :: s = s1 at *
        go_wp2_with fail
        go_ret
        exact ⟨by rw [HI.out]; rfl, hb⟩
      · have HI : Hid (Lib.itoa n = s) := by show _ = _; rw [HD.out]; unfold Lib.itoa; rw [if_neg hneg, show n.toNat = n.natAbs by omega]
        go_wp2_with fail
        go_ret
        exact ⟨by rw [HI.out]; rfl, hb⟩
    · by_cases hk0 : k = 0
      · subst hk0
        obtain rfl : s = [] := Classical.byContradiction fun h => hend ⟨rfl, h⟩
        have HL2 : Hid (Left n 0 [48]) := HL.out.step hend (m := 0) (u := 0) rfl rfl (k' := 0) rfl
        have CV : (convert 139 9 (.slice (some ⟨wr.heap.size, 0, none⟩) 1 1)).run Tryz.prog (wr.alloc (.cells #[.int .u8 48] 5)) = .ok (str [48]) (wr.alloc (.cells #[.int .u8 48] 5)) :=
          conv (l := [48]) (holds_new wr [48] #[.int .u8 48] 5 rfl)
        have A1 := below_alloc wr (.cells #[.int .u8 48] 5)
        clear HL hend
        go_wp2_with fail
        exact ⟨⟨0, [48], rfl, rfl, HL2, by omega, by omega, hb.trans (A1.mono hb.size)⟩, by decide⟩
      · obtain ⟨m, hm⟩ : ∃ m : Nat, k.natAbs % 10 = m := ⟨_, rfl⟩
        obtain ⟨u, hu⟩ : ∃ u : Nat, k.natAbs / 10 = u := ⟨_, rfl⟩
        obtain ⟨k', hk'⟩ : ∃ k' : Int, k.tdiv 10 = k' := ⟨_, rfl⟩
        have hku : k'.natAbs = u := by
          rw [← hk', Int.natAbs_tdiv, ← hu]; rfl
        have HL2 := hideP (HL.out.step hend hm hu hku)
        have hm10 : m < 10 := by omega
        have e1 : (⟨#[UInt8.ofNat (48 + m)]⟩ : ByteArray) ++ ⟨s.toArray⟩ = ⟨(UInt8.ofNat (48 + m) :: s).toArray⟩ := str_add [UInt8.ofNat (48 + m)] s
        have hc : (UInt8.ofNat (48 + m)).toNat = 48 + m := by simp; omega
        have e2 : (⟨[UInt8.ofNat (48 + m)].toArray⟩ : ByteArray) ++ ⟨s.toArray⟩ = ⟨(UInt8.ofNat (48 + m) :: s).toArray⟩ := str_add [UInt8.ofNat (48 + m)] s
        generalize UInt8.ofNat (48 + m) = ch at *
        have CV : (convert 139 9 (.slice (some ⟨wr.heap.size, 0, none⟩) 1 1)).run Tryz.prog (wr.alloc (.cells #[.int .u8 (48 + (m : Int))] 5)) = .ok (str [ch]) (wr.alloc (.cells #[.int .u8 (48 + (m : Int))] 5)) :=
          conv (l := [ch]) (holds_new wr [ch] #[.int .u8 (48 + (m : Int))] 5 (by simp [cs, hc]))
        have A1 := below_alloc wr (.cells #[.int .u8 (48 + (m : Int))] 5)
        have z1 := str_size [ch]
        have HZ : Hid (strLen (str (ch :: s)) = s.length + 1) := by show (⟨(ch :: s).toArray⟩ : ByteArray).size = _; rw [str_size]; rfl
        have kb1 : -9223372036854775808 ≤ k' := by omega
        have kb2 : k' ≤ 9223372036854775807 := by omega
        have HF : Hid (25 - strLen (str (ch :: s)) < 25 - strLen (str s)) := by
          show _ < _
          rw [HZ.out]; simp only [strLen, hsz]; omega
        generalize ch :: s = s1 at *
        by_cases hneg : k < 0
        · by_cases hm0 : m = 0
          · subst hm0
            have hd : k.tmod 10 = 0 := by
              have h1 := Int.natAbs_tmod k 10
              have : (10 : Int).natAbs = 10 := rfl
              rw [this, hm] at h1
              exact Int.natAbs_eq_zero.1 h1
            simp only [Int.natCast_zero, Int.add_zero] at CV A1
            clear HL hend hneg
            go_wp2_with fail
            exact ⟨⟨k', s1, rfl, rfl, HL2, kb1, kb2, hb.trans (A1.mono hb.size)⟩, HF.out⟩
          · have hd : k.tmod 10 = -(m : Int) := by
              have h1 := Int.natAbs_tmod k 10
              have : (10 : Int).natAbs = 10 := rfl
              rw [this, hm] at h1
              have h2 : k.tmod 10 ≤ 0 := by
                rw [← Int.neg_neg k, Int.neg_tmod]
                have := Int.tmod_nonneg (a := -k) 10 (by omega)
                omega
              omega
            have q2 : -(m : Int) < 0 := by omega
            clear HL hend hneg
            go_wp2_with fail
            exact ⟨⟨k', s1, rfl, rfl, HL2, kb1, kb2, hb.trans (A1.mono hb.size)⟩, HF.out⟩
        · have hd : k.tmod 10 = (m : Int) := by rw [Int.tmod_eq_emod_of_nonneg (by omega)]; omega
          have q2 : ¬ (m : Int) < 0 := by omega
          clear HL hend
          go_wp2_with fail
          exact ⟨⟨k', s1, rfl, rfl, HL2, kb1, kb2, hb.trans (A1.mono hb.size)⟩, HF.out⟩
end Go.Proofs.YtpdmmmdkpipmkaaGreatDoor
