/-
  Plain mathematics of layer 1, more: what is read, laid again, is the very bytes that were read; what is laid is read as it was.
-/
import Derived.Test.YtghhdbkgibpebaaMath
namespace Go.Proofs.Ytghhdbkgibpebaa.Pm

theorem rdK_back (f k u : Nat) (r : List UInt8) (n : Int) (j : Nat) (h : rdK f k u r = (n, j, 0)) (hf : k + f = 10) (hu : u < 2 ^ (7 * k)) :
    ∃ V, n = fb (u + V * 2 ^ (7 * k)) ∧ u + V * 2 ^ (7 * k) < 18446744073709551616 ∧ r.take (j - k) = vb V ∧ (0 < k → 0 < V) := by
  induction f generalizing k u r with
  | zero => simp [rdK] at h
  | succ f ih =>
    cases r with
    | nil => simp [rdK] at h
    | cons c r =>
      simp only [rdK] at h
      split at h
      · simp at h
      · rename_i hms
        have hms' : ms c.toNat k = true := by simpa using hms
        have h64 := step_64 u c.toNat k (by omega) hms' hu
        split at h
        · rename_i hc
          simp at h
          obtain ⟨h1, h2⟩ := h
          refine ⟨c.toNat, ?_, ?_, ?_, ?_⟩
          · rw [← h1, Nat.mod_eq_of_lt hc]
          · have := h64.2
            rwa [Nat.mod_eq_of_lt hc] at this
          · rw [← h2, show k + 1 - k = 1 by omega, vb_lt hc]
            simp
          · intro hk
            simp [ms] at hms'
            omega
        · rename_i hc
          obtain ⟨V, e1, e2, e3, e4⟩ := ih (k + 1) _ r h (by omega) (step_lt u c.toNat k hu)
          have hV := e4 (by omega)
          have hp : (2 : Nat) ^ (7 * (k + 1)) = 128 * 2 ^ (7 * k) := by rw [Nat.mul_add, Nat.pow_add]; omega
          have hj := (rdK_next _ _ _ _ _ _ h).1
          have eq : u + c.toNat % 128 * 2 ^ (7 * k) + V * 2 ^ (7 * (k + 1)) = u + (c.toNat % 128 + 128 * V) * 2 ^ (7 * k) := by
            rw [hp, Nat.add_mul, Nat.mul_comm 128 V, Nat.mul_assoc, Nat.add_assoc]
          rw [eq] at e1 e2
          refine ⟨c.toNat % 128 + 128 * V, e1, e2, ?_, fun _ => by omega⟩
          have hc256 := c.toNat_lt
          rw [vb_ge (by omega), show j - k = (j - (k + 1)) + 1 by omega, List.take_succ_cons, e3]
          rw [show (c.toNat % 128 + 128 * V) / 128 = V by omega, show (c.toNat % 128 + 128 * V) % 128 + 128 = c.toNat by omega]
          simp

/-- what is read, laid again, is what was read -/
theorem rd_back (l : List UInt8) (x n j : Int) (h : rd l x = (n, j, 0)) :
    (-9223372036854775808 ≤ n ∧ n ≤ 9223372036854775807) ∧ vb (tb n) = (l.drop x.toNat).take (j.toNat - x.toNat) := by
  have hnx := rd_next l x n j h
  unfold rd at h
  rw [if_neg (by omega)] at h
  generalize hr : rdK 10 0 0 (l.drop x.toNat) = r at h
  obtain ⟨n', j', e'⟩ := r
  simp only [Prod.mk.injEq] at h
  obtain ⟨rfl, h2, h3⟩ := h
  have he : e' = 0 := by omega
  subst he
  simp only [if_true] at h2
  obtain ⟨V, e1, e2, e3, _⟩ := rdK_back 10 0 0 _ _ _ hr (by omega) (by simp)
  simp only [Nat.mul_zero, Nat.pow_zero, Nat.mul_one, Nat.zero_add] at e1 e2
  refine ⟨by rw [e1]; exact fb_range V e2, ?_⟩
  rw [e1, tb_fb, ← e3]
  congr 1
  omega

/-- what is laid is read -/
theorem rdK_vb (f k u V : Nat) (r : List UInt8) (hf : k + f = 10) (hu : u < 2 ^ (7 * k)) (hV : u + V * 2 ^ (7 * k) < 18446744073709551616) (hk : 0 < k → 0 < V) :
    rdK f k u (vb V ++ r) = (fb (u + V * 2 ^ (7 * k)), k + (vb V).length, 0) := by
  induction f generalizing k u V with
  | zero =>
    exfalso
    have : k = 10 := by omega
    subst this
    have h1 := hk (by omega)
    have : 1 * 2 ^ (7 * 10) ≤ V * 2 ^ (7 * 10) := Nat.mul_le_mul_right _ h1
    omega
  | succ f ih =>
    have hp9 : k = 9 → V ≤ 1 := by
      intro h9
      subst h9
      rcases Nat.lt_or_ge 1 V with h | h
      · exfalso
        have : 2 * 2 ^ (7 * 9) ≤ V * 2 ^ (7 * 9) := Nat.mul_le_mul_right _ h
        omega
      · exact h
    by_cases hlt : V < 128
    · rw [vb_lt hlt]
      have e : (UInt8.ofNat V).toNat = V := by rw [UInt8.toNat_ofNat', Nat.mod_eq_of_lt (by simp; omega)]
      have hms : ms V k = true := by
        simp [ms]
        omega
      simp only [List.cons_append, List.nil_append, rdK, e, hms, List.length_cons, List.length_nil, Nat.mod_eq_of_lt hlt]
      simp [hlt]
    · rw [vb_ge hlt]
      have e : (UInt8.ofNat (V % 128 + 128)).toNat = V % 128 + 128 := by rw [UInt8.toNat_ofNat', Nat.mod_eq_of_lt (by simp; omega)]
      have hk9 : ¬ k = 9 := fun h => by have := hp9 h; omega
      have hms : ms (V % 128 + 128) k = true := by
        simp [ms]
        omega
      have hp : (2 : Nat) ^ (7 * (k + 1)) = 128 * 2 ^ (7 * k) := by rw [Nat.mul_add, Nat.pow_add]; omega
      have eq : u + (V % 128 + 128) % 128 * 2 ^ (7 * k) + V / 128 * 2 ^ (7 * (k + 1)) = u + V * 2 ^ (7 * k) := by
        rw [hp, show (V % 128 + 128) % 128 = V % 128 by omega, ← Nat.mul_assoc, Nat.add_assoc, ← Nat.add_mul]
        congr 2
        omega
      have h128 : ¬ (V % 128 + 128) < 128 := by omega
      simp only [List.cons_append, rdK, e, hms]
      rw [if_neg (by simp), if_neg h128, ih (k + 1) _ (V / 128) (by omega) (step_lt u _ k hu) (by rw [eq]; exact hV) (fun _ => by omega), eq]
      simp only [List.length_cons, Prod.mk.injEq, true_and, and_true]
      omega

/-- a number that was laid, behind any bytes and ahead of any others, is read as it was -/
theorem rd_put (b r : List UInt8) (n : Int) (h0 : -9223372036854775808 ≤ n) (h1 : n ≤ 9223372036854775807) :
    rd (b ++ vb (tb n) ++ r) (b.length : Int) = (n, ((b ++ vb (tb n)).length : Int), 0) := by
  unfold rd
  rw [if_neg (by simp only [List.length_append]; omega), Int.toNat_natCast, List.append_assoc, List.drop_left]
  have h := rdK_vb 10 0 0 (tb n) r (by omega) (by simp) (by simpa using tb_lt n h0 h1) (by omega)
  simp only [Nat.mul_zero, Nat.pow_zero, Nat.mul_one, Nat.zero_add, fb_tb] at h
  rw [h]
  refine Prod.ext rfl (Prod.ext ?_ rfl)
  simp only [if_true, List.length_append]
  omega

theorem take_two (l : List UInt8) (x j n : Nat) (h : x ≤ j) : (l.drop x).take (j - x) ++ (l.drop j).take n = (l.drop x).take (j + n - x) := by
  rw [show j + n - x = (j - x) + n by omega, List.take_add, List.drop_drop, show x + (j - x) = j by omega]

/-- a text that was read, laid again, is what was read -/
theorem tx_back (l t : List UInt8) (x j : Int) (h : tx l x = (t, j, 0)) :
    0 ≤ x ∧ x < j ∧ j ≤ l.length ∧ t.length ≤ 65536 ∧ vb (tb t.length) ++ t = (l.drop x.toNat).take (j.toNat - x.toNat) := by
  unfold tx at h
  generalize hc : ct l x 65536 = R at h
  obtain ⟨n, i, er⟩ := R
  split at h
  · rename_i he
    simp at h he
    omega
  · rename_i he
    have he' : er = 0 := by simpa using he
    subst he'
    obtain ⟨hrd, hn0, hn1⟩ := ct_ok l x 65536 n i hc
    obtain ⟨hx0, hx1, hx2⟩ := rd_next l x n i hrd
    have hbk := (rd_back l x n i hrd).2
    split at h
    · simp at h
    · rename_i hs
      simp only [Prod.mk.injEq] at h
      obtain ⟨h1, h2, _⟩ := h
      simp only at hs
      obtain ⟨N, rfl⟩ := Int.eq_ofNat_of_zero_le hn0
      obtain ⟨I, rfl⟩ := Int.eq_ofNat_of_zero_le (show 0 ≤ i by omega)
      obtain ⟨X, rfl⟩ := Int.eq_ofNat_of_zero_le hx0
      simp only [Int.toNat_natCast] at h1 hbk ⊢
      have hl : t.length = N := by rw [← h1, List.length_take, List.length_drop]; omega
      refine ⟨by omega, by omega, by omega, by omega, ?_⟩
      rw [hl, hbk, ← h1, take_two l X I N (by omega)]
      congr 1
      omega

/-- a text that was laid, behind any bytes and ahead of any others, is read as it was -/
theorem tx_put (b r s : List UInt8) (hs : s.length ≤ 65536) :
    tx (b ++ vb (tb s.length) ++ s ++ r) (b.length : Int) = (s, ((b ++ vb (tb s.length) ++ s).length : Int), 0) := by
  have h := rd_put b (s ++ r) (s.length : Int) (by omega) (by omega)
  rw [← List.append_assoc] at h
  have hc : ct (b ++ vb (tb s.length) ++ s ++ r) (b.length : Int) 65536 = ((s.length : Int), ((b ++ vb (tb s.length)).length : Int), 0) := by
    unfold ct
    rw [h, if_neg (by simp), if_neg (by simp only; omega)]
  unfold tx
  rw [hc, if_neg (by simp), if_neg (by simp only [List.length_append]; omega)]
  simp only [Int.toNat_natCast]
  refine Prod.ext ?_ (Prod.ext ?_ rfl)
  · show ((b ++ vb (tb s.length) ++ s ++ r).drop (b ++ vb (tb s.length)).length).take s.length = s
    rw [List.append_assoc (b ++ vb (tb s.length)), List.drop_left, List.take_left]
  · simp only [List.length_append]
    omega
theorem vb_short (s : List UInt8) (hs : s.length ≤ 65536) : (vb (tb s.length)).length ≤ 3 := by
  refine vb_len 2 _ ?_
  unfold tb
  rw [if_neg (by omega)]
  omega
end Go.Proofs.Ytghhdbkgibpebaa.Pm
