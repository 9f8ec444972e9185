/-
  Plain mathematics of layer 1: a number's bytes (seven bits each), how they are read, that they lead back and that none begins another's. Nothing here speaks of a program.
-/
import Derived.Laws.BitsAllLaws
namespace Go.Proofs.YtfpdiafedoppnaaDoor.Pm

/-- a number as 64 bits -/
def tb (n : Int) : Nat := if n < 0 then (-2 * n - 1).toNat else (2 * n).toNat
/-- and back -/
def fb (u : Nat) : Int := if u % 2 = 1 then -((u / 2 : Nat) : Int) - 1 else ((u / 2 : Nat) : Int)
/-- the bytes: seven bits each, at most f of them that go on -/
def vbF : Nat → Nat → List UInt8
  | 0, u => [UInt8.ofNat u]
  | f + 1, u => if u < 128 then [UInt8.ofNat u] else UInt8.ofNat (u % 128 + 128) :: vbF f (u / 128)
/-- the bytes: seven bits each -/
def vb (u : Nat) : List UInt8 := vbF u u

theorem vbF_any (f g u : Nat) (hf : u ≤ f) (hg : u ≤ g) : vbF f u = vbF g u := by
  induction f generalizing g u with
  | zero =>
    have : u = 0 := by omega
    subst this
    cases g <;> simp [vbF]
  | succ f ih =>
    cases g with
    | zero =>
      have : u = 0 := by omega
      subst this
      simp [vbF]
    | succ g =>
      by_cases h : u < 128
      · simp [vbF, h]
      · simp only [vbF, if_neg h]
        rw [ih g (u / 128) (by omega) (by omega)]
theorem vb_lt {u : Nat} (h : u < 128) : vb u = [UInt8.ofNat u] := by
  unfold vb
  cases u with
  | zero => rfl
  | succ n => simp only [vbF, if_pos h]
theorem vb_ge {u : Nat} (h : ¬ u < 128) : vb u = UInt8.ofNat (u % 128 + 128) :: vb (u / 128) := by
  unfold vb
  cases u with
  | zero => omega
  | succ n =>
    simp only [vbF, if_neg h]
    rw [vbF_any n ((n + 1) / 128) ((n + 1) / 128) (by omega) (Nat.le_refl _)]

theorem tb_lt (n : Int) (h0 : -9223372036854775808 ≤ n) (h1 : n ≤ 9223372036854775807) : tb n < 18446744073709551616 := by
  unfold tb; split <;> omega
theorem fb_tb (n : Int) : fb (tb n) = n := by
  unfold fb tb; split <;> split <;> omega
theorem tb_fb (u : Nat) : tb (fb u) = u := by
  unfold fb tb; split <;> split <;> omega
theorem tb_inj {n m : Int} (h : tb n = tb m) : n = m := by rw [← fb_tb n, h, fb_tb]
theorem fb_range (u : Nat) (h : u < 18446744073709551616) : -9223372036854775808 ≤ fb u ∧ fb u ≤ 9223372036854775807 := by
  unfold fb; split <;> omega

/-- so many bytes: at least one -/
theorem vb_pos (u : Nat) : 1 ≤ (vb u).length := by
  by_cases h : u < 128
  · simp [vb_lt h]
  · simp [vb_ge h]
/-- so many bytes at the most: k, below 128^k -/
theorem vb_len (k u : Nat) (h : u < 128 ^ (k + 1)) : (vb u).length ≤ k + 1 := by
  induction k generalizing u with
  | zero => simp [vb_lt (show u < 128 by simpa using h)]
  | succ k ih =>
    by_cases hu : u < 128
    · simp [vb_lt hu]
    · rw [vb_ge hu, List.length_cons]
      have := ih (u / 128) (by rw [Nat.div_lt_iff_lt_mul (by omega)]; rw [Nat.pow_succ] at h; exact h)
      omega
theorem vb_len10 (u : Nat) (h : u < 18446744073709551616) : (vb u).length ≤ 10 :=
  vb_len 9 u (Nat.lt_of_lt_of_le h (by decide))

theorem ofNat_eq {a b : Nat} (ha : a < 256) (hb : b < 256) (h : UInt8.ofNat a = UInt8.ofNat b) : a = b := by
  have := congrArg UInt8.toNat h
  simp only [UInt8.toNat_ofNat'] at this
  rw [Nat.mod_eq_of_lt (by simpa using ha), Nat.mod_eq_of_lt (by simpa using hb)] at this
  exact this

/-- neither begins the other -/
theorem vb_apart (u v : Nat) (k : Nat) (hu : k = min (vb u).length (vb v).length) (h : (vb u).take k = (vb v).take k) : u = v := by
  induction u using Nat.strongRecOn generalizing v k with
  | _ u ih =>
    by_cases h1 : u < 128
    · by_cases h2 : v < 128
      · rw [vb_lt h1, vb_lt h2] at h hu
        subst hu
        simp at h
        exact ofNat_eq (by omega) (by omega) h
      · exfalso
        rw [vb_lt h1, vb_ge h2] at h hu
        have : k = 1 := by simp at hu; omega
        subst this
        simp only [List.take_succ_cons, List.take_zero, List.cons.injEq, and_true] at h
        have := ofNat_eq (by omega) (by omega) h
        omega
    · by_cases h2 : v < 128
      · exfalso
        rw [vb_ge h1, vb_lt h2] at h hu
        have : k = 1 := by simp at hu; omega
        subst this
        simp only [List.take_succ_cons, List.take_zero, List.cons.injEq, and_true] at h
        have := ofNat_eq (by omega) (by omega) h
        omega
      · rw [vb_ge h1, vb_ge h2] at h hu
        obtain ⟨k', rfl⟩ : ∃ k', k = k' + 1 := by
          have := vb_pos (u / 128); have := vb_pos (v / 128)
          simp at hu
          exact ⟨k - 1, by omega⟩
        simp only [List.take_succ_cons, List.cons.injEq] at h
        have e1 := ofNat_eq (by omega) (by omega) h.1
        have e2 := ih (u / 128) (by omega) (v / 128) k' (by simp at hu; omega) h.2
        omega

theorem vb_inj {u v : Nat} (h : vb u = vb v) : u = v := vb_apart u v _ rfl (by rw [h])

/-! The walk's own forms -/
theorem u64_and127 (u : Nat) (h : u < 18446744073709551616) : bits .and .u64 (u : Int) 127 = ((u % 128 : Nat) : Int) := by
  have := u64_and_nat u 127 h (by omega)
  simpa [nat_mask7] using this
theorem u64_and1 (u : Nat) (h : u < 18446744073709551616) : bits .and .u64 (u : Int) 1 = ((u % 2 : Nat) : Int) := by
  have := u64_and_nat u 1 h (by omega)
  simpa [nat_mask1] using this
theorem u8_and127 (c : Nat) (h : c < 256) : bits .and .u8 (c : Int) 127 = ((c % 128 : Nat) : Int) := by
  have := u8_and_nat c 127 h (by omega)
  simpa [nat_mask7] using this
theorem u8_and15 (c : Nat) (h : c < 256) : bits .and .u8 (c : Int) 15 = ((c % 16 : Nat) : Int) := by
  have := u8_and_nat c 15 h (by omega)
  simpa [nat_mask4] using this
theorem xor_all (a k : Nat) (h : a < 2 ^ k) : (2 ^ k - 1) ^^^ a = 2 ^ k - 1 - a := by
  apply Nat.eq_of_testBit_eq
  intro i
  rw [Nat.testBit_xor, Nat.testBit_two_pow_sub_one]
  rw [Nat.sub_sub, Nat.add_comm 1 a, Nat.testBit_two_pow_sub_succ h]
  by_cases hi : i < k
  · simp [hi]
  · have : a.testBit i = false := Nat.testBit_lt_two_pow (Nat.lt_of_lt_of_le h (Nat.pow_le_pow_right (by omega) (by omega)))
    simp [hi, this]
theorem u64_not (a : Nat) (h : a < 18446744073709551616) : bits .xor .u64 IntKind.u64.max (a : Int) = ((18446744073709551615 - a : Nat) : Int) := by
  have e : IntKind.u64.max = ((18446744073709551615 : Nat) : Int) := by decide
  rw [e, u64_xor_nat _ _ (by omega) h]
  have := xor_all a 64 h
  congr 1

/-! Reading -/
/-- may a byte stand at a place of a number? -/
def ms (c i : Nat) : Bool := (!(decide (i = 9) && decide (1 < c))) && (decide (i = 0) || decide (c ≠ 0))
/-- behind k bytes that were read, with the bits u: the number, how many bytes it has, the error -/
def rdK : Nat → Nat → Nat → List UInt8 → Int × Nat × Nat
  | 0, _, _, _ => (0, 0, 11)
  | _ + 1, _, _, [] => (0, 0, 10)
  | f + 1, k, u, c :: r =>
    if ms c.toNat k = false then (0, 0, 11)
    else if c.toNat < 128 then (fb (u + c.toNat % 128 * 2 ^ (7 * k)), k + 1, 0)
    else rdK f (k + 1) (u + c.toNat % 128 * 2 ^ (7 * k)) r
/-- the document's Int -/
def rd (l : List UInt8) (at_ : Int) : Int × Int × Int :=
  if at_ < 0 ∨ (l.length : Int) < at_ then (0, 0, 2)
  else
    let r := rdK 10 0 0 (l.drop at_.toNat)
    (r.1, if r.2.2 = 0 then at_ + r.2.1 else 0, r.2.2)

theorem pow7 (k : Nat) (h : k ≤ 9) : 2 ^ (7 * k) ≤ 9223372036854775808 := by
  have : (2 : Nat) ^ (7 * k) ≤ 2 ^ 63 := Nat.pow_le_pow_right (by omega) (by omega)
  exact this
theorem step_lt (u c k : Nat) (hu : u < 2 ^ (7 * k)) : u + c % 128 * 2 ^ (7 * k) < 2 ^ (7 * (k + 1)) := by
  have e : (2 : Nat) ^ (7 * (k + 1)) = 128 * 2 ^ (7 * k) := by rw [Nat.mul_add, Nat.pow_add]; omega
  rw [e]
  have h : c % 128 ≤ 127 := by omega
  have : c % 128 * 2 ^ (7 * k) ≤ 127 * 2 ^ (7 * k) := Nat.mul_le_mul_right _ h
  omega
theorem step_64 (u c k : Nat) (hk : k ≤ 9) (hc : ms c k = true) (hu : u < 2 ^ (7 * k)) : c % 128 * 2 ^ (7 * k) < 18446744073709551616 ∧ u + c % 128 * 2 ^ (7 * k) < 18446744073709551616 := by
  have h := step_lt u c k hu
  by_cases h9 : k = 9
  · subst h9
    have hc1 : c ≤ 1 := by
      simp [ms] at hc
      omega
    have : c % 128 * 2 ^ (7 * 9) ≤ 1 * 2 ^ (7 * 9) := Nat.mul_le_mul_right _ (by omega)
    omega
  · have : (2 : Nat) ^ (7 * (k + 1)) ≤ 2 ^ 63 := Nat.pow_le_pow_right (by omega) (by omega)
    omega
theorem or_step (u c k : Nat) (hk : k ≤ 9) (hc : ms c k = true) (hu : u < 2 ^ (7 * k)) :
    bits .or .u64 (u : Int) (IntKind.u64.wrap ((c : Int) % 128 * 2 ^ (7 * k))) = ((u + c % 128 * 2 ^ (7 * k) : Nat) : Int) := by
  obtain ⟨h1, h2⟩ := step_64 u c k hk hc hu
  have e : ((c : Int) % 128 * 2 ^ (7 * k)) = ((c % 128 * 2 ^ (7 * k) : Nat) : Int) := by simp
  rw [e, IntKind.wrap_u64]
  have e2 : ((c % 128 * 2 ^ (7 * k) : Nat) : Int) % 18446744073709551616 = ((c % 128 * 2 ^ (7 * k) : Nat) : Int) := by omega
  rw [e2, u64_or_nat _ _ (by omega) h1]
  have := nat_join (7 * k) (c % 128 * 2 ^ (7 * k)) u (Nat.mul_mod_left _ _) hu
  rw [Nat.or_comm, this, Nat.add_comm]
theorem add_step (u c k : Nat) (h : u + c % 128 * 2 ^ (7 * k) < 18446744073709551616) :
    IntKind.u64.wrap ((u : Int) + IntKind.u64.wrap ((c : Int) % 128 * 2 ^ (7 * k))) = ((u + c % 128 * 2 ^ (7 * k) : Nat) : Int) := by
  have e : ((c : Int) % 128 * 2 ^ (7 * k)) = ((c % 128 * 2 ^ (7 * k) : Nat) : Int) := by simp
  rw [e]
  generalize c % 128 * 2 ^ (7 * k) = y at *
  rw [IntKind.wrap_u64, IntKind.wrap_u64]
  omega
/-- the document's Count -/
def ct (l : List UInt8) (x most : Int) : Int × Int × Int :=
  if ¬ (rd l x).2.2 = 0 then (0, 0, (rd l x).2.2) else if (rd l x).1 < 0 ∨ most < (rd l x).1 then (0, 0, 11) else ((rd l x).1, (rd l x).2.1, 0)
/-- the document's Text -/
def tx (l : List UInt8) (x : Int) : List UInt8 × Int × Int :=
  if ¬ (ct l x 65536).2.2 = 0 then ([], 0, (ct l x 65536).2.2)
  else if (l.length : Int) - (ct l x 65536).2.1 < (ct l x 65536).1 then ([], 0, 10)
  else ((l.drop (ct l x 65536).2.1.toNat).take (ct l x 65536).1.toNat, (ct l x 65536).2.1 + (ct l x 65536).1, 0)
theorem rdK_next (f k u : Nat) (r : List UInt8) (n : Int) (j : Nat) (h : rdK f k u r = (n, j, 0)) : k < j ∧ j ≤ k + r.length := by
  induction f generalizing k u r with
  | zero => simp [rdK] at h
  | succ f ih =>
    cases r with
    | nil => simp [rdK] at h
    | cons c r =>
      simp only [rdK] at h
      split at h
      · simp at h
      · split at h
        · simp at h
          simp only [List.length_cons]
          omega
        · have := ih _ _ _ h
          simp only [List.length_cons]
          omega
theorem rd_next (l : List UInt8) (x n j : Int) (h : rd l x = (n, j, 0)) : 0 ≤ x ∧ x < j ∧ j ≤ l.length := by
  unfold rd at h
  split at h
  · simp at h
  · rename_i hx
    generalize hr : rdK 10 0 0 (l.drop x.toNat) = r at h
    obtain ⟨n', j', e'⟩ := r
    simp only [Prod.mk.injEq] at h
    obtain ⟨rfl, h2, h3⟩ := h
    have he : e' = 0 := by omega
    subst he
    have := rdK_next _ _ _ _ _ _ hr
    simp only [List.length_drop] at this
    simp at h2
    omega
theorem ct_ok (l : List UInt8) (x m n j : Int) (h : ct l x m = (n, j, 0)) : rd l x = (n, j, 0) ∧ 0 ≤ n ∧ n ≤ m := by
  unfold ct at h
  generalize rd l x = r at *
  obtain ⟨n', j', e'⟩ := r
  split at h
  · rename_i he
    simp at h he
    omega
  · split at h
    · simp at h
    · rename_i he hn
      simp at h he hn
      simp
      omega
/-! Digits to the base 16 -/
def dg : List UInt8 := [48, 49, 50, 51, 52, 53, 54, 55, 56, 57, 97, 98, 99, 100, 101, 102]
def hd (x : Nat) : UInt8 := dg.getD x 0
def hexOf : List UInt8 → List UInt8
  | [] => []
  | c :: r => hd (c.toNat / 16) :: hd (c.toNat % 16) :: hexOf r
theorem hexOf_length (l : List UInt8) : (hexOf l).length = 2 * l.length := by
  induction l with
  | nil => rfl
  | cons c r ih => simp only [hexOf, List.length_cons, ih]; omega
theorem hexOf_append (l m : List UInt8) : hexOf (l ++ m) = hexOf l ++ hexOf m := by
  induction l with
  | nil => rfl
  | cons c r ih => simp [hexOf, ih]
theorem hexOf_take (l : List UInt8) (k : Nat) (h : k < l.length) : hexOf (l.take (k + 1)) = hexOf (l.take k) ++ [hd (l[k].toNat / 16), hd (l[k].toNat % 16)] := by
  rw [List.take_succ_eq_append_getElem h, hexOf_append]
  rfl
end Go.Proofs.YtfpdiafedoppnaaDoor.Pm
