/-
  Layer 3's plain mathematics: what is tagged, the padded key, its masks, the tag, a principal's key; unlike pairs have unlike texts; which keys are the same key; bytes and their exclusive-or.
-/
import Derived.Test.YtfpdiafedoppnaaDoorMath
import Derived.Test.YtfpdiafedoppnaaDoorSm2
namespace Go.Proofs.YtfpdiafedoppnaaDoor
namespace Mm

/-- what is tagged: the domain with its length, and bytes behind it -/
def text (d b : List UInt8) : List UInt8 := Sm.wall (fun p : List UInt8 × List UInt8 => Pm.vb (Pm.tb (p.1.length : Int)) ++ p.1 ++ p.2) 0 (d, b)
/-- the key itself, or its sum, if it is long -/
def keyOf (l : List UInt8) : List UInt8 := Sm.wall (fun l : List UInt8 => if l.length ≤ 64 then l else Sm.sum l) 0 l
theorem keyOf_def (l : List UInt8) : keyOf l = if l.length ≤ 64 then l else Sm.sum l := Sm.wall_eq _ _
/-- with bytes 0 behind it, up to 64 -/
def key64 (l : List UInt8) : List UInt8 := Sm.wall (fun l : List UInt8 => keyOf l ++ Sm.zeros (64 - (keyOf l).length)) 0 l
def mask (c : UInt8) (l : List UInt8) : List UInt8 := Sm.wall (fun p : UInt8 × List UInt8 => p.2.map fun x => x ^^^ p.1) 0 (c, l)
theorem mask_def (c : UInt8) (l : List UInt8) : mask c l = l.map fun x => x ^^^ c := Sm.wall_eq _ _
def behind (p b : List UInt8) : List UInt8 := Sm.wall (fun p : List UInt8 × List UInt8 => Sm.sum (p.1 ++ p.2)) 0 (p, b)
def tag (key d b : List UInt8) : List UInt8 := Sm.wall (fun p : List UInt8 × List UInt8 × List UInt8 => behind (mask 92 (key64 p.1)) (behind (mask 54 (key64 p.1)) (text p.2.1 p.2.2))) 0 (key, d, b)
def name3 : List UInt8 := [107, 101, 121]
/-- what a principal's key is the sum of -/
def keyText (seed : Int) (who : List UInt8) : List UInt8 := Sm.wall (fun p : Int × List UInt8 => Pm.vb (Pm.tb 3) ++ name3 ++ Pm.vb (Pm.tb p.1) ++ Pm.vb (Pm.tb (p.2.length : Int)) ++ p.2) 0 (seed, who)

def pkey (seed : Int) (who : List UInt8) : List UInt8 := Sm.wall (fun p : Int × List UInt8 => Sm.sum (keyText p.1 p.2)) 0 (seed, who)
theorem pkey_def (seed : Int) (who : List UInt8) : pkey seed who = Sm.sum (keyText seed who) := Sm.wall_eq _ _
theorem pkey_length (seed : Int) (who : List UInt8) : (pkey seed who).length = 32 := by rw [pkey_def]; exact Sm.sum_length _
theorem keyText_def (seed : Int) (who : List UInt8) : keyText seed who = Pm.vb (Pm.tb 3) ++ name3 ++ Pm.vb (Pm.tb seed) ++ Pm.vb (Pm.tb (who.length : Int)) ++ who := Sm.wall_eq _ _
theorem text_def (d b : List UInt8) : text d b = Pm.vb (Pm.tb (d.length : Int)) ++ d ++ b := Sm.wall_eq _ _
theorem tag_def (key d b : List UInt8) : tag key d b = behind (mask 92 (key64 key)) (behind (mask 54 (key64 key)) (text d b)) := Sm.wall_eq _ _
theorem behind_def (p b : List UInt8) : behind p b = Sm.sum (p ++ b) := Sm.wall_eq _ _
theorem behind_length (p b : List UInt8) : (behind p b).length = 32 := by rw [behind_def]; exact Sm.sum_length _
theorem tag_length (key d b : List UInt8) : (tag key d b).length = 32 := by rw [tag_def]; exact behind_length _ _
theorem keyOf_length (l : List UInt8) : (keyOf l).length ≤ 64 := by
  rw [keyOf_def]
  split
  · assumption
  · rw [Sm.sum_length]; omega
theorem key64_of (l : List UInt8) : key64 l = keyOf l ++ Sm.zeros (64 - (keyOf l).length) := Sm.wall_eq _ _
theorem key64_length (l : List UInt8) : (key64 l).length = 64 := by
  have := keyOf_length l
  rw [key64_of, List.length_append, Sm.zeros_length]; omega
theorem mask_length (c : UInt8) (l : List UInt8) : (mask c l).length = l.length := by simp [mask_def]
theorem mask64 (c : UInt8) (l : List UInt8) : (mask c (key64 l)).length = 64 := by rw [mask_length, key64_length]
theorem keyOf_short (l : List UInt8) (h : l.length ≤ 64) : keyOf l = l := by rw [keyOf_def]; exact if_pos h
theorem keyOf_long (l : List UInt8) (h : ¬ l.length ≤ 64) : keyOf l = Sm.sum l := by rw [keyOf_def]; exact if_neg h

/-- bytes 0 behind a key, up to 64: the same key -/
theorem key64_zeros (l : List UInt8) (n : Nat) (h : l.length + n ≤ 64) : key64 (l ++ Sm.zeros n) = key64 l := by
  rw [key64_of, key64_of, keyOf_short _ (by rw [List.length_append, Sm.zeros_length]; exact h), keyOf_short _ (by omega), List.length_append, Sm.zeros_length, List.append_assoc]
  congr 1
  unfold Sm.zeros
  rw [List.replicate_append_replicate]
  congr 1; omega
/-- a long key is its sum -/
theorem key64_sum (l : List UInt8) (h : ¬ l.length ≤ 64) : key64 (Sm.sum l) = key64 l := by
  rw [key64_of, key64_of, keyOf_long l h, keyOf_short _ (by rw [Sm.sum_length]; omega)]
theorem tag_zeros (l d b : List UInt8) (n : Nat) (h : l.length + n ≤ 64) : tag (l ++ Sm.zeros n) d b = tag l d b := by rw [tag_def, tag_def, key64_zeros l n h]
theorem tag_sum (l d b : List UInt8) (h : ¬ l.length ≤ 64) : tag (Sm.sum l) d b = tag l d b := by rw [tag_def, tag_def, key64_sum l h]

/-- unlike pairs have unlike texts -/
theorem text_inj {d e b c : List UInt8} (h : text d b = text e c) : d = e ∧ b = c := by
  rw [text_def, text_def, List.append_assoc, List.append_assoc] at h
  have hn : Pm.tb (d.length : Int) = Pm.tb (e.length : Int) := by
    apply Pm.vb_apart _ _ _ rfl
    have h1 := congrArg (List.take (min (Pm.vb (Pm.tb (d.length : Int))).length (Pm.vb (Pm.tb (e.length : Int))).length)) h
    rw [List.take_append_of_le_length (Nat.min_le_left _ _), List.take_append_of_le_length (Nat.min_le_right _ _)] at h1
    exact h1
  rw [hn] at h
  have h2 := List.append_cancel_left h
  have hl : d.length = e.length := by have := Pm.tb_inj hn; omega
  exact List.append_inj h2 hl
theorem text_same (d b c : List UInt8) : (text d b == text d c) = (b == c) := by
  rw [Bool.eq_iff_iff, beq_iff_eq, beq_iff_eq]
  exact ⟨fun h => (text_inj h).2, fun h => by rw [h]⟩
theorem text_other (d b e : List UInt8) : (text d b == text e []) = ((d == e) && (b.length == 0)) := by
  rw [Bool.eq_iff_iff, Bool.and_eq_true, beq_iff_eq, beq_iff_eq, beq_iff_eq]
  refine ⟨fun h => ?_, fun ⟨h1, h2⟩ => ?_⟩
  · obtain ⟨h1, h2⟩ := text_inj h
    exact ⟨h1, by rw [h2]; rfl⟩
  · rw [h1, List.eq_nil_of_length_eq_zero h2]

/-! bytes -/
theorem xor_u8 (x c : UInt8) : bits .xor .u8 (x.toNat : Int) (c.toNat : Int) = (((x ^^^ c).toNat : Nat) : Int) := by
  rw [u8_xor_nat _ _ (UInt8.toNat_lt x) (UInt8.toNat_lt c), UInt8.toNat_xor]
/-- what Equal gathers -/
def unl0 : List UInt8 → List UInt8 → Nat → Nat
  | _, _, 0 => 0
  | a, b, k + 1 => unl0 a b k ||| ((a.getD k 0).toNat ^^^ (b.getD k 0).toNat)
def unl (a b : List UInt8) (k : Nat) : Nat := Sm.wall (fun p : List UInt8 × List UInt8 × Nat => unl0 p.1 p.2.1 p.2.2) 0 (a, b, k)
theorem unl_def (a b : List UInt8) (k : Nat) : unl a b k = unl0 a b k := Sm.wall_eq _ _
theorem unl_zero (a b : List UInt8) : unl a b 0 = 0 := unl_def _ _ _
theorem unl_succ (a b : List UInt8) (k : Nat) : unl a b (k + 1) = unl a b k ||| ((a.getD k 0).toNat ^^^ (b.getD k 0).toNat) := by rw [unl_def, unl_def]; rfl
theorem unl_lt (a b : List UInt8) : ∀ k, unl a b k < 256
  | 0 => by rw [unl_zero]; omega
  | k + 1 => by
    rw [unl_succ]
    exact Nat.or_lt_two_pow (n := 8) (unl_lt a b k) (Nat.xor_lt_two_pow (n := 8) (UInt8.toNat_lt _) (UInt8.toNat_lt _))
theorem unl_step (a b : List UInt8) (k : Nat) (ha : k < a.length) (hb : k < b.length) :
    bits .or .u8 (unl a b k : Int) (bits .xor .u8 (a[k].toNat : Int) (b[k].toNat : Int)) = ((unl a b (k + 1) : Nat) : Int) := by
  rw [u8_xor_nat _ _ (UInt8.toNat_lt _) (UInt8.toNat_lt _), u8_or_nat _ _ (unl_lt a b k) (Nat.xor_lt_two_pow (n := 8) (UInt8.toNat_lt _) (UInt8.toNat_lt _)), unl_succ]
  simp [ha, hb]
theorem unl_iff (a b : List UInt8) : ∀ k, unl a b k = 0 ↔ ∀ j, j < k → a.getD j 0 = b.getD j 0
  | 0 => by simp [unl_zero]
  | k + 1 => by
    rw [unl_succ, Nat.or_eq_zero_iff, unl_iff a b k]
    constructor
    · rintro ⟨h1, h2⟩ j hj
      rcases Nat.lt_succ_iff_lt_or_eq.1 hj with h | h
      · exact h1 j h
      · subst h
        exact UInt8.toNat_inj.1 (by have := congrArg (· ^^^ (b.getD j 0).toNat) h2; simpa [Nat.xor_assoc] using this)
    · intro h
      exact ⟨fun j hj => h j (by omega), by rw [h k (by omega), Nat.xor_self]⟩
theorem unl_all (a b : List UInt8) (h : a.length = b.length) : ((unl a b a.length : Int) == 0) = (a == b) := by
  rw [Bool.eq_iff_iff, beq_iff_eq, beq_iff_eq]
  constructor
  · intro h0
    have h1 := (unl_iff a b a.length).1 (by omega)
    apply List.ext_getElem h
    intro j h2 h3
    have := h1 j h2
    simpa [h2, h3] using this
  · rintro rfl
    have := (unl_iff a a a.length).2 (fun _ _ => rfl)
    omega
theorem beq_unlike (a b : List UInt8) (h : a.length ≠ b.length) : (a == b) = false := by
  rw [Bool.eq_false_iff]
  intro h0
  rw [beq_iff_eq] at h0
  exact h (by rw [h0])

/-! the masks, a place at a time -/
def maskTo (c : UInt8) (l : List UInt8) (k : Nat) : List UInt8 := Sm.wall (fun p : UInt8 × List UInt8 × Nat => mask p.1 (p.2.1.take p.2.2) ++ p.2.1.drop p.2.2) 0 (c, l, k)
theorem maskTo_def (c : UInt8) (l : List UInt8) (k : Nat) : maskTo c l k = mask c (l.take k) ++ l.drop k := Sm.wall_eq _ _
theorem maskTo_zero (c : UInt8) (l : List UInt8) : maskTo c l 0 = l := by simp [maskTo_def, mask_def]
theorem maskTo_all (c : UInt8) (l : List UInt8) (k : Nat) (h : l.length ≤ k) : maskTo c l k = mask c l := by
  rw [maskTo_def]
  rw [List.take_of_length_le h, List.drop_eq_nil_of_le h, List.append_nil]
theorem maskTo_length (c : UInt8) (l : List UInt8) (k : Nat) : (maskTo c l k).length = l.length := by
  rw [maskTo_def]
  rw [List.length_append, mask_length, List.length_take, List.length_drop]; omega
theorem maskTo_at (c : UInt8) (l : List UInt8) (k : Nat) (h : k < l.length) : (maskTo c l k)[k]? = some l[k] := by
  rw [maskTo_def]
  rw [List.getElem?_append_right (by rw [mask_length, List.length_take]; omega), mask_length, List.length_take, List.getElem?_drop]
  rw [show k + (k - min k l.length) = k by omega]
  simp [h]
theorem maskTo_succ (c : UInt8) (l : List UInt8) (k : Nat) (h : k < l.length) : maskTo c l (k + 1) = (maskTo c l k).set k (l[k] ^^^ c) := by
  apply List.ext_getElem?
  intro j
  simp only [maskTo_def, mask_def]
  rw [List.getElem?_set]
  by_cases hj : j < k
  · rw [if_neg (by omega)]
    rw [List.getElem?_append_left (by rw [List.length_map, List.length_take]; omega), List.getElem?_append_left (by rw [List.length_map, List.length_take]; omega)]
    simp [hj, show j < k + 1 by omega]
  · by_cases hk : j = k
    · subst hk
      rw [if_pos rfl, if_pos (by rw [List.length_append, List.length_map, List.length_take, List.length_drop]; omega)]
      rw [List.getElem?_append_left (by rw [List.length_map, List.length_take]; omega)]
      simp [h]
    · rw [if_neg (fun h => hk h.symm)]
      rw [List.getElem?_append_right (by rw [List.length_map, List.length_take]; omega), List.getElem?_append_right (by rw [List.length_map, List.length_take]; omega)]
      rw [List.length_map, List.length_take, List.length_map, List.length_take, List.getElem?_drop, List.getElem?_drop]
      congr 1; omega
theorem mask_succ (c : UInt8) (l : List UInt8) (k : Nat) (h : k < l.length) : mask c (l.take (k + 1)) = mask c (l.take k) ++ [l[k] ^^^ c] := by
  simp only [mask_def]
  rw [← List.take_append_getElem h, List.map_append]; rfl
end Mm
end Go.Proofs.YtfpdiafedoppnaaDoor
