/-
  Plain mathematics of layer 1, more: digits to the base 16 there and back; what is read leads back to what was laid.
-/
import Derived.Test.YtmgddkijheaknaaMath
import Derived.Lib.Bytealg
namespace Go.Proofs.Ytmgddkijheaknaa.Pm

/-- a digit's number, or -1 -/
def hv (c : UInt8) : Int := Lib.indexByte dg c
theorem hv_all : ∀ n : Fin 256, -1 ≤ hv (UInt8.ofNat n.val) ∧ hv (UInt8.ofNat n.val) ≤ 15 ∧ (0 ≤ hv (UInt8.ofNat n.val) → hd (hv (UInt8.ofNat n.val)).toNat = UInt8.ofNat n.val) := by decide +kernel
theorem hv_spec (c : UInt8) : -1 ≤ hv c ∧ hv c ≤ 15 ∧ (0 ≤ hv c → hd (hv c).toNat = c) := by
  have h := hv_all ⟨c.toNat, c.toNat_lt⟩
  simpa using h
theorem hv_hd : ∀ n : Fin 16, hv (hd n.val) = (n.val : Int) := by decide +kernel
/-- the document's Unhex: the bytes, or none -/
def uh : List UInt8 → Option (List UInt8)
  | [] => some []
  | [_] => none
  | c :: d :: r => if hv c < 0 ∨ hv d < 0 then none else (uh r).map fun l => UInt8.ofNat (16 * hv c + hv d).toNat :: l

theorem uh_odd (s : List UInt8) (h : s.length % 2 = 1) : uh s = none := by
  induction s using uh.induct with
  | case1 => simp at h
  | case2 => rfl
  | case3 c d r hn => simp [uh, hn]
  | case4 c d r hn ih =>
    simp only [List.length_cons] at h
    simp only [uh, if_neg hn, ih (by omega), Option.map_none]
theorem byte_div (c d : Nat) (hc : c < 16) (hd : d < 16) : (UInt8.ofNat (16 * c + d)).toNat / 16 = c ∧ (UInt8.ofNat (16 * c + d)).toNat % 16 = d := by
  rw [UInt8.toNat_ofNat', Nat.mod_eq_of_lt (by simp; omega)]
  omega
/-- what is read is told again -/
theorem hex_uh (s l : List UInt8) (h : uh s = some l) : hexOf l = s := by
  induction s using uh.induct generalizing l with
  | case1 => simp [uh] at h; subst h; rfl
  | case2 => simp [uh] at h
  | case3 c d r hn => simp [uh, hn] at h
  | case4 c d r hn ih =>
    simp only [uh, if_neg hn, Option.map_eq_some_iff] at h
    obtain ⟨l', h1, rfl⟩ := h
    have hc := hv_spec c
    have hd' := hv_spec d
    obtain ⟨x, hx⟩ := Int.eq_ofNat_of_zero_le (show 0 ≤ hv c by omega)
    obtain ⟨y, hy⟩ := Int.eq_ofNat_of_zero_le (show 0 ≤ hv d by omega)
    have e1 := hc.2.2 (by omega)
    have e2 := hd'.2.2 (by omega)
    rw [hx, Int.toNat_natCast] at e1
    rw [hy, Int.toNat_natCast] at e2
    have eb := byte_div x y (by omega) (by omega)
    simp only [hexOf, ih l' h1]
    rw [hx, hy, show (16 * (x : Int) + (y : Int)).toNat = 16 * x + y by omega, eb.1, eb.2, e1, e2]
/-- what is told is read again -/
theorem uh_hex (l : List UInt8) : uh (hexOf l) = some l := by
  induction l with
  | nil => rfl
  | cons c r ih =>
    have hc : c.toNat < 256 := c.toNat_lt
    have e1 := hv_hd ⟨c.toNat / 16, by omega⟩
    have e2 := hv_hd ⟨c.toNat % 16, by omega⟩
    simp only at e1 e2
    simp only [hexOf, uh, e1, e2, ih]
    rw [if_neg (by omega)]
    simp only [Option.map_some, Option.some.injEq, List.cons.injEq, and_true]
    rw [show (16 * ((c.toNat / 16 : Nat) : Int) + ((c.toNat % 16 : Nat) : Int)).toNat = c.toNat by omega]
    simp
end Go.Proofs.Ytmgddkijheaknaa.Pm
