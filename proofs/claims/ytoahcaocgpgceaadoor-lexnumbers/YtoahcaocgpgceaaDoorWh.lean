/-
  Where, the program's and the reference's.
-/
import Derived.Test.YtoahcaocgpgceaaDoorLd
import Derived.OwnWalk
namespace Go.Proofs.YtoahcaocgpgceaaDoor
open Go.RowKit Go.Lib Go.Shelf

namespace Lx
def clamp (n : Nat) (x : Int) : Nat := if x < 0 then 0 else if x ≤ n then x.toNat else n
theorem clamp_le (n : Nat) (x : Int) : clamp n x ≤ n := by unfold clamp; split; omega; split <;> omega
def line (l : List UInt8) (p : Nat) : Nat := 1 + (l.take p).count 10
def last (l : List UInt8) (p : Nat) : Int := Lib.lastIdx ⟨l.toArray⟩ 10 p
theorem line_zero (l : List UInt8) : line l 0 = 1 := rfl
theorem line_hit {l : List UInt8} {k : Nat} (h : k < l.length) (hc : l[k].toNat = 10) : line l (k + 1) = line l k + 1 := by
  unfold line
  rw [List.take_succ_eq_append_getElem h, List.count_append, show l[k] = 10 from UInt8.toNat_inj.1 hc]
  simp; omega
theorem line_miss {l : List UInt8} {k : Nat} (h : k < l.length) (hc : ¬ l[k].toNat = 10) : line l (k + 1) = line l k := by
  unfold line
  rw [List.take_succ_eq_append_getElem h, List.count_append]
  have : l[k] ≠ 10 := fun e => hc (by rw [e]; rfl)
  simp [this]
theorem get_bang {l : List UInt8} {k : Nat} (h : k < l.length) : (⟨l.toArray⟩ : ByteArray).data[k]! = l[k] := by simp [h]
theorem last_zero (l : List UInt8) : last l 0 = -1 := rfl
theorem last_hit {l : List UInt8} {k : Nat} (h : k < l.length) (hc : l[k].toNat = 10) : last l (k + 1) = k := Lib.lastIdx_hit _ _ _ (by rw [get_bang h, hc]; rfl)
theorem last_miss {l : List UInt8} {k : Nat} (h : k < l.length) (hc : ¬ l[k].toNat = 10) : last l (k + 1) = last l k := Lib.lastIdx_miss _ _ _ (by rw [get_bang h]; omega)
theorem last_bounds (l : List UInt8) (k : Nat) : -1 ≤ last l k ∧ last l k < k := by
  rcases Lib.lastIdx_spec ⟨l.toArray⟩ 10 k with ⟨h, _⟩ | ⟨i, hi, h, _⟩ <;> (unfold last; rw [h]; omega)
theorem last_take {l : List UInt8} {p : Nat} (hp : p ≤ l.length) : ∀ n, n ≤ p → Lib.lastIdx ⟨(l.take p).toArray⟩ 10 n = last l n
  | 0, _ => rfl
  | n + 1, hn => by
    have h1 : n < (l.take p).length := by rw [List.length_take]; omega
    have e : (⟨(l.take p).toArray⟩ : ByteArray).data[n]! = l[n] := by rw [get_bang h1]; simp
    by_cases hc : l[n].toNat = 10
    · rw [last_hit (by omega) hc]; exact Lib.lastIdx_hit _ _ _ (by rw [e, hc]; rfl)
    · rw [last_miss (by omega) hc, ← last_take hp n (by omega)]; exact Lib.lastIdx_miss _ _ _ (by rw [e]; omega)
theorem last_all {l : List UInt8} {p : Nat} (hp : p ≤ l.length) : Lib.lastIndexByte ⟨(l.take p).toArray⟩ 10 = last l p := by
  unfold Lib.lastIndexByte
  have : (⟨(l.take p).toArray⟩ : ByteArray).size = p := by rw [str_size, List.length_take]; omega
  rw [this]; exact last_take hp p (Nat.le_refl _)
end Lx

def whereR (l : List UInt8) (x : Int) : Ending := .returned (.tuple #[.int .i64 (Lx.line l (Lx.clamp l.length x) : Int), .int .i64 ((Lx.clamp l.length x : Int) - Lx.last l (Lx.clamp l.length x))])

set_option maxRecDepth 100000 in
set_option maxHeartbeats 1000000 in
theorem lwhere_at (l : List UInt8) (x : Int) (w : World) (hr : l.length ≤ 281474976710656) (hx0 : -9223372036854775808 ≤ x) (hx1 : x ≤ 9223372036854775807) :
    Calls Tryd.prog 13 #[str l, .int .i64 x] w fun e w' => e = whereR l x ∧ w = w' := by
  have hsz := str_size l
  have hc := Lx.clamp_le l.length x
  have hs := extract_sub l 0 (Lx.clamp l.length x) hc
  have hsub : Lx.sub l 0 (Lx.clamp l.length x) = l.take (Lx.clamp l.length x) := by simp [Lx.sub]
  rw [hsub] at hs
  have CT := hideP (fun w => count_at (l.take (Lx.clamp l.length x)) 10 w)
  have LA := hideP (fun w => last_at (l.take (Lx.clamp l.length x)) 10 w (by rw [List.length_take]; omega))
  have lb := Lx.last_bounds l (Lx.clamp l.length x)
  have hla := Lx.last_all hc
  have hlen : (l.take (Lx.clamp l.length x)).length = Lx.clamp l.length x := by rw [List.length_take]; omega
  have hss := str_size (l.take (Lx.clamp l.length x))
  have hmm : (min (max x 0) (l.length : Int)).toNat = Lx.clamp l.length x := by
    unfold Lx.clamp
    split
    · omega
    split <;> omega
  rw [← hmm] at hs
  rw [hmm] at hs
  have hs2 : (⟨l.toArray⟩ : ByteArray).extract 0 (min (max x 0) (l.length : Int)).toNat = ⟨(l.take (Lx.clamp l.length x)).toArray⟩ := by rw [hmm]; exact hs
  have HR : Hid (whereR l x = .returned (.tuple #[.int .i64 (1 + ((l.take (Lx.clamp l.length x)).count 10 : Nat) : Int), .int .i64 ((Lx.clamp l.length x : Int) - Lx.last l (Lx.clamp l.length x))])) := by
    show _ = _
    unfold whereR Lx.line; push_cast; rfl
  have hcnt : (l.take (Lx.clamp l.length x)).count 10 ≤ l.length := Nat.le_trans List.count_le_length (by rw [List.length_take]; omega)
  rw [hlen] at hss
  have LB : Hid (∀ W, Calls Tryd.prog 20 #[str (l.take (Lx.clamp l.length x)), .int .u8 10] W fun e w' => e = .returned (.int .i64 (Lx.last l (Lx.clamp l.length x))) ∧ W = w') := by
    show ∀ W, _
    intro W
    have := LA.out W
    rw [show (((10 : UInt8).toNat : Nat) : Int) = 10 from rfl, hla] at this
    exact this
  clear LA hla hs hmm hsub
  generalize Lx.last l (Lx.clamp l.length x) = y at *
  generalize (l.take (Lx.clamp l.length x)).count 10 = n at *
  generalize l.take (Lx.clamp l.length x) = t at *
  generalize Lx.clamp l.length x = q at *
  obtain ⟨lb1, lb2⟩ := lb
  go_enter Tryd.func13, Tryd.ntmps13
  go_wp2_with (first
    | (go_at_call 19; refine (CT.out _).mono ?_; rintro e w1 ⟨rfl, rfl⟩)
    | (go_at_call 20; refine (LB.out _).mono ?_; rintro e w1 ⟨rfl, rfl⟩))
  go_ret2
  exact ⟨HR.out.symm, rfl⟩

set_option maxRecDepth 100000 in
set_option maxHeartbeats 1000000 in
theorem rwhere_at (l : List UInt8) (x : Int) (w : World) (hr : l.length ≤ 281474976710656) (hx0 : -9223372036854775808 ≤ x) (hx1 : x ≤ 9223372036854775807) :
    Calls Tryd.prog 14 #[str l, .int .i64 x] w fun e w' => e = whereR l x ∧ w = w' := by
  have hsz := str_size l
  have hc := Lx.clamp_le l.length x
  have hcl : Lx.clamp l.length x = if x < 0 then 0 else if x ≤ l.length then x.toNat else l.length := rfl
  have HC := hideP hcl
  have HR : Hid (whereR l x = .returned (.tuple #[.int .i64 (Lx.line l (Lx.clamp l.length x) : Int), .int .i64 ((Lx.clamp l.length x : Int) - Lx.last l (Lx.clamp l.length x))])) := rfl
  clear hcl
  generalize Lx.clamp l.length x = p at *
  go_enter Tryd.func14, Tryd.ntmps14
  have hrel0 : x < 0 ∨ (0 ≤ x ∧ x ≤ (l.length : Int)) ∨ (l.length : Int) < x := by omega
  rcases hrel0 with h | h | h
  · have e : p = 0 := by rw [HC.out, if_pos h]
    subst e
    have q1 : ¬ (0 : Int) > (l.length : Int) := by omega
    go_wp2_with fail
    go_loop [6, 7, 8] (fun a b c => ∃ k : Nat, a = .int .i64 (Lx.line l k : Int) ∧ b = .int .i64 (Lx.last l k) ∧ c = .int .i64 (k : Int) ∧ k ≤ 0) (fun _ _ c => 0 - (Lib.intOf c).toNat)
    case atStart => exact ⟨0, by rw [Lx.line_zero]; rfl, by rw [Lx.last_zero], rfl, Nat.zero_le _⟩
    case round =>
      obtain ⟨k, rfl, rfl, rfl, hk⟩ := hrel
      have lb := Lx.last_bounds l k
      have ll : Lx.line l k ≤ 1 + l.length := by unfold Lx.line; have := List.count_le_length (a := (10 : UInt8)) (l := l.take k); rw [List.length_take] at this; omega
      rcases Nat.lt_or_ge k 0 with hlt | hge
      · exact absurd hlt (Nat.not_lt_zero _)
      · have hge' : ¬ (k : Int) < (0 : Int) := by omega
        obtain ⟨lb1, lb2⟩ := lb
        go_wp2_with fail
        go_ret2
        have e : k = 0 := by omega
        subst e
        refine ⟨?_, rfl⟩
        rw [HR.out]; rfl
  · have e : x = (p : Int) := by rw [HC.out, if_neg (by omega), if_pos h.2]; omega
    clear HC
    subst e
    have q0 : ¬ (p : Int) < 0 := by omega
    have q1 : ¬ (p : Int) > (l.length : Int) := by omega
    go_wp2_with fail
    go_loop [6, 7, 8] (fun a b c => ∃ k : Nat, a = .int .i64 (Lx.line l k : Int) ∧ b = .int .i64 (Lx.last l k) ∧ c = .int .i64 (k : Int) ∧ k ≤ p) (fun _ _ c => p - (Lib.intOf c).toNat)
    case atStart => exact ⟨0, by rw [Lx.line_zero]; rfl, by rw [Lx.last_zero], rfl, Nat.zero_le _⟩
    case round =>
      obtain ⟨k, rfl, rfl, rfl, hk⟩ := hrel
      have lb := Lx.last_bounds l k
      have ll : Lx.line l k ≤ 1 + l.length := by unfold Lx.line; have := List.count_le_length (a := (10 : UInt8)) (l := l.take k); rw [List.length_take] at this; omega
      rcases Nat.lt_or_ge k p with hlt | hge
      · have hlt' : (k : Int) < (p : Int) := by omega
        have hkl : (k : Int) < (l.length : Int) := by omega
        have hkn : k < l.length := by omega
        have S1 := hideP (fun h => Lx.line_hit (l := l) (k := k) hkn h)
        have S2 := hideP (fun h => Lx.line_miss (l := l) (k := k) hkn h)
        have S3 := hideP (fun h => Lx.last_hit (l := l) (k := k) hkn h)
        have S4 := hideP (fun h => Lx.last_miss (l := l) (k := k) hkn h)
        have hg : ∀ h, ((⟨l.toArray⟩ : ByteArray)[k]'h).toNat = l[k].toNat := fun _ => rfl
        generalize hx : l[k].toNat = z at *
        simp only [hx] at hg
        go_wp2_with fail
        all_goals (try simp only [beq_iff_eq] at *)
        all_goals (try simp only [beq_eq_false_iff_ne] at *)
        · refine ⟨⟨k + 1, ?_, ?_, by go_num, by omega⟩, by simp [Lib.intOf]; omega⟩
          · rw [S1.out (by omega)]; rfl
          · rw [S3.out (by omega)]
        · refine ⟨⟨k + 1, ?_, ?_, by go_num, by omega⟩, by simp [Lib.intOf]; omega⟩
          · rw [S2.out (by omega)]
          · rw [S4.out (by omega)]
      · have hge' : ¬ (k : Int) < (p : Int) := by omega
        obtain ⟨lb1, lb2⟩ := lb
        go_wp2_with fail
        go_ret2
        have e : k = p := by omega
        subst e
        refine ⟨?_, rfl⟩
        rw [HR.out]; rfl
  · have e : p = l.length := by rw [HC.out, if_neg (by omega), if_neg (by omega)]
    have q0 : ¬ x < 0 := by omega
    have q1 : x > (l.length : Int) := by omega
    subst e
    go_wp2_with fail
    go_loop [6, 7, 8] (fun a b c => ∃ k : Nat, a = .int .i64 (Lx.line l k : Int) ∧ b = .int .i64 (Lx.last l k) ∧ c = .int .i64 (k : Int) ∧ k ≤ l.length) (fun _ _ c => l.length - (Lib.intOf c).toNat)
    case atStart => exact ⟨0, by rw [Lx.line_zero]; rfl, by rw [Lx.last_zero], rfl, Nat.zero_le _⟩
    case round =>
      obtain ⟨k, rfl, rfl, rfl, hk⟩ := hrel
      have lb := Lx.last_bounds l k
      have ll : Lx.line l k ≤ 1 + l.length := by unfold Lx.line; have := List.count_le_length (a := (10 : UInt8)) (l := l.take k); rw [List.length_take] at this; omega
      rcases Nat.lt_or_ge k l.length with hlt | hge
      · have hlt' : (k : Int) < (l.length : Int) := by omega
        have hkl : (k : Int) < (l.length : Int) := by omega
        have hkn : k < l.length := by omega
        have S1 := hideP (fun h => Lx.line_hit (l := l) (k := k) hkn h)
        have S2 := hideP (fun h => Lx.line_miss (l := l) (k := k) hkn h)
        have S3 := hideP (fun h => Lx.last_hit (l := l) (k := k) hkn h)
        have S4 := hideP (fun h => Lx.last_miss (l := l) (k := k) hkn h)
        have hg : ∀ h, ((⟨l.toArray⟩ : ByteArray)[k]'h).toNat = l[k].toNat := fun _ => rfl
        generalize hx : l[k].toNat = z at *
        simp only [hx] at hg
        go_wp2_with fail
        all_goals (try simp only [beq_iff_eq] at *)
        all_goals (try simp only [beq_eq_false_iff_ne] at *)
        · refine ⟨⟨k + 1, ?_, ?_, by go_num, by omega⟩, by simp [Lib.intOf]; omega⟩
          · rw [S1.out (by omega)]; rfl
          · rw [S3.out (by omega)]
        · refine ⟨⟨k + 1, ?_, ?_, by go_num, by omega⟩, by simp [Lib.intOf]; omega⟩
          · rw [S2.out (by omega)]
          · rw [S4.out (by omega)]
      · have hge' : ¬ (k : Int) < (l.length : Int) := by omega
        obtain ⟨lb1, lb2⟩ := lb
        go_wp2_with fail
        go_ret2
        have e : k = l.length := by omega
        subst e
        refine ⟨?_, rfl⟩
        rw [HR.out]; rfl
end Go.Proofs.YtoahcaocgpgceaaDoor
