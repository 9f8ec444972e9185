/-
  The mathematics of layer 9: lists of arguments and literals, one more at a time. No program in this text.
-/
import Derived.Test.YtcogjphoceaejaaDoorSk
namespace Go.Proofs.YtcogjphoceaejaaDoor
namespace Sh
open Lx Ps

def sep (k : Nat) : List UInt8 := if k = 0 then [] else [44, 32]
theorem args_snoc : ∀ {ts : List Tm} {m x : List UInt8} {t : Tm}, argsS ts = some m → termS t = some x → argsS (ts ++ [t]) = some (m ++ (sep ts.length ++ x))
  | [], m, x, t, h, k => by
    have h0 : some ([] : List UInt8) = some m := h
    obtain rfl := Option.some.inj h0
    show termS t = _
    rw [k]; rfl
  | [u], m, x, t, h, k => by
    show (termS u).bind _ = _
    rw [show termS u = some m from h, Option.bind_some, show argsS [t] = some x from k]; rfl
  | u :: v :: r, m, x, t, h, k => by
    rw [argsS] at h
    obtain ⟨y, hy, h⟩ := Option.bind_eq_some_iff.1 h
    obtain ⟨z, hz, rfl⟩ := Option.map_eq_some_iff.1 h
    have ih := args_snoc hz k
    show (termS u).bind (fun s => (argsS ((v :: r) ++ [t])).map fun x => s ++ (44 :: 32 :: x)) = _
    rw [hy, Option.bind_some, ih]
    simp [sep]
theorem lits_snoc : ∀ {ts : List Lt} {m x : List UInt8} {t : Lt}, litsS ts = some m → litS t = some x → litsS (ts ++ [t]) = some (m ++ (sep ts.length ++ x))
  | [], m, x, t, h, k => by
    have h0 : some ([] : List UInt8) = some m := h
    obtain rfl := Option.some.inj h0
    show litS t = _
    rw [k]; rfl
  | [u], m, x, t, h, k => by
    show (litS u).bind _ = _
    rw [show litS u = some m from h, Option.bind_some, show litsS [t] = some x from k]; rfl
  | u :: v :: r, m, x, t, h, k => by
    rw [litsS] at h
    obtain ⟨y, hy, h⟩ := Option.bind_eq_some_iff.1 h
    obtain ⟨z, hz, rfl⟩ := Option.map_eq_some_iff.1 h
    have ih := lits_snoc hz k
    show (litS u).bind (fun s => (litsS ((v :: r) ++ [t])).map fun x => s ++ (44 :: 32 :: x)) = _
    rw [hy, Option.bind_some, ih]
    simp [sep]
theorem all_snoc : ∀ {ts : List Ru} {m x : List UInt8} {t : Ru}, allS ts = some m → ruleS t = some x → allS (ts ++ [t]) = some (m ++ (x ++ [10]))
  | [], m, x, t, h, k => by
    have h0 : some ([] : List UInt8) = some m := h
    obtain rfl := Option.some.inj h0
    show (ruleS t).bind _ = _
    rw [k]; rfl
  | u :: r, m, x, t, h, k => by
    rw [allS] at h
    obtain ⟨y, hy, h⟩ := Option.bind_eq_some_iff.1 h
    obtain ⟨z, hz, rfl⟩ := Option.map_eq_some_iff.1 h
    have ih := all_snoc hz k
    show (ruleS u).bind (fun s => (allS (r ++ [t])).map fun x => s ++ (10 :: x)) = _
    rw [hy, Option.bind_some, ih]
    simp
theorem all_none : ∀ {l : List Ru} {r : Ru}, r ∈ l → ruleS r = none → allS l = none
  | u :: l, r, h, k => by
    rw [allS]
    rcases List.mem_cons.1 h with rfl | h
    · rw [k]; rfl
    · rw [all_none h k]; cases ruleS u <;> rfl
/-- what a rule's text is made of -/
theorem rule_parts {r : Ru} {s : List UInt8} (h : ruleS r = some s) : ∃ a x t m, 1 ≤ r.body.length ∧ r.body.length ≤ 4 ∧ termS r.home = some a ∧ atomS r.pred r.args = some x ∧ maybeS [32, 116, 111, 32] r.to_ [] = some t ∧ litsS r.body = some m ∧ s = a ++ (58 :: 32 :: (x ++ (t ++ (32 :: 58 :: 45 :: 32 :: (m ++ [46]))))) := by
  unfold ruleS at h
  split at h
  · rename_i h0
    obtain ⟨x, hx, h⟩ := Option.bind_eq_some_iff.1 h
    obtain ⟨y, hy, h⟩ := Option.bind_eq_some_iff.1 h
    obtain ⟨z, hz, h⟩ := Option.bind_eq_some_iff.1 h
    obtain ⟨b, hb, rfl⟩ := Option.map_eq_some_iff.1 h
    exact ⟨x, y, z, b, h0.1, h0.2, hx, hy, hz, hb, rfl⟩
  · cases h
theorem lit_parts {l : Lt} {s : List UInt8} (h : litS l = some s) : ∃ b x a, maybeS [] l.by_ [32, 115, 97, 121, 115, 32] = some b ∧ atomS l.pred l.args = some x ∧ maybeS [32, 97, 116, 32] l.at_ [] = some a ∧ s = b ++ (x ++ a) := by
  unfold litS at h
  obtain ⟨x, hx, h⟩ := Option.bind_eq_some_iff.1 h
  obtain ⟨y, hy, h⟩ := Option.bind_eq_some_iff.1 h
  obtain ⟨z, hz, rfl⟩ := Option.map_eq_some_iff.1 h
  exact ⟨x, y, z, hx, hy, hz, rfl⟩
theorem atom_parts {p : List UInt8} {ts : List Tm} {s : List UInt8} (h : atomS p ts = some s) : ∃ m, wordB p = true ∧ ts.length ≤ 4 ∧ argsS ts = some m ∧ s = p ++ (40 :: (m ++ [41])) := by
  unfold atomS at h
  split at h
  · rename_i h0
    obtain ⟨b, hb, rfl⟩ := Option.map_eq_some_iff.1 h
    exact ⟨b, h0.1, h0.2, hb, rfl⟩
  · cases h
theorem args_each {ts : List Tm} {m : List UInt8} (h : argsS ts = some m) {t : Tm} (ht : t ∈ ts) : ∃ x, termS t = some x := by
  have := args_some ts
  rw [h] at this
  exact Option.isSome_iff_exists.1 (List.all_eq_true.1 this.symm t ht)
theorem lits_each {ts : List Lt} {m : List UInt8} (h : litsS ts = some m) {t : Lt} (ht : t ∈ ts) : ∃ x, litS t = some x := by
  have := lits_some ts
  rw [h] at this
  have h1 := List.all_eq_true.1 this.symm t ht
  rw [← lit_some] at h1
  exact Option.isSome_iff_exists.1 h1
end Sh
end Go.Proofs.YtcogjphoceaejaaDoor
