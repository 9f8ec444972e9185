/-
  The mathematics of layer 9: one token and nothing beside it; how long shown texts are; what the reference's digits are. No program in this text.
-/
import Derived.Test.YtefajadolgmpdaaGreatDoorQSj
namespace Go.Proofs.YtefajadolgmpdaaGreatDoor
namespace Sh
open Lx Ps

def isTok (l : List UInt8) (k : Int) (own : List UInt8) : Bool :=
  match toks (ans l) with
  | [t] => (t.kind == k) && (t.text == own)
  | _ => false
theorem ans_one {s : List UInt8} {t : Tok} (h : one s 0 = some (t, s.length)) (h0 : 0 < s.length) (hl : t.text.length ≤ 32) (hs : s.length ≤ 4096) : ans s = .ok [t] := by
  have hf := one_first h0 h
  have e0 : skip s 0 = 0 := by unfold skip; exact skipN_stop h0 hf.1 hf.2
  have e1 : skip s s.length = s.length := by unfold skip; exact skipN_end (Nat.le_refl _)
  unfold ans
  rw [if_neg (by omega), e0, tks_cons h0 h (by omega), e1, tks_end (Nat.le_refl _)]; rfl
theorem isTok_inv {l own : List UInt8} {k : Int} (h : isTok l k own = true) : ∃ t, t.kind = k ∧ t.text = own ∧ TokOk t := by
  unfold isTok at h
  cases ha : ans l with
  | error x => rw [ha] at h; simp [toks] at h
  | ok L =>
    rw [ha] at h
    simp only [toks] at h
    split at h
    · rename_i t
      simp only [Bool.and_eq_true, beq_iff_eq] at h
      refine ⟨t, h.1, h.2, ?_⟩
      unfold ans at ha
      split at ha
      · cases ha
      · exact tks_ok _ _ ha t (by simp)
    · cases h
theorem isTok_one {s own : List UInt8} {k : Int} {t : Tok} (h : ans s = .ok [t]) (hk : t.kind = k) (ht : t.text = own) : isTok s k own = true := by
  unfold isTok; rw [h]; simp [toks, hk, ht]
theorem bool_eq {a b : Bool} (h1 : a = true → b = true) (h2 : b = true → a = true) : a = b := by
  cases a <;> cases b <;> simp_all
theorem tok_word (s : List UInt8) : isTok s 1 s = namedB small s := by
  refine bool_eq (fun h => ?_) (fun h => ?_)
  · obtain ⟨t, h1, h2, h3⟩ := isTok_inv h
    have := h3.w h1; rwa [h2] at this
  · have hn := named_len h
    exact isTok_one (ans_one (one_word h) hn.1 hn.2 (by omega)) rfl rfl
theorem tok_var (s : List UInt8) : isTok s 2 s = namedB great s := by
  refine bool_eq (fun h => ?_) (fun h => ?_)
  · obtain ⟨t, h1, h2, h3⟩ := isTok_inv h
    have := h3.v h1; rwa [h2] at this
  · have hn := named_len h
    exact isTok_one (ans_one (one_var h) hn.1 hn.2 (by omega)) rfl rfl
theorem tok_quote {s : List UInt8} (hs : s.length ≤ 32) : isTok (34 :: (s ++ [34])) 4 s = s.all plain := by
  refine bool_eq (fun h => ?_) (fun h => ?_)
  · obtain ⟨t, h1, h2, h3⟩ := isTok_inv h
    have := (h3.q h1).2; rw [h2] at this
    simpa using this
  · rw [List.all_eq_true] at h
    exact isTok_one (ans_one (one_quote h) (by simp) hs (by simp; omega)) rfl rfl

/-! what can be shown -/
def canT (t : Tm) : Bool := (termS t).isSome
def canM (t : Tm) : Bool := noneT t || canT t
def canA (p : List UInt8) (ts : List Tm) : Bool := wordB p && decide (ts.length ≤ 4) && ts.all canT
def canL (l : Lt) : Bool := canM l.by_ && canA l.pred l.args && canM l.at_
def canR (r : Ru) : Bool := canT r.home && canA r.pred r.args && canM r.to_ && decide (1 ≤ r.body.length) && decide (r.body.length ≤ 4) && r.body.all canL
theorem canT_eq (t : Tm) : canT t = if t.v ≠ [] then (zk t.k && isTok t.v 2 t.v) else if t.k.num = true then t.k.s.isEmpty else decide (t.k.n = 0) && plainB t.k.s := by
  unfold canT termS
  rw [tok_var]
  by_cases h1 : t.v ≠ []
  · rw [if_pos h1, if_pos h1]
    cases zk t.k && namedB great t.v <;> rfl
  · rw [if_neg h1, if_neg h1]
    by_cases h2 : t.k.num = true
    · rw [if_pos h2, if_pos h2]
      cases t.k.s <;> simp
    · rw [if_neg h2, if_neg h2]
      by_cases h3 : t.k.n = 0 ∧ plainB t.k.s = true
      · rw [if_pos h3]
        simp only [h3.1, h3.2, decide_true, Bool.and_true]
        split <;> rfl
      · rw [if_neg h3]
        by_cases h4 : t.k.n = 0
        · have : plainB t.k.s = false := by
            rw [Bool.eq_false_iff]; exact fun h => h3 ⟨h4, h⟩
          simp [this]
        · simp [h4]
theorem maybe_some (a : List UInt8) (t : Tm) (b : List UInt8) : (maybeS a t b).isSome = canM t := by
  unfold maybeS canM
  cases noneT t with
  | true => rfl
  | false => simp [canT]
theorem args_some : ∀ ts : List Tm, (argsS ts).isSome = ts.all canT
  | [] => rfl
  | [t] => by simp [argsS, canT]
  | t :: u :: r => by
    have ih := args_some (u :: r)
    rw [argsS, List.all_cons, ← ih, canT]
    cases termS t <;> simp
theorem atom_some (p : List UInt8) (ts : List Tm) : (atomS p ts).isSome = canA p ts := by
  unfold atomS canA
  by_cases h : wordB p = true ∧ ts.length ≤ 4
  · rw [if_pos h, ← args_some]; simp [h.1, h.2]
  · rw [if_neg h]
    by_cases h1 : wordB p = true
    · have : ¬ ts.length ≤ 4 := fun h2 => h ⟨h1, h2⟩
      simp [this]
    · simp [h1]
theorem lit_some (l : Lt) : (litS l).isSome = canL l := by
  unfold litS canL
  rw [← maybe_some [] l.by_ [32, 115, 97, 121, 115, 32], ← atom_some, ← maybe_some [32, 97, 116, 32] l.at_ []]
  cases maybeS [] l.by_ [32, 115, 97, 121, 115, 32] <;> cases atomS l.pred l.args <;> simp
theorem lits_some : ∀ ls : List Lt, (litsS ls).isSome = ls.all canL
  | [] => rfl
  | [t] => by simp [litsS, lit_some]
  | t :: u :: r => by
    have ih := lits_some (u :: r)
    rw [litsS, List.all_cons, ← ih, ← lit_some]
    cases litS t <;> simp
theorem rule_some (r : Ru) : (ruleS r).isSome = canR r := by
  unfold ruleS canR
  by_cases h : 1 ≤ r.body.length ∧ r.body.length ≤ 4
  · rw [if_pos h]
    simp only [h.1, h.2, decide_true, Bool.and_true]
    rw [← maybe_some [32, 116, 111, 32] r.to_ [], ← atom_some, ← lits_some, canT]
    cases termS r.home <;> cases atomS r.pred r.args <;> cases maybeS [32, 116, 111, 32] r.to_ [] <;> simp
  · rw [if_neg h]
    by_cases h1 : 1 ≤ r.body.length
    · have : ¬ r.body.length ≤ 4 := fun h2 => h ⟨h1, h2⟩
      simp [this]
    · simp [h1]

/-! how long shown texts are -/
theorem itoa_len {n : Int} (h : -9223372036854775808 ≤ n ∧ n ≤ 9223372036854775807) : (Go.Lib.itoa n).length ≤ 20 := by
  have hd : ∀ (k u : Nat), u < 10 ^ (k + 1) → (Go.Lib.decDigits u).length ≤ k + 1 := by
    intro k
    induction k with
    | zero => intro u hu; rw [Go.Lib.decDigits, dif_pos (by omega)]; simp
    | succ k ih =>
      intro u hu
      rw [Go.Lib.decDigits]
      split
      · simp
      · rw [List.length_append]
        have := ih (u / 10) (by rw [Nat.pow_succ] at hu; omega)
        simp; omega
  unfold Go.Lib.itoa
  split
  · have := hd 18 n.natAbs (by omega)
    simp; omega
  · have := hd 18 n.toNat (by omega)
    omega
theorem term_len {t : Tm} {s : List UInt8} (hi : KIn t) (h : termS t = some s) : s.length ≤ 34 := by
  unfold termS at h
  split at h
  · split at h
    · rename_i h2
      simp only [Bool.and_eq_true] at h2
      have := named_len h2.2
      cases h; omega
    · cases h
  · split at h
    · split at h
      · cases h; have := itoa_len hi; omega
      · cases h
    · split at h
      · rename_i h3
        have h3 := h3.2
        unfold plainB at h3
        simp only [Bool.and_eq_true, decide_eq_true_eq] at h3
        split at h
        · cases h; omega
        · cases h; simp; omega
      · cases h
theorem maybe_len {t : Tm} {a b s : List UInt8} (hi : KIn t) (h : maybeS a t b = some s) : s.length ≤ a.length + b.length + 34 := by
  unfold maybeS at h
  split at h
  · cases h; simp
  · rw [Option.map_eq_some_iff] at h
    obtain ⟨x, hx, rfl⟩ := h
    have := term_len hi hx
    simp; omega
theorem args_len : ∀ {ts : List Tm} {s : List UInt8}, (∀ t ∈ ts, KIn t) → argsS ts = some s → s.length ≤ 36 * ts.length
  | [], s, _, h => by cases h; simp
  | [t], s, hi, h => by have := term_len (hi t (by simp)) h; simp; omega
  | t :: u :: r, s, hi, h => by
    rw [argsS] at h
    obtain ⟨x, hx, h⟩ := Option.bind_eq_some_iff.1 h
    obtain ⟨y, hy, rfl⟩ := Option.map_eq_some_iff.1 h
    have h1 := term_len (hi t (by simp)) hx
    have h2 := args_len (fun v hv => hi v (List.mem_cons_of_mem _ hv)) hy
    simp only [List.length_append, List.length_cons] at *; omega
theorem word_len {p : List UInt8} (h : wordB p = true) : p.length ≤ 32 := (named_len (word_named h).1).2
theorem atom_len {p : List UInt8} {ts : List Tm} {s : List UInt8} (hi : ∀ t ∈ ts, KIn t) (h : atomS p ts = some s) : s.length ≤ 178 := by
  unfold atomS at h
  split at h
  · rename_i h1
    obtain ⟨y, hy, rfl⟩ := Option.map_eq_some_iff.1 h
    have h2 := args_len hi hy
    have h3 := word_len h1.1
    have h4 := h1.2
    simp only [List.length_append, List.length_cons, List.length_nil]; omega
  · cases h
theorem lit_len {l : Lt} {s : List UInt8} (hi : LIn l) (h : litS l = some s) : s.length ≤ 256 := by
  unfold litS at h
  obtain ⟨x, hx, h⟩ := Option.bind_eq_some_iff.1 h
  obtain ⟨y, hy, h⟩ := Option.bind_eq_some_iff.1 h
  obtain ⟨z, hz, rfl⟩ := Option.map_eq_some_iff.1 h
  have h1 := maybe_len hi.1 hx
  have h2 := atom_len hi.2.1 hy
  have h3 := maybe_len hi.2.2 hz
  simp only [List.length_append, List.length_cons, List.length_nil] at *; omega
theorem lits_len : ∀ {ts : List Lt} {s : List UInt8}, (∀ t ∈ ts, LIn t) → litsS ts = some s → s.length ≤ 258 * ts.length
  | [], s, _, h => by cases h; simp
  | [t], s, hi, h => by have := lit_len (hi t (by simp)) h; simp; omega
  | t :: u :: r, s, hi, h => by
    rw [litsS] at h
    obtain ⟨x, hx, h⟩ := Option.bind_eq_some_iff.1 h
    obtain ⟨y, hy, rfl⟩ := Option.map_eq_some_iff.1 h
    have h1 := lit_len (hi t (by simp)) hx
    have h2 := lits_len (fun v hv => hi v (List.mem_cons_of_mem _ hv)) hy
    simp only [List.length_append, List.length_cons] at *; omega
theorem rule_len {r : Ru} {s : List UInt8} (hi : RIn r) (h : ruleS r = some s) : s.length ≤ 1300 := by
  unfold ruleS at h
  split at h
  · rename_i h0
    obtain ⟨x, hx, h⟩ := Option.bind_eq_some_iff.1 h
    obtain ⟨y, hy, h⟩ := Option.bind_eq_some_iff.1 h
    obtain ⟨z, hz, h⟩ := Option.bind_eq_some_iff.1 h
    obtain ⟨b, hb, rfl⟩ := Option.map_eq_some_iff.1 h
    have h1 := term_len hi.1 hx
    have h2 := atom_len hi.2.1 hy
    have h3 := maybe_len hi.2.2.1 hz
    have h4 := lits_len hi.2.2.2 hb
    have h5 := h0.2
    simp only [List.length_append, List.length_cons, List.length_nil] at *; omega
  · cases h
theorem all_len : ∀ {l : List Ru} {s : List UInt8}, (∀ r ∈ l, RIn r) → allS l = some s → s.length ≤ 1301 * l.length
  | [], s, _, h => by cases h; simp
  | t :: r, s, hi, h => by
    rw [allS] at h
    obtain ⟨x, hx, h⟩ := Option.bind_eq_some_iff.1 h
    obtain ⟨y, hy, rfl⟩ := Option.map_eq_some_iff.1 h
    have h1 := rule_len (hi t (by simp)) hx
    have h2 := all_len (fun v hv => hi v (List.mem_cons_of_mem _ hv)) hy
    simp only [List.length_append, List.length_cons] at *; omega
end Sh
end Go.Proofs.YtefajadolgmpdaaGreatDoor

/-
  The mathematics of layer 9: lists of arguments and literals, one more at a time. No program in this text.
-/
namespace Go.Proofs.YtefajadolgmpdaaGreatDoor
namespace Sh
open Lx Ps

def sep (k : Nat) : List UInt8 := if k = 0 then [] else [44, 32]
theorem args_snoc : ∀ {ts : List Tm} {m x : List UInt8} {t : Tm}, argsS ts = some m → termS t = some x → argsS (ts ++ [t]) = some (m ++ (sep ts.length ++ x))
  | [], m, x, t, h, k => by
    have h0 : some ([] : List UInt8) = some m := h
    obtain rfl := Option.some.inj h0
    show termS t = _
    rw [k]; rfl
  | [u], m, x, t, h, k => by
    show (termS u).bind _ = _
    rw [show termS u = some m from h, Option.bind_some, show argsS [t] = some x from k]; rfl
  | u :: v :: r, m, x, t, h, k => by
    rw [argsS] at h
    obtain ⟨y, hy, h⟩ := Option.bind_eq_some_iff.1 h
    obtain ⟨z, hz, rfl⟩ := Option.map_eq_some_iff.1 h
    have ih := args_snoc hz k
    show (termS u).bind (fun s => (argsS ((v :: r) ++ [t])).map fun x => s ++ (44 :: 32 :: x)) = _
    rw [hy, Option.bind_some, ih]
    simp [sep]
theorem lits_snoc : ∀ {ts : List Lt} {m x : List UInt8} {t : Lt}, litsS ts = some m → litS t = some x → litsS (ts ++ [t]) = some (m ++ (sep ts.length ++ x))
  | [], m, x, t, h, k => by
    have h0 : some ([] : List UInt8) = some m := h
    obtain rfl := Option.some.inj h0
    show litS t = _
    rw [k]; rfl
  | [u], m, x, t, h, k => by
    show (litS u).bind _ = _
    rw [show litS u = some m from h, Option.bind_some, show litsS [t] = some x from k]; rfl
  | u :: v :: r, m, x, t, h, k => by
    rw [litsS] at h
    obtain ⟨y, hy, h⟩ := Option.bind_eq_some_iff.1 h
    obtain ⟨z, hz, rfl⟩ := Option.map_eq_some_iff.1 h
    have ih := lits_snoc hz k
    show (litS u).bind (fun s => (litsS ((v :: r) ++ [t])).map fun x => s ++ (44 :: 32 :: x)) = _
    rw [hy, Option.bind_some, ih]
    simp [sep]
theorem all_snoc : ∀ {ts : List Ru} {m x : List UInt8} {t : Ru}, allS ts = some m → ruleS t = some x → allS (ts ++ [t]) = some (m ++ (x ++ [10]))
  | [], m, x, t, h, k => by
    have h0 : some ([] : List UInt8) = some m := h
    obtain rfl := Option.some.inj h0
    show (ruleS t).bind _ = _
    rw [k]; rfl
  | u :: r, m, x, t, h, k => by
    rw [allS] at h
    obtain ⟨y, hy, h⟩ := Option.bind_eq_some_iff.1 h
    obtain ⟨z, hz, rfl⟩ := Option.map_eq_some_iff.1 h
    have ih := all_snoc hz k
    show (ruleS u).bind (fun s => (allS (r ++ [t])).map fun x => s ++ (10 :: x)) = _
    rw [hy, Option.bind_some, ih]
    simp
theorem all_none : ∀ {l : List Ru} {r : Ru}, r ∈ l → ruleS r = none → allS l = none
  | u :: l, r, h, k => by
    rw [allS]
    rcases List.mem_cons.1 h with rfl | h
    · rw [k]; rfl
    · rw [all_none h k]; cases ruleS u <;> rfl
/-- what a rule's text is made of -/
theorem rule_parts {r : Ru} {s : List UInt8} (h : ruleS r = some s) : ∃ a x t m, 1 ≤ r.body.length ∧ r.body.length ≤ 4 ∧ termS r.home = some a ∧ atomS r.pred r.args = some x ∧ maybeS [32, 116, 111, 32] r.to_ [] = some t ∧ litsS r.body = some m ∧ s = a ++ (58 :: 32 :: (x ++ (t ++ (32 :: 58 :: 45 :: 32 :: (m ++ [46]))))) := by
  unfold ruleS at h
  split at h
  · rename_i h0
    obtain ⟨x, hx, h⟩ := Option.bind_eq_some_iff.1 h
    obtain ⟨y, hy, h⟩ := Option.bind_eq_some_iff.1 h
    obtain ⟨z, hz, h⟩ := Option.bind_eq_some_iff.1 h
    obtain ⟨b, hb, rfl⟩ := Option.map_eq_some_iff.1 h
    exact ⟨x, y, z, b, h0.1, h0.2, hx, hy, hz, hb, rfl⟩
  · cases h
theorem lit_parts {l : Lt} {s : List UInt8} (h : litS l = some s) : ∃ b x a, maybeS [] l.by_ [32, 115, 97, 121, 115, 32] = some b ∧ atomS l.pred l.args = some x ∧ maybeS [32, 97, 116, 32] l.at_ [] = some a ∧ s = b ++ (x ++ a) := by
  unfold litS at h
  obtain ⟨x, hx, h⟩ := Option.bind_eq_some_iff.1 h
  obtain ⟨y, hy, h⟩ := Option.bind_eq_some_iff.1 h
  obtain ⟨z, hz, rfl⟩ := Option.map_eq_some_iff.1 h
  exact ⟨x, y, z, hx, hy, hz, rfl⟩
theorem atom_parts {p : List UInt8} {ts : List Tm} {s : List UInt8} (h : atomS p ts = some s) : ∃ m, wordB p = true ∧ ts.length ≤ 4 ∧ argsS ts = some m ∧ s = p ++ (40 :: (m ++ [41])) := by
  unfold atomS at h
  split at h
  · rename_i h0
    obtain ⟨b, hb, rfl⟩ := Option.map_eq_some_iff.1 h
    exact ⟨b, h0.1, h0.2, hb, rfl⟩
  · cases h
theorem args_each {ts : List Tm} {m : List UInt8} (h : argsS ts = some m) {t : Tm} (ht : t ∈ ts) : ∃ x, termS t = some x := by
  have := args_some ts
  rw [h] at this
  exact Option.isSome_iff_exists.1 (List.all_eq_true.1 this.symm t ht)
theorem lits_each {ts : List Lt} {m : List UInt8} (h : litsS ts = some m) {t : Lt} (ht : t ∈ ts) : ∃ x, litS t = some x := by
  have := lits_some ts
  rw [h] at this
  have h1 := List.all_eq_true.1 this.symm t ht
  rw [← lit_some] at h1
  exact Option.isSome_iff_exists.1 h1
end Sh
end Go.Proofs.YtefajadolgmpdaaGreatDoor
