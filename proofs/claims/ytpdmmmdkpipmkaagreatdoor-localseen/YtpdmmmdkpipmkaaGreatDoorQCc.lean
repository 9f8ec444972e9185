/-
  The mathematics of layer 9: one token and nothing beside it; how long shown texts are; what the reference's digits are. No program in this text.
-/
import Derived.Test.YtpdmmmdkpipmkaaGreatDoorQSj
import Derived.Test.YtpdmmmdkpipmkaaGreatDoorQPa
namespace Go.Proofs.YtpdmmmdkpipmkaaGreatDoor
namespace Sh
open Lx Ps

def isTok (l : List UInt8) (k : Int) (own : List UInt8) : Bool :=
  match toks (ans l) with
  | [t] => (t.kind == k) && (t.text == own)
  | _ => false
theorem ans_one {s : List UInt8} {t : Tok} (h : one s 0 = some (t, s.length)) (h0 : 0 < s.length) (hl : t.text.length ≤ 32) (hs : s.length ≤ 4096) : ans s = .ok [t] := by
  have hf := one_first h0 h
  have e0 : skip s 0 = 0 := by unfold skip; exact skipN_stop h0 hf.1 hf.2
  have e1 : skip s s.length = s.length := by unfold skip; exact skipN_end (Nat.le_refl _)
  unfold ans
  rw [if_neg (by omega), e0, tks_cons h0 h (by omega), e1, tks_end (Nat.le_refl _)]; rfl
theorem isTok_inv {l own : List UInt8} {k : Int} (h : isTok l k own = true) : ∃ t, t.kind = k ∧ t.text = own ∧ TokOk t := by
  unfold isTok at h
  cases ha : ans l with
  | error x => rw [ha] at h; simp [toks] at h
  | ok L =>
    rw [ha] at h
    simp only [toks] at h
    split at h
    · rename_i t
      simp only [Bool.and_eq_true, beq_iff_eq] at h
      refine ⟨t, h.1, h.2, ?_⟩
      unfold ans at ha
      split at ha
      · cases ha
      · exact tks_ok _ _ ha t (by simp)
    · cases h
theorem isTok_one {s own : List UInt8} {k : Int} {t : Tok} (h : ans s = .ok [t]) (hk : t.kind = k) (ht : t.text = own) : isTok s k own = true := by
  unfold isTok; rw [h]; simp [toks, hk, ht]
theorem bool_eq {a b : Bool} (h1 : a = true → b = true) (h2 : b = true → a = true) : a = b := by
  cases a <;> cases b <;> simp_all
theorem tok_word (s : List UInt8) : isTok s 1 s = namedB small s := by
  refine bool_eq (fun h => ?_) (fun h => ?_)
  · obtain ⟨t, h1, h2, h3⟩ := isTok_inv h
    have := h3.w h1; rwa [h2] at this
  · have hn := named_len h
    exact isTok_one (ans_one (one_word h) hn.1 hn.2 (by omega)) rfl rfl
theorem tok_var (s : List UInt8) : isTok s 2 s = namedB great s := by
  refine bool_eq (fun h => ?_) (fun h => ?_)
  · obtain ⟨t, h1, h2, h3⟩ := isTok_inv h
    have := h3.v h1; rwa [h2] at this
  · have hn := named_len h
    exact isTok_one (ans_one (one_var h) hn.1 hn.2 (by omega)) rfl rfl
theorem tok_quote {s : List UInt8} (hs : s.length ≤ 32) : isTok (34 :: (s ++ [34])) 4 s = s.all plain := by
  refine bool_eq (fun h => ?_) (fun h => ?_)
  · obtain ⟨t, h1, h2, h3⟩ := isTok_inv h
    have := (h3.q h1).2; rw [h2] at this
    simpa using this
  · rw [List.all_eq_true] at h
    exact isTok_one (ans_one (one_quote h) (by simp) hs (by simp; omega)) rfl rfl

/-! what can be shown -/
def canT (t : Tm) : Bool := (termS t).isSome
def canM (t : Tm) : Bool := noneT t || canT t
def canA (p : List UInt8) (ts : List Tm) : Bool := wordB p && decide (ts.length ≤ 4) && ts.all canT
def canL (l : Lt) : Bool := canM l.by_ && canA l.pred l.args && canM l.at_
def canR (r : Ru) : Bool := canT r.home && canA r.pred r.args && canM r.to_ && decide (1 ≤ r.body.length) && decide (r.body.length ≤ 4) && r.body.all canL
theorem canT_eq (t : Tm) : canT t = if t.v ≠ [] then (zk t.k && isTok t.v 2 t.v) else if t.k.num = true then t.k.s.isEmpty else decide (t.k.n = 0) && plainB t.k.s := by
  unfold canT termS
  rw [tok_var]
  by_cases h1 : t.v ≠ []
  · rw [if_pos h1, if_pos h1]
    cases zk t.k && namedB great t.v <;> rfl
  · rw [if_neg h1, if_neg h1]
    by_cases h2 : t.k.num = true
    · rw [if_pos h2, if_pos h2]
      cases t.k.s <;> simp
    · rw [if_neg h2, if_neg h2]
      by_cases h3 : t.k.n = 0 ∧ plainB t.k.s = true
      · rw [if_pos h3]
        simp only [h3.1, h3.2, decide_true, Bool.and_true]
        split <;> rfl
      · rw [if_neg h3]
        by_cases h4 : t.k.n = 0
        · have : plainB t.k.s = false := by
            rw [Bool.eq_false_iff]; exact fun h => h3 ⟨h4, h⟩
          simp [this]
        · simp [h4]
theorem maybe_some (a : List UInt8) (t : Tm) (b : List UInt8) : (maybeS a t b).isSome = canM t := by
  unfold maybeS canM
  cases noneT t with
  | true => rfl
  | false => simp [canT]
theorem args_some : ∀ ts : List Tm, (argsS ts).isSome = ts.all canT
  | [] => rfl
  | [t] => by simp [argsS, canT]
  | t :: u :: r => by
    have ih := args_some (u :: r)
    rw [argsS, List.all_cons, ← ih, canT]
    cases termS t <;> simp
theorem atom_some (p : List UInt8) (ts : List Tm) : (atomS p ts).isSome = canA p ts := by
  unfold atomS canA
  by_cases h : wordB p = true ∧ ts.length ≤ 4
  · rw [if_pos h, ← args_some]; simp [h.1, h.2]
  · rw [if_neg h]
    by_cases h1 : wordB p = true
    · have : ¬ ts.length ≤ 4 := fun h2 => h ⟨h1, h2⟩
      simp [this]
    · simp [h1]
theorem lit_some (l : Lt) : (litS l).isSome = canL l := by
  unfold litS canL
  rw [← maybe_some [] l.by_ [32, 115, 97, 121, 115, 32], ← atom_some, ← maybe_some [32, 97, 116, 32] l.at_ []]
  cases maybeS [] l.by_ [32, 115, 97, 121, 115, 32] <;> cases atomS l.pred l.args <;> simp
theorem lits_some : ∀ ls : List Lt, (litsS ls).isSome = ls.all canL
  | [] => rfl
  | [t] => by simp [litsS, lit_some]
  | t :: u :: r => by
    have ih := lits_some (u :: r)
    rw [litsS, List.all_cons, ← ih, ← lit_some]
    cases litS t <;> simp
theorem rule_some (r : Ru) : (ruleS r).isSome = canR r := by
  unfold ruleS canR
  by_cases h : 1 ≤ r.body.length ∧ r.body.length ≤ 4
  · rw [if_pos h]
    simp only [h.1, h.2, decide_true, Bool.and_true]
    rw [← maybe_some [32, 116, 111, 32] r.to_ [], ← atom_some, ← lits_some, canT]
    cases termS r.home <;> cases atomS r.pred r.args <;> cases maybeS [32, 116, 111, 32] r.to_ [] <;> simp
  · rw [if_neg h]
    by_cases h1 : 1 ≤ r.body.length
    · have : ¬ r.body.length ≤ 4 := fun h2 => h ⟨h1, h2⟩
      simp [this]
    · simp [h1]

/-! how long shown texts are -/
theorem itoa_len {n : Int} (h : -9223372036854775808 ≤ n ∧ n ≤ 9223372036854775807) : (Go.Lib.itoa n).length ≤ 20 := by
  have hd : ∀ (k u : Nat), u < 10 ^ (k + 1) → (Go.Lib.decDigits u).length ≤ k + 1 := by
    intro k
    induction k with
    | zero => intro u hu; rw [Go.Lib.decDigits, dif_pos (by omega)]; simp
    | succ k ih =>
      intro u hu
      rw [Go.Lib.decDigits]
      split
      · simp
      · rw [List.length_append]
        have := ih (u / 10) (by rw [Nat.pow_succ] at hu; omega)
        simp; omega
  unfold Go.Lib.itoa
  split
  · have := hd 18 n.natAbs (by omega)
    simp; omega
  · have := hd 18 n.toNat (by omega)
    omega
theorem term_len {t : Tm} {s : List UInt8} (hi : KIn t) (h : termS t = some s) : s.length ≤ 34 := by
  unfold termS at h
  split at h
  · split at h
    · rename_i h2
      simp only [Bool.and_eq_true] at h2
      have := named_len h2.2
      cases h; omega
    · cases h
  · split at h
    · split at h
      · cases h; have := itoa_len hi; omega
      · cases h
    · split at h
      · rename_i h3
        have h3 := h3.2
        unfold plainB at h3
        simp only [Bool.and_eq_true, decide_eq_true_eq] at h3
        split at h
        · cases h; omega
        · cases h; simp; omega
      · cases h
theorem maybe_len {t : Tm} {a b s : List UInt8} (hi : KIn t) (h : maybeS a t b = some s) : s.length ≤ a.length + b.length + 34 := by
  unfold maybeS at h
  split at h
  · cases h; simp
  · rw [Option.map_eq_some_iff] at h
    obtain ⟨x, hx, rfl⟩ := h
    have := term_len hi hx
    simp; omega
theorem args_len : ∀ {ts : List Tm} {s : List UInt8}, (∀ t ∈ ts, KIn t) → argsS ts = some s → s.length ≤ 36 * ts.length
  | [], s, _, h => by cases h; simp
  | [t], s, hi, h => by have := term_len (hi t (by simp)) h; simp; omega
  | t :: u :: r, s, hi, h => by
    rw [argsS] at h
    obtain ⟨x, hx, h⟩ := Option.bind_eq_some_iff.1 h
    obtain ⟨y, hy, rfl⟩ := Option.map_eq_some_iff.1 h
    have h1 := term_len (hi t (by simp)) hx
    have h2 := args_len (fun v hv => hi v (List.mem_cons_of_mem _ hv)) hy
    simp only [List.length_append, List.length_cons] at *; omega
theorem word_len {p : List UInt8} (h : wordB p = true) : p.length ≤ 32 := (named_len (word_named h).1).2
theorem atom_len {p : List UInt8} {ts : List Tm} {s : List UInt8} (hi : ∀ t ∈ ts, KIn t) (h : atomS p ts = some s) : s.length ≤ 178 := by
  unfold atomS at h
  split at h
  · rename_i h1
    obtain ⟨y, hy, rfl⟩ := Option.map_eq_some_iff.1 h
    have h2 := args_len hi hy
    have h3 := word_len h1.1
    have h4 := h1.2
    simp only [List.length_append, List.length_cons, List.length_nil]; omega
  · cases h
theorem lit_len {l : Lt} {s : List UInt8} (hi : LIn l) (h : litS l = some s) : s.length ≤ 256 := by
  unfold litS at h
  obtain ⟨x, hx, h⟩ := Option.bind_eq_some_iff.1 h
  obtain ⟨y, hy, h⟩ := Option.bind_eq_some_iff.1 h
  obtain ⟨z, hz, rfl⟩ := Option.map_eq_some_iff.1 h
  have h1 := maybe_len hi.1 hx
  have h2 := atom_len hi.2.1 hy
  have h3 := maybe_len hi.2.2 hz
  simp only [List.length_append, List.length_cons, List.length_nil] at *; omega
theorem lits_len : ∀ {ts : List Lt} {s : List UInt8}, (∀ t ∈ ts, LIn t) → litsS ts = some s → s.length ≤ 258 * ts.length
  | [], s, _, h => by cases h; simp
  | [t], s, hi, h => by have := lit_len (hi t (by simp)) h; simp; omega
  | t :: u :: r, s, hi, h => by
    rw [litsS] at h
    obtain ⟨x, hx, h⟩ := Option.bind_eq_some_iff.1 h
    obtain ⟨y, hy, rfl⟩ := Option.map_eq_some_iff.1 h
    have h1 := lit_len (hi t (by simp)) hx
    have h2 := lits_len (fun v hv => hi v (List.mem_cons_of_mem _ hv)) hy
    simp only [List.length_append, List.length_cons] at *; omega
theorem rule_len {r : Ru} {s : List UInt8} (hi : RIn r) (h : ruleS r = some s) : s.length ≤ 1300 := by
  unfold ruleS at h
  split at h
  · rename_i h0
    obtain ⟨x, hx, h⟩ := Option.bind_eq_some_iff.1 h
    obtain ⟨y, hy, h⟩ := Option.bind_eq_some_iff.1 h
    obtain ⟨z, hz, h⟩ := Option.bind_eq_some_iff.1 h
    obtain ⟨b, hb, rfl⟩ := Option.map_eq_some_iff.1 h
    have h1 := term_len hi.1 hx
    have h2 := atom_len hi.2.1 hy
    have h3 := maybe_len hi.2.2.1 hz
    have h4 := lits_len hi.2.2.2 hb
    have h5 := h0.2
    simp only [List.length_append, List.length_cons, List.length_nil] at *; omega
  · cases h
theorem all_len : ∀ {l : List Ru} {s : List UInt8}, (∀ r ∈ l, RIn r) → allS l = some s → s.length ≤ 1301 * l.length
  | [], s, _, h => by cases h; simp
  | t :: r, s, hi, h => by
    rw [allS] at h
    obtain ⟨x, hx, h⟩ := Option.bind_eq_some_iff.1 h
    obtain ⟨y, hy, rfl⟩ := Option.map_eq_some_iff.1 h
    have h1 := rule_len (hi t (by simp)) hx
    have h2 := all_len (fun v hv => hi v (List.mem_cons_of_mem _ hv)) hy
    simp only [List.length_append, List.length_cons] at *; omega
end Sh
end Go.Proofs.YtpdmmmdkpipmkaaGreatDoor

/-
  The mathematics of layer 9: lists of arguments and literals, one more at a time. No program in this text.
-/
namespace Go.Proofs.YtpdmmmdkpipmkaaGreatDoor
namespace Sh
open Lx Ps

def sep (k : Nat) : List UInt8 := if k = 0 then [] else [44, 32]
theorem args_snoc : ∀ {ts : List Tm} {m x : List UInt8} {t : Tm}, argsS ts = some m → termS t = some x → argsS (ts ++ [t]) = some (m ++ (sep ts.length ++ x))
  | [], m, x, t, h, k => by
    have h0 : some ([] : List UInt8) = some m := h
    obtain rfl := Option.some.inj h0
    show termS t = _
    rw [k]; rfl
  | [u], m, x, t, h, k => by
    show (termS u).bind _ = _
    rw [show termS u = some m from h, Option.bind_some, show argsS [t] = some x from k]; rfl
  | u :: v :: r, m, x, t, h, k => by
    rw [argsS] at h
    obtain ⟨y, hy, h⟩ := Option.bind_eq_some_iff.1 h
    obtain ⟨z, hz, rfl⟩ := Option.map_eq_some_iff.1 h
    have ih := args_snoc hz k
    show (termS u).bind (fun s => (argsS ((v :: r) ++ [t])).map fun x => s ++ (44 :: 32 :: x)) = _
    rw [hy, Option.bind_some, ih]
    simp [sep]
theorem lits_snoc : ∀ {ts : List Lt} {m x : List UInt8} {t : Lt}, litsS ts = some m → litS t = some x → litsS (ts ++ [t]) = some (m ++ (sep ts.length ++ x))
  | [], m, x, t, h, k => by
    have h0 : some ([] : List UInt8) = some m := h
    obtain rfl := Option.some.inj h0
    show litS t = _
    rw [k]; rfl
  | [u], m, x, t, h, k => by
    show (litS u).bind _ = _
    rw [show litS u = some m from h, Option.bind_some, show litsS [t] = some x from k]; rfl
  | u :: v :: r, m, x, t, h, k => by
    rw [litsS] at h
    obtain ⟨y, hy, h⟩ := Option.bind_eq_some_iff.1 h
    obtain ⟨z, hz, rfl⟩ := Option.map_eq_some_iff.1 h
    have ih := lits_snoc hz k
    show (litS u).bind (fun s => (litsS ((v :: r) ++ [t])).map fun x => s ++ (44 :: 32 :: x)) = _
    rw [hy, Option.bind_some, ih]
    simp [sep]
theorem all_snoc : ∀ {ts : List Ru} {m x : List UInt8} {t : Ru}, allS ts = some m → ruleS t = some x → allS (ts ++ [t]) = some (m ++ (x ++ [10]))
  | [], m, x, t, h, k => by
    have h0 : some ([] : List UInt8) = some m := h
    obtain rfl := Option.some.inj h0
    show (ruleS t).bind _ = _
    rw [k]; rfl
  | u :: r, m, x, t, h, k => by
    rw [allS] at h
    obtain ⟨y, hy, h⟩ := Option.bind_eq_some_iff.1 h
    obtain ⟨z, hz, rfl⟩ := Option.map_eq_some_iff.1 h
    have ih := all_snoc hz k
    show (ruleS u).bind (fun s => (allS (r ++ [t])).map fun x => s ++ (10 :: x)) = _
    rw [hy, Option.bind_some, ih]
    simp
theorem all_none : ∀ {l : List Ru} {r : Ru}, r ∈ l → ruleS r = none → allS l = none
  | u :: l, r, h, k => by
    rw [allS]
    rcases List.mem_cons.1 h with rfl | h
    · rw [k]; rfl
    · rw [all_none h k]; cases ruleS u <;> rfl
/-- what a rule's text is made of -/
theorem rule_parts {r : Ru} {s : List UInt8} (h : ruleS r = some s) : ∃ a x t m, 1 ≤ r.body.length ∧ r.body.length ≤ 4 ∧ termS r.home = some a ∧ atomS r.pred r.args = some x ∧ maybeS [32, 116, 111, 32] r.to_ [] = some t ∧ litsS r.body = some m ∧ s = a ++ (58 :: 32 :: (x ++ (t ++ (32 :: 58 :: 45 :: 32 :: (m ++ [46]))))) := by
  unfold ruleS at h
  split at h
  · rename_i h0
    obtain ⟨x, hx, h⟩ := Option.bind_eq_some_iff.1 h
    obtain ⟨y, hy, h⟩ := Option.bind_eq_some_iff.1 h
    obtain ⟨z, hz, h⟩ := Option.bind_eq_some_iff.1 h
    obtain ⟨b, hb, rfl⟩ := Option.map_eq_some_iff.1 h
    exact ⟨x, y, z, b, h0.1, h0.2, hx, hy, hz, hb, rfl⟩
  · cases h
theorem lit_parts {l : Lt} {s : List UInt8} (h : litS l = some s) : ∃ b x a, maybeS [] l.by_ [32, 115, 97, 121, 115, 32] = some b ∧ atomS l.pred l.args = some x ∧ maybeS [32, 97, 116, 32] l.at_ [] = some a ∧ s = b ++ (x ++ a) := by
  unfold litS at h
  obtain ⟨x, hx, h⟩ := Option.bind_eq_some_iff.1 h
  obtain ⟨y, hy, h⟩ := Option.bind_eq_some_iff.1 h
  obtain ⟨z, hz, rfl⟩ := Option.map_eq_some_iff.1 h
  exact ⟨x, y, z, hx, hy, hz, rfl⟩
theorem atom_parts {p : List UInt8} {ts : List Tm} {s : List UInt8} (h : atomS p ts = some s) : ∃ m, wordB p = true ∧ ts.length ≤ 4 ∧ argsS ts = some m ∧ s = p ++ (40 :: (m ++ [41])) := by
  unfold atomS at h
  split at h
  · rename_i h0
    obtain ⟨b, hb, rfl⟩ := Option.map_eq_some_iff.1 h
    exact ⟨b, h0.1, h0.2, hb, rfl⟩
  · cases h
theorem args_each {ts : List Tm} {m : List UInt8} (h : argsS ts = some m) {t : Tm} (ht : t ∈ ts) : ∃ x, termS t = some x := by
  have := args_some ts
  rw [h] at this
  exact Option.isSome_iff_exists.1 (List.all_eq_true.1 this.symm t ht)
theorem lits_each {ts : List Lt} {m : List UInt8} (h : litsS ts = some m) {t : Lt} (ht : t ∈ ts) : ∃ x, litS t = some x := by
  have := lits_some ts
  rw [h] at this
  have h1 := List.all_eq_true.1 this.symm t ht
  rw [← lit_some] at h1
  exact Option.isSome_iff_exists.1 h1
end Sh
end Go.Proofs.YtpdmmmdkpipmkaaGreatDoor

/-
  The mathematics of layer 10: a rule's variables. No program in this text.
-/
namespace Go.Proofs.YtpdmmmdkpipmkaaGreatDoor
namespace Ck

abbrev Tx := List UInt8
/-- variables, and one more, if it is one -/
def wv (l : List Tx) (t : Tm) : List Tx := if t.v = [] ∨ t.v ∈ l then l else l ++ [t.v]
def wl (l : List Tx) (y : Lt) : List Tx := wv (y.args.foldl wv (wv l y.by_)) y.at_
def bnd (r : Ru) (k : Nat) : List Tx := (r.body.take k).foldl wl (wv [] r.home)
def vars (r : Ru) : List Tx := bnd r r.body.length

/-! what is bound -/
theorem wv_pre (l : List Tx) (t : Tm) : ∃ m, wv l t = l ++ m := by
  unfold wv; split
  · exact ⟨[], by simp⟩
  · exact ⟨_, rfl⟩
theorem fold_pre : ∀ (ts : List Tm) (l : List Tx), ∃ m, ts.foldl wv l = l ++ m
  | [], l => ⟨[], by simp⟩
  | t :: r, l => by
    obtain ⟨m, hm⟩ := wv_pre l t
    obtain ⟨n, hn⟩ := fold_pre r (wv l t)
    exact ⟨m ++ n, by rw [List.foldl_cons, hn, hm, List.append_assoc]⟩
theorem wl_pre (l : List Tx) (y : Lt) : ∃ m, wl l y = l ++ m := by
  obtain ⟨a, ha⟩ := wv_pre l y.by_
  obtain ⟨b, hb⟩ := fold_pre y.args (wv l y.by_)
  obtain ⟨c, hc⟩ := wv_pre (y.args.foldl wv (wv l y.by_)) y.at_
  exact ⟨a ++ (b ++ c), by unfold wl; rw [hc, hb, ha]; simp⟩
theorem bnd_succ {r : Ru} {k : Nat} (hk : k < r.body.length) : bnd r (k + 1) = wl (bnd r k) r.body[k] := by
  unfold bnd
  rw [List.take_succ_eq_append_getElem hk, List.foldl_append]; rfl
theorem bnd_pre {r : Ru} {k : Nat} (hk : k < r.body.length) : ∃ m, bnd r (k + 1) = bnd r k ++ m := by
  rw [bnd_succ hk]; exact wl_pre _ _
theorem bnd_all {r : Ru} {k : Nat} (hk : r.body.length ≤ k) : bnd r k = vars r := by
  unfold vars bnd
  rw [List.take_of_length_le hk, List.take_of_length_le (Nat.le_refl _)]
end Ck
end Go.Proofs.YtpdmmmdkpipmkaaGreatDoor

/-
  The mathematics of layer 10: a rule's variables, which programs may be run, and what is wrong first. No program in this text.
-/
namespace Go.Proofs.YtpdmmmdkpipmkaaGreatDoor
namespace Ck

def num (t : Tm) : Bool := t.v.isEmpty && t.k.num
/-- the first literal of which something holds; its number is told -/
def first (f : Nat → Lt → Bool) : Nat → List Lt → Option Int
  | _, [] => none
  | i, y :: r => if f i y = true then some (i : Int) else first f (i + 1) r
def places (r : Ru) : Option Int := if (num r.home || num r.to_) = true then some (-1) else first (fun _ y => num y.by_ || num y.at_) 0 r.body
abbrev Seen := List (Tx × Nat)
def odd (s : Seen) (p : Tx) (n : Nat) : Seen × Bool := match s.find? (fun x => x.1 == p) with | some x => (s, x.2 != n) | none => (s ++ [(p, n)], false)
def aritL : Seen → Nat → List Lt → Seen × Option Int
  | s, _, [] => (s, none)
  | s, i, y :: r => if (odd s y.pred y.args.length).2 = true then ((odd s y.pred y.args.length).1, some (i : Int)) else aritL (odd s y.pred y.args.length).1 (i + 1) r
def arit (s : Seen) (r : Ru) : Seen × Option Int := if (odd s r.pred r.args.length).2 = true then ((odd s r.pred r.args.length).1, some (-1)) else aritL (odd s r.pred r.args.length).1 0 r.body
def isFree (r : Ru) (i : Nat) (y : Lt) : Bool := !y.at_.v.isEmpty && !(bnd r i).contains y.at_.v
def free (r : Ru) : Option Int := first (isFree r) 0 r.body
def outV (l : List Tx) (t : Tm) : Bool := !t.v.isEmpty && !l.contains t.v
def opn (r : Ru) : Bool := outV (vars r) r.to_ || r.args.any (outV (vars r))
/-- of one rule: what is wrong first, or what was seen -/
def one (s : Seen) (r : Ru) : Except (Int × Int) Seen :=
  if (Sh.ruleS r).isSome = false then .error (100, -1) else
  match places r with
  | some k => .error (101, k)
  | none => match (arit s r).2 with
    | some k => .error (102, k)
    | none => match free r with
      | some k => .error (103, k)
      | none => if opn r = true then .error (104, -1) else .ok (arit s r).1
def go : Nat → Seen → List Ru → Int × Int × Int
  | _, _, [] => (0, -1, -1)
  | i, s, r :: l => match one s r with
    | .error x => (x.1, (i : Int), x.2)
    | .ok s' => go (i + 1) s' l
def prog (l : List Ru) : Int × Int × Int := if 16 < l.length then (81, -1, -1) else go 0 [] l

/-! what is seen -/
def Fn (s : Seen) : Prop := ∀ x ∈ s, ∀ y ∈ s, x.1 = y.1 → x.2 = y.2
theorem find_some {s : Seen} {p : Tx} {x : Tx × Nat} (h : s.find? (fun x => x.1 == p) = some x) : x ∈ s ∧ x.1 = p := ⟨List.mem_of_find?_eq_some h, by simpa using List.find?_some h⟩
theorem find_none {s : Seen} {p : Tx} (h : s.find? (fun x => x.1 == p) = none) : ∀ x ∈ s, x.1 ≠ p := fun x hx he => by
  have := List.find?_eq_none.1 h x hx
  simp [he] at this
/-- not odd: what is seen is a function still, has the pair, and nothing but it and what was there -/
theorem odd_ok {s : Seen} {p : Tx} {n : Nat} (hf : Fn s) (h : (odd s p n).2 = false) : Fn (odd s p n).1 ∧ (p, n) ∈ (odd s p n).1 ∧ (∀ x ∈ s, x ∈ (odd s p n).1) ∧ ∀ x ∈ (odd s p n).1, x ∈ s ∨ x = (p, n) := by
  unfold odd at *
  cases hx : s.find? (fun x => x.1 == p) with
  | some x =>
    rw [hx] at h
    simp only at h ⊢
    obtain ⟨h1, h2⟩ := find_some hx
    have h3 : x.2 = n := by simpa using h
    refine ⟨hf, ?_, fun _ h => h, fun _ h => .inl h⟩
    have : x = (p, n) := by rw [← h2, ← h3]
    rw [← this]; exact h1
  | none =>
    simp only
    have hn := find_none hx
    refine ⟨fun a ha b hb he => ?_, by simp, fun x hx => by simp [hx], fun x hx => by simpa using hx⟩
    rcases List.mem_append.1 ha with ha | ha <;> rcases List.mem_append.1 hb with hb | hb
    · exact hf a ha b hb he
    · rw [List.mem_singleton] at hb; subst hb; exact absurd he (hn a ha)
    · rw [List.mem_singleton] at ha; subst ha; exact absurd he.symm (hn b hb)
    · rw [List.mem_singleton] at ha hb; rw [ha, hb]
theorem odd_fit {s : Seen} {p : Tx} {n : Nat} (h : ∀ x ∈ s, x.1 = p → x.2 = n) : (odd s p n).2 = false := by
  unfold odd
  cases hx : s.find? (fun x => x.1 == p) with
  | some x =>
    obtain ⟨h1, h2⟩ := find_some hx
    simp [h x h1 h2]
  | none => rfl

/-- the predicates of a rule with how many arguments they have -/
def pairsL (l : List Lt) : Seen := l.map fun y => (y.pred, y.args.length)
def pairs (r : Ru) : Seen := (r.pred, r.args.length) :: pairsL r.body
/-- what is seen fits a set of pairs -/
structure Fits (s : Seen) (L : Seen) : Prop where
  fn : Fn L
  sub : ∀ x ∈ s, x ∈ L
theorem aritL_ok : ∀ {s : Seen} {i : Nat} {l : List Lt}, Fn s → (aritL s i l).2 = none → Fn (aritL s i l).1 ∧ (∀ x ∈ s, x ∈ (aritL s i l).1) ∧ (∀ x ∈ pairsL l, x ∈ (aritL s i l).1)
  | s, i, [], hf, _ => ⟨hf, fun _ h => h, fun x h => by simp [pairsL] at h⟩
  | s, i, y :: r, hf, h => by
    rw [aritL] at h ⊢
    split at h
    · cases h
    · rename_i h0
      rw [if_neg h0]
      have h1 := odd_ok hf (by simpa using h0)
      have h2 := aritL_ok h1.1 h
      refine ⟨h2.1, fun x hx => h2.2.1 x (h1.2.2.1 x hx), fun x hx => ?_⟩
      rcases List.mem_cons.1 hx with rfl | hx
      · exact h2.2.1 _ h1.2.1
      · exact h2.2.2 x hx
theorem arit_ok {s : Seen} {r : Ru} (hf : Fn s) (h : (arit s r).2 = none) : Fn (arit s r).1 ∧ (∀ x ∈ s, x ∈ (arit s r).1) ∧ ∀ x ∈ pairs r, x ∈ (arit s r).1 := by
  unfold arit at *
  split at h
  · cases h
  · rename_i h0
    rw [if_neg h0]
    have h1 := odd_ok hf (by simpa using h0)
    have h2 := aritL_ok h1.1 h
    refine ⟨h2.1, fun x hx => h2.2.1 x (h1.2.2.1 x hx), fun x hx => ?_⟩
    rcases List.mem_cons.1 hx with rfl | hx
    · exact h2.2.1 _ h1.2.1
    · exact h2.2.2 x hx
theorem odd_fits {s L : Seen} {p : Tx} {n : Nat} (hs : Fits s L) (hp : (p, n) ∈ L) : (odd s p n).2 = false ∧ Fits (odd s p n).1 L := by
  have h0 := odd_fit (s := s) (p := p) (n := n) fun x hx he => hs.fn x (hs.sub x hx) (p, n) hp he
  have hf : Fn s := fun x hx y hy => hs.fn x (hs.sub x hx) y (hs.sub y hy)
  have h1 := odd_ok hf h0
  exact ⟨h0, hs.fn, fun x hx => (h1.2.2.2 x hx).elim (hs.sub x) (fun h => by rw [h]; exact hp)⟩
theorem aritL_fits : ∀ {s L : Seen} {i : Nat} {l : List Lt}, Fits s L → (∀ x ∈ pairsL l, x ∈ L) → (aritL s i l).2 = none ∧ Fits (aritL s i l).1 L
  | s, L, i, [], hs, _ => ⟨rfl, hs⟩
  | s, L, i, y :: r, hs, hp => by
    have h1 := odd_fits hs (hp _ (List.mem_cons_self ..))
    rw [aritL, if_neg (by rw [h1.1]; decide)]
    exact aritL_fits h1.2 fun x hx => hp x (List.mem_cons_of_mem _ hx)
theorem arit_fits {s L : Seen} {r : Ru} (hs : Fits s L) (hp : ∀ x ∈ pairs r, x ∈ L) : (arit s r).2 = none ∧ Fits (arit s r).1 L := by
  have h1 := odd_fits hs (hp _ (List.mem_cons_self ..))
  unfold arit
  rw [if_neg (by rw [h1.1]; decide)]
  exact aritL_fits h1.2 fun x hx => hp x (List.mem_cons_of_mem _ hx)

/-- a rule in which nothing is wrong but perhaps how many arguments its predicates have -/
structure Well (r : Ru) : Prop where
  shape : (Sh.ruleS r).isSome = true
  places : places r = none
  free : free r = none
  opn : opn r = false
theorem one_ok {s s' : Seen} {r : Ru} (h : one s r = .ok s') : Well r ∧ (arit s r).2 = none ∧ s' = (arit s r).1 := by
  unfold one at h
  split at h
  · cases h
  · rename_i h1
    split at h
    · cases h
    · rename_i h2
      split at h
      · cases h
      · rename_i h3
        split at h
        · cases h
        · rename_i h4
          split at h
          · cases h
          · rename_i h5
            cases h
            exact ⟨⟨Bool.of_not_eq_false h1, h2, h4, by simpa using h5⟩, h3, rfl⟩
theorem one_well {s : Seen} {r : Ru} (h : Well r) (ha : (arit s r).2 = none) : one s r = .ok (arit s r).1 := by
  unfold one
  rw [if_neg (by rw [h.shape]; decide), h.places]
  simp only [ha, h.free]
  rw [if_neg (by rw [h.opn]; decide)]
theorem one_err {s : Seen} {r : Ru} {x : Int × Int} (h : one s r = .error x) : x.1 ≠ 0 := by
  unfold one at h
  split at h
  · cases h; simp
  · split at h
    · cases h; simp
    · split at h
      · cases h; simp
      · split at h
        · cases h; simp
        · split at h
          · cases h; simp
          · cases h
theorem go_ok : ∀ {i : Nat} {s : Seen} {l : List Ru}, Fn s → (go i s l).1 = 0 → (∀ r ∈ l, Well r) ∧ ∃ L, Fits s L ∧ ∀ r ∈ l, ∀ x ∈ pairs r, x ∈ L
  | i, s, [], hf, _ => ⟨fun r h => by simp at h, s, ⟨hf, fun _ h => h⟩, fun r h => by simp at h⟩
  | i, s, r :: l, hf, h => by
    rw [go] at h
    cases ho : one s r with
    | error x => rw [ho] at h; exact absurd h (one_err ho)
    | ok s' =>
      rw [ho] at h
      obtain ⟨hw, ha, rfl⟩ := one_ok ho
      have h1 := arit_ok hf ha
      obtain ⟨h2, L, h3, h4⟩ := go_ok h1.1 h
      refine ⟨fun u hu => ?_, L, ⟨h3.fn, fun x hx => h3.sub x (h1.2.1 x hx)⟩, fun u hu x hx => ?_⟩
      · rcases List.mem_cons.1 hu with rfl | hu
        · exact hw
        · exact h2 u hu
      · rcases List.mem_cons.1 hu with rfl | hu
        · exact h3.sub x (h1.2.2 x hx)
        · exact h4 u hu x hx
theorem go_fits : ∀ {i : Nat} {s L : Seen} {l : List Ru}, Fits s L → (∀ r ∈ l, Well r) → (∀ r ∈ l, ∀ x ∈ pairs r, x ∈ L) → go i s l = (0, -1, -1)
  | i, s, L, [], _, _, _ => rfl
  | i, s, L, r :: l, hs, hw, hp => by
    have h1 := arit_fits hs (hp r (List.mem_cons_self ..))
    rw [go, one_well (hw r (List.mem_cons_self ..)) h1.1]
    exact go_fits h1.2 (fun u hu => hw u (List.mem_cons_of_mem _ hu)) fun u hu => hp u (List.mem_cons_of_mem _ hu)
theorem prog_ok {l : List Ru} (h : (prog l).1 = 0) : l.length ≤ 16 ∧ (∀ r ∈ l, Well r) ∧ ∃ L, Fits [] L ∧ ∀ r ∈ l, ∀ x ∈ pairs r, x ∈ L := by
  unfold prog at h
  split at h
  · cases h
  · rename_i h16
    exact ⟨by omega, go_ok (fun x hx => by simp at hx) h⟩
/-- P10.4: rules of a program that may be run, some left out, may be run -/
theorem prog_some {l m : List Ru} (h : (prog l).1 = 0) (hl : m.length ≤ l.length) (hm : ∀ r ∈ m, r ∈ l) : prog m = (0, -1, -1) := by
  obtain ⟨h1, h2, L, h3, h4⟩ := prog_ok h
  unfold prog
  rw [if_neg (by omega)]
  exact go_fits h3 (fun r hr => h2 r (hm r hr)) fun r hr => h4 r (hm r hr)

theorem first_none {f : Nat → Lt → Bool} : ∀ {i : Nat} {l : List Lt}, first f i l = none → ∀ k (h : k < l.length), f (i + k) l[k] = false
  | i, [], _, k, h => by simp at h
  | i, y :: r, hn, k, h => by
    rw [first] at hn
    split at hn
    · cases hn
    · rename_i h0
      match k with
      | 0 => simpa using h0
      | k + 1 =>
        have := first_none hn k (by simpa using h)
        rw [show i + 1 + k = i + (k + 1) by omega] at this
        simpa using this
theorem well_at {r : Ru} (h : Well r) {k : Nat} (hk : k < r.body.length) (hv : r.body[k].at_.v ≠ []) : r.body[k].at_.v ∈ bnd r k := by
  have := first_none h.free k hk
  rw [Nat.zero_add] at this
  unfold isFree at this
  simp only [Bool.and_eq_false_iff, Bool.not_eq_false'] at this
  rcases this with h1 | h1
  · exact absurd (by simpa using h1) hv
  · simpa using h1
theorem well_arg {r : Ru} (h : Well r) {t : Tm} (ht : t ∈ r.args) (hv : t.v ≠ []) : t.v ∈ vars r := by
  have := h.opn
  unfold opn at this
  rw [Bool.or_eq_false_iff, List.any_eq_false] at this
  have h1 := this.2 t ht
  unfold outV at h1
  simp only [Bool.and_eq_true, Bool.not_eq_true', not_and, Bool.not_eq_false] at h1
  have := h1 (by simpa using hv)
  simpa using this
end Ck
end Go.Proofs.YtpdmmmdkpipmkaaGreatDoor

/-
  The mathematics of layer 10: a rule's places searched one by one, the head as a literal. No program in this text.
-/
namespace Go.Proofs.YtpdmmmdkpipmkaaGreatDoor
namespace Ck

abbrev Fd := Seen → Int → Lt → Bool × Seen
def srL (f : Fd) : Seen → Nat → List Lt → Seen × Option Int
  | s, _, [] => (s, none)
  | s, i, y :: r => if (f s (i : Int) y).1 = true then ((f s (i : Int) y).2, some (i : Int)) else srL f (f s (i : Int) y).2 (i + 1) r
def hdL (r : Ru) : Lt := ⟨r.home, r.pred, r.args, r.to_⟩
def srch (f : Fd) (s : Seen) (r : Ru) : Seen × Option Int :=
  if (f s (-1) (hdL r)).1 = true then ((f s (-1) (hdL r)).2, some (-1)) else srL f (f s (-1) (hdL r)).2 0 r.body

def fN : Fd := fun s _ y => (y.by_.k.num || y.at_.k.num, s)
def fA : Fd := fun s _ y => ((odd s y.pred y.args.length).2, (odd s y.pred y.args.length).1)
def fF (r : Ru) : Fd := fun s k y => ((k != -1) && outV (bnd r k.toNat) y.at_, s)
def fR (r : Ru) : Fd := fun s k y => ((k == -1) && (outV (vars r) y.at_ || y.args.any (outV (vars r))), s)

theorem srL_keep {f : Fd} {g : Nat → Lt → Bool} {s : Seen} : ∀ {i : Nat} {l : List Lt}, (∀ k : Nat, ∀ y ∈ l, f s (k : Int) y = (g k y, s)) → srL f s i l = (s, first g i l)
  | i, [], _ => rfl
  | i, y :: r, h => by
    rw [srL, first, h i y (List.mem_cons_self ..)]
    simp only
    by_cases hg : g i y = true
    · rw [if_pos hg, if_pos hg]
    · rw [if_neg hg, if_neg hg]
      exact srL_keep fun k z hz => h k z (List.mem_cons_of_mem _ hz)
theorem first_false {g : Nat → Lt → Bool} (h : ∀ k y, g k y = false) : ∀ {i : Nat} {l : List Lt}, first g i l = none
  | i, [] => rfl
  | i, y :: r => by rw [first, if_neg (by rw [h]; decide)]; exact first_false h
theorem termS_num {t : Tm} (h : Sh.canT t = true) : t.k.num = num t := by
  unfold num
  unfold Sh.canT Sh.termS at h
  split at h
  · rename_i hv
    split at h
    · rename_i hz
      simp only [Sh.zk, Bool.and_eq_true, Bool.not_eq_true'] at hz
      rw [hz.1.1.1]; simp
    · cases h
  · rename_i hv
    have : t.v = [] := by simpa using hv
    rw [this]; simp
theorem maybeS_num {t : Tm} (h : Sh.canM t = true) : t.k.num = num t := by
  unfold Sh.canM at h
  rw [Bool.or_eq_true] at h
  rcases h with h | h
  · simp only [Sh.noneT, Sh.zk, Bool.and_eq_true, Bool.not_eq_true'] at h
    unfold num
    rw [h.2.1.1]; simp
  · exact termS_num h
theorem srch_N {s : Seen} {r : Ru} (h : (Sh.ruleS r).isSome = true) : srch fN s r = (s, places r) := by
  rw [Sh.rule_some] at h
  simp only [Sh.canR, Bool.and_eq_true, List.all_eq_true] at h
  obtain ⟨⟨⟨⟨⟨h1, h2⟩, h3⟩, _⟩, _⟩, h4⟩ := h
  unfold srch places
  rw [show fN s (-1) (hdL r) = ((num r.home || num r.to_), s) by unfold fN hdL; rw [termS_num h1, maybeS_num h3]]
  simp only
  split
  · rfl
  · refine srL_keep fun k y hy => ?_
    have := h4 y hy
    simp only [Sh.canL, Bool.and_eq_true] at this
    unfold fN
    rw [maybeS_num this.1.1, maybeS_num this.2]
theorem srL_A : ∀ {s : Seen} {i : Nat} {l : List Lt}, srL fA s i l = aritL s i l
  | s, i, [] => rfl
  | s, i, y :: r => by
    rw [srL, aritL]
    unfold fA
    simp only
    split
    · rfl
    · exact srL_A
theorem srch_A {s : Seen} {r : Ru} : srch fA s r = arit s r := by
  unfold srch arit
  rw [show fA s (-1) (hdL r) = ((odd s r.pred r.args.length).2, (odd s r.pred r.args.length).1) from rfl]
  simp only
  split
  · rfl
  · exact srL_A
theorem srch_F {s : Seen} {r : Ru} : srch (fF r) s r = (s, free r) := by
  unfold srch free
  rw [show fF r s (-1) (hdL r) = (false, s) from rfl]
  simp only
  rw [if_neg (by decide)]
  refine srL_keep fun k y _ => ?_
  unfold fF isFree outV
  rw [show (((k : Int) != -1) = true) by rw [bne_iff_ne]; omega, Bool.true_and, Int.toNat_natCast]
theorem srch_R {s : Seen} {r : Ru} : srch (fR r) s r = (s, if opn r = true then some (-1) else none) := by
  unfold srch
  rw [show fR r s (-1) (hdL r) = (opn r, s) by unfold fR opn hdL; simp]
  simp only
  split
  · rfl
  · rw [srL_keep (g := fun _ _ => false) fun k y _ => ?_, first_false fun _ _ => rfl]
    unfold fR
    rw [show (((k : Int) == -1) = false) by rw [beq_eq_false_iff_ne]; omega, Bool.false_and]
/-- of one rule, by four searches -/
theorem one_srch (s : Seen) (r : Ru) : one s r =
    if (Sh.ruleS r).isSome = false then .error (100, -1) else
    match (srch fN s r).2 with
    | some k => .error (101, k)
    | none => match (srch fA s r).2 with
      | some k => .error (102, k)
      | none => match (srch (fF r) (srch fA s r).1 r).2 with
        | some k => .error (103, k)
        | none => match (srch (fR r) (srch fA s r).1 r).2 with
          | some k => .error (104, k)
          | none => .ok (srch fA s r).1 := by
  unfold one
  split
  · rfl
  · rename_i h
    rw [srch_N (Bool.of_not_eq_false h), srch_A, srch_F, srch_R]
    cases places r with
    | some k => rfl
    | none =>
      cases (arit s r).2 with
      | some k => rfl
      | none =>
        cases free r with
        | some k => rfl
        | none => simp only; split <;> simp_all
end Ck
end Go.Proofs.YtpdmmmdkpipmkaaGreatDoor
