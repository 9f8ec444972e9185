/-
  The mathematics of layer 9: terms, literals, rules, programs as texts; what is shown is cut into the tokens of just that. No program in this text.
-/
import Derived.Test.YtcogjphoceaejaaDoorLm4
namespace Go.Proofs.YtcogjphoceaejaaDoor
namespace Sh
open Lx Ps

def namedB (p : UInt8 → Bool) (s : List UInt8) : Bool := decide (1 ≤ s.length) && decide (s.length ≤ 32) && (match s with | [] => false | c :: _ => p c) && s.all inner
def wordB (s : List UInt8) : Bool := namedB small s && !kept s
def zk (k : K) : Bool := !k.num && decide (k.n = 0) && k.s.isEmpty
def plainB (s : List UInt8) : Bool := decide (1 ≤ s.length) && decide (s.length ≤ 32) && s.all plain
def termS (t : Tm) : Option (List UInt8) :=
  if t.v ≠ [] then (if (zk t.k && namedB great t.v) = true then some t.v else none)
  else if t.k.num = true then (if t.k.s = [] then some (Go.Lib.itoa t.k.n) else none)
  else if t.k.n = 0 ∧ plainB t.k.s = true then (if wordB t.k.s = true then some t.k.s else some (34 :: (t.k.s ++ [34]))) else none
def noneT (t : Tm) : Bool := t.v.isEmpty && zk t.k
def maybeS (a : List UInt8) (t : Tm) (b : List UInt8) : Option (List UInt8) := if noneT t = true then some [] else (termS t).map fun s => a ++ (s ++ b)
def argsS : List Tm → Option (List UInt8)
  | [] => some []
  | [t] => termS t
  | t :: u :: r => (termS t).bind fun s => (argsS (u :: r)).map fun x => s ++ (44 :: 32 :: x)
def atomS (p : List UInt8) (ts : List Tm) : Option (List UInt8) := if wordB p = true ∧ ts.length ≤ 4 then (argsS ts).map fun s => p ++ (40 :: (s ++ [41])) else none
def litS (l : Lt) : Option (List UInt8) :=
  (maybeS [] l.by_ [32, 115, 97, 121, 115, 32]).bind fun b => (atomS l.pred l.args).bind fun x => (maybeS [32, 97, 116, 32] l.at_ []).map fun a => b ++ (x ++ a)
def litsS : List Lt → Option (List UInt8)
  | [] => some []
  | [l] => litS l
  | l :: u :: r => (litS l).bind fun s => (litsS (u :: r)).map fun x => s ++ (44 :: 32 :: x)
def ruleS (r : Ru) : Option (List UInt8) :=
  if 1 ≤ r.body.length ∧ r.body.length ≤ 4 then
    (termS r.home).bind fun h => (atomS r.pred r.args).bind fun x => (maybeS [32, 116, 111, 32] r.to_ []).bind fun t => (litsS r.body).map fun b =>
      h ++ (58 :: 32 :: (x ++ (t ++ (32 :: 58 :: 45 :: 32 :: (b ++ [46])))))
  else none
def allS : List Ru → Option (List UInt8)
  | [] => some []
  | r :: l => (ruleS r).bind fun s => (allS l).map fun x => s ++ (10 :: x)
/-- what show.Program answers: the text, or the error -/
def progS (l : List Ru) : Except Int (List UInt8) :=
  if 16 < l.length then .error 81 else match allS l with
  | none => .error 100
  | some s => if 4096 < s.length then .error 3 else .ok s

/-! tokens -/
def tokOf (t : Tm) : Tok := if t.v ≠ [] then ⟨2, t.v, 0, 0⟩ else if t.k.num = true then ⟨3, [], t.k.n, 0⟩ else if wordB t.k.s = true then ⟨1, t.k.s, 0, 0⟩ else ⟨4, t.k.s, 0, 0⟩
def sg (s : List UInt8) : Tok := ⟨5, s, 0, 0⟩
def wd (s : List UInt8) : Tok := ⟨1, s, 0, 0⟩
def argsT : List Tm → List Tok
  | [] => []
  | [t] => [tokOf t]
  | t :: u :: r => tokOf t :: sg [44] :: argsT (u :: r)
def atomT (p : List UInt8) (ts : List Tm) : List Tok := wd p :: sg [40] :: (argsT ts ++ [sg [41]])
def maybeT (a : List Tok) (t : Tm) (b : List Tok) : List Tok := if noneT t = true then [] else a ++ (tokOf t :: b)
def litT (l : Lt) : List Tok := maybeT [] l.by_ [wd says] ++ (atomT l.pred l.args ++ maybeT [wd at_] l.at_ [])
def litsT : List Lt → List Tok
  | [] => []
  | [l] => litT l
  | l :: u :: r => litT l ++ (sg [44] :: litsT (u :: r))
def ruleT (r : Ru) : List Tok := tokOf r.home :: sg [58] :: (atomT r.pred r.args ++ (maybeT [wd Ps.to] r.to_ [] ++ (sg [58, 45] :: (litsT r.body ++ [sg [46]]))))
def allT (l : List Ru) : List Tok := l.flatMap ruleT

/-! a number that an int holds -/
def KIn (t : Tm) : Prop := -9223372036854775808 ≤ t.k.n ∧ t.k.n ≤ 9223372036854775807
def LIn (l : Lt) : Prop := KIn l.by_ ∧ (∀ t ∈ l.args, KIn t) ∧ KIn l.at_
def RIn (r : Ru) : Prop := KIn r.home ∧ (∀ t ∈ r.args, KIn t) ∧ KIn r.to_ ∧ ∀ l ∈ r.body, LIn l

/-! texts that are cut -/
def Hd (m : List UInt8) : Prop := ∀ c, m.head? = some c → inner c = false ∧ c.toNat ≠ 45
theorem hd_nil : Hd [] := fun c h => by simp at h
theorem hd_cons {c : UInt8} (m : List UInt8) (h : inner c = false ∧ c.toNat ≠ 45) : Hd (c :: m) := fun d hd => by simp at hd; subst hd; exact h
def Cuts (m : List UInt8) (T : List Tok) : Prop := ∃ M, tks m (skip m 0) = .ok M ∧ M.map strip = T
theorem cuts_nil : Cuts [] [] := ⟨[], rfl, rfl⟩
theorem strip_sh (n : Nat) (M : List Tok) : (M.map (sh n)).map strip = M.map strip := sm_shift n M
theorem cuts_blank {c : UInt8} {m : List UInt8} {T : List Tok} (hc : Lx.blank c = true) (h : Cuts m T) : Cuts (c :: m) T := by
  obtain ⟨M, h1, h2⟩ := h
  have e1 : skip (c :: m) 0 = skip (c :: m) 1 := skip_blank (l := c :: m) (i := 0) (by simp) hc
  have e2 := skip_shift [c] m 0
  have e3 := tks_shift [c] m m.length (skip m 0) M (by omega) h1
  simp only [List.singleton_append, List.length_singleton, Nat.add_zero] at e2 e3
  exact ⟨M.map (sh 1), by rw [e1, e2, e3], by rw [strip_sh, h2]⟩
theorem cuts_tok {s m : List UInt8} {t : Tok} {T : List Tok} (hs : one s 0 = some (t, s.length)) (h0 : 0 < s.length) (hl : ¬ 32 < t.text.length) (hm : Hd m) (h : Cuts m T) : Cuts (s ++ m) (strip t :: T) := by
  obtain ⟨M, h1, h2⟩ := h
  have hlen : 0 < (s ++ m).length := by rw [List.length_append]; omega
  have ho := one_some_app hm h0 hs
  have hf := one_first hlen ho
  have e0 : skip (s ++ m) 0 = 0 := by unfold skip; exact skipN_stop hlen hf.1 hf.2
  have e2 := skip_shift s m 0
  have e3 := tks_shift s m m.length (skip m 0) M (by omega) h1
  rw [Nat.add_zero] at e2
  exact ⟨t :: M.map (sh s.length), by rw [e0, tks_cons hlen ho hl, e2, e3]; rfl, by rw [List.map_cons, strip_sh, h2]⟩
theorem run_all {p : UInt8 → Bool} {s : List UInt8} {i : Nat} (h : ∀ c ∈ s.drop i, p c = true) (hi : i ≤ s.length) : run p s i = s.length := by
  unfold run; rw [tw_all _ h, List.length_drop]; omega
theorem one_word {s : List UInt8} (h : namedB small s = true) : one s 0 = some (⟨1, s, 0, 0⟩, s.length) := by
  unfold namedB at h
  cases s with
  | nil => simp at h
  | cons c r =>
    simp only [Bool.and_eq_true, List.all_eq_true] at h
    rw [one_at (by simp)]
    show oneC (c :: r) 0 c = _
    unfold oneC
    rw [if_pos h.1.2]
    unfold Lx.word
    rw [run_all (fun d hd => h.2 d (by simpa using hd)) (Nat.zero_le _), sub_tail]; rfl
theorem great_small {c : UInt8} (h : great c = true) : ¬ small c = true := by
  simp only [great, small, Bool.and_eq_true, decide_eq_true_eq] at *; omega
theorem one_var {s : List UInt8} (h : namedB great s = true) : one s 0 = some (⟨2, s, 0, 0⟩, s.length) := by
  unfold namedB at h
  cases s with
  | nil => simp at h
  | cons c r =>
    simp only [Bool.and_eq_true, List.all_eq_true] at h
    rw [one_at (by simp)]
    show oneC (c :: r) 0 c = _
    unfold oneC
    rw [if_neg (great_small h.1.2), if_pos h.1.2]
    unfold Lx.word
    rw [run_all (fun d hd => h.2 d (by simpa using hd)) (Nat.zero_le _), sub_tail]; rfl
theorem one_quote {s : List UInt8} (h : ∀ c ∈ s, plain c = true) : one (34 :: (s ++ [34])) 0 = some (⟨4, s, 0, 0⟩, (34 :: (s ++ [34])).length) := by
  rw [one_at (by simp)]
  show oneC (34 :: (s ++ [34])) 0 34 = _
  unfold oneC
  rw [if_neg (by decide), if_neg (by decide), if_neg (by decide), if_pos (by decide)]
  have hr : run plain (34 :: (s ++ [34])) 1 = s.length + 1 := by
    unfold run
    show 1 + ((s ++ [34]).takeWhile plain).length = _
    rw [List.takeWhile_append_of_pos h]
    have : List.takeWhile plain [34] = [] := by decide
    rw [this]; simp; omega
  unfold quote
  rw [hr]
  have e1 : (34 :: (s ++ [34]))[s.length + 1]?.map (·.toNat) = some 34 := by simp
  rw [if_pos e1]
  have e2 : sub (34 :: (s ++ [34])) (0 + 1) (s.length + 1) = s := by unfold sub; simp
  rw [e2]; simp
theorem one_num (n : Int) (h : -9223372036854775808 ≤ n ∧ n ≤ 9223372036854775807) : one (Go.Lib.itoa n) 0 = some (⟨3, [], n, 0⟩, (Go.Lib.itoa n).length) := by
  have key : ∀ (neg : Bool) (u : Nat), n = (if neg = true then -(u : Int) else u) → (neg = true → 1 ≤ u ∧ u ≤ 9223372036854775808) → (neg = false → u < 9223372036854775808) → one (txt neg (Go.Lib.decDigits u)) 0 = some (⟨3, [], n, 0⟩, (txt neg (Go.Lib.decDigits u)).length) := by
    intro neg u hn h1 h2
    have hv := num_self hn h1 h2
    have hd := dec_digits u
    obtain ⟨a, q, hq⟩ := List.exists_cons_of_ne_nil (dec_ne u)
    rw [hq] at hv hd ⊢
    have ha := digit_le (hd a (by simp))
    have hlen : 0 < (txt neg (a :: q)).length := by cases neg <;> simp [txt]
    have hneg : isNeg (txt neg (a :: q)) 0 = neg := by
      cases neg with
      | true => rfl
      | false =>
        have h0 : a.toNat ≠ 45 := by omega
        simp [isNeg, txt, h0]
    have hc : (digit ((txt neg (a :: q))[0]'hlen) || decide (((txt neg (a :: q))[0]'hlen).toNat = 45)) = true := by
      cases neg with
      | true => rfl
      | false => simp [txt, hd a (by simp)]
    have hfirst : (txt neg (a :: q)).drop (first (txt neg (a :: q)) 0) = a :: q := by
      unfold first; rw [hneg]
      cases neg <;> rfl
    have hrun : run digit (txt neg (a :: q)) (first (txt neg (a :: q)) 0) = (txt neg (a :: q)).length :=
      run_all (by rw [hfirst]; exact hd) (first_lt hlen)
    rw [one_at hlen]
    unfold oneC
    rw [if_neg, if_neg, if_pos hc]
    · unfold number
      rw [hneg, hrun, sub_tail, hfirst, hv]; rfl
    · cases neg with
      | true => show ¬ great (45 : UInt8) = true; decide
      | false => simp [txt, great]; omega
    · cases neg with
      | true => show ¬ small (45 : UInt8) = true; decide
      | false => simp [txt, small]; omega
  unfold Go.Lib.itoa
  by_cases hn : n < 0
  · rw [if_pos hn]
    exact key true n.natAbs (by simp; omega) (fun _ => by omega) (fun h => by cases h)
  · rw [if_neg hn]
    exact key false n.toNat (by simp; omega) (fun h => by cases h) (fun _ => by omega)

/-! what is shown is cut into its tokens -/
theorem named_len {p : UInt8 → Bool} {s : List UInt8} (h : namedB p s = true) : 0 < s.length ∧ s.length ≤ 32 := by
  unfold namedB at h
  simp only [Bool.and_eq_true, decide_eq_true_eq] at h
  exact ⟨h.1.1.1, h.1.1.2⟩
theorem word_named {s : List UInt8} (h : wordB s = true) : namedB small s = true ∧ kept s = false := by
  unfold wordB at h
  simpa using h
theorem wd_cuts {p m : List UInt8} {T : List Tok} (hp : namedB small p = true) (hm : Hd m) (h : Cuts m T) : Cuts (p ++ m) (wd p :: T) :=
  cuts_tok (t := ⟨1, p, 0, 0⟩) (one_word hp) (named_len hp).1 (by have := (named_len hp).2; simp only; omega) hm h
theorem sg_cuts {c : UInt8} {m : List UInt8} {T : List Tok} (hc : signs c = true) (h1 : c.toNat ≠ 58 ∨ Hd m) (h : Cuts m T) : Cuts (c :: m) (sg [c] :: T) := by
  obtain ⟨M, q1, q2⟩ := h
  have hlen : 0 < (c :: m).length := by simp
  have hcc : c.toNat = 40 ∨ c.toNat = 41 ∨ c.toNat = 44 ∨ c.toNat = 46 ∨ c.toNat = 58 := by
    simp only [signs, Bool.or_eq_true, decide_eq_true_eq] at hc; omega
  have ho : one (c :: m) 0 = some (sg [c], 1) := by
    rw [one_at hlen]
    show oneC (c :: m) 0 c = _
    unfold oneC
    rw [if_neg (by simp only [small, Bool.and_eq_true, decide_eq_true_eq]; omega), if_neg (by simp only [great, Bool.and_eq_true, decide_eq_true_eq]; omega), if_neg (by simp only [digit, Bool.or_eq_true, Bool.and_eq_true, decide_eq_true_eq]; omega), if_neg (by omega)]
    unfold sign
    rw [if_neg, if_pos hc]
    · rfl
    · rintro ⟨e1, e2⟩
      rcases h1 with h1 | h1
      · exact h1 e1
      · cases m with
        | nil => simp at e2
        | cons d r =>
          have := (h1 d rfl).2
          simp at e2; exact this e2
  have hf := one_first hlen ho
  have e0 : skip (c :: m) 0 = 0 := by unfold skip; exact skipN_stop hlen hf.1 hf.2
  have e2 := skip_shift [c] m 0
  have e3 := tks_shift [c] m m.length (skip m 0) M (by omega) q1
  simp only [List.singleton_append, List.length_singleton, Nat.add_zero] at e2 e3
  exact ⟨sg [c] :: M.map (sh 1), by rw [e0, tks_cons hlen ho (by simp [sg]), e2, e3]; rfl, by rw [List.map_cons, strip_sh, q2]; rfl⟩
theorem turn_cuts {m : List UInt8} {T : List Tok} (h : Cuts m T) : Cuts (58 :: 45 :: m) (sg [58, 45] :: T) := by
  obtain ⟨M, q1, q2⟩ := h
  have hlen : 0 < (58 :: 45 :: m).length := by simp
  have ho : one (58 :: 45 :: m) 0 = some (sg [58, 45], 2) := by
    rw [one_at hlen]
    show oneC (58 :: 45 :: m) 0 58 = _
    unfold oneC
    rw [if_neg (by decide), if_neg (by decide), if_neg (by decide), if_neg (by decide)]
    unfold sign
    rw [if_pos (by simp)]; rfl
  have hf := one_first hlen ho
  have e0 : skip (58 :: 45 :: m) 0 = 0 := by unfold skip; exact skipN_stop hlen hf.1 hf.2
  have e2 := skip_shift [58, 45] m 0
  have e3 := tks_shift [58, 45] m m.length (skip m 0) M (by omega) q1
  simp only [List.cons_append, List.nil_append, List.length_cons, List.length_nil, Nat.add_zero, Nat.zero_add] at e2 e3
  exact ⟨sg [58, 45] :: M.map (sh 2), by rw [e0, tks_cons hlen ho (by simp [sg]), e2, e3]; rfl, by rw [List.map_cons, strip_sh, q2]; rfl⟩
theorem term_cuts {t : Tm} {s m : List UInt8} {T : List Tok} (hi : KIn t) (hs : termS t = some s) (hm : Hd m) (h : Cuts m T) : Cuts (s ++ m) (tokOf t :: T) := by
  unfold termS at hs
  unfold tokOf
  by_cases hv : t.v ≠ []
  · rw [if_pos hv] at hs ⊢
    split at hs
    · rename_i hn
      cases hs
      simp only [Bool.and_eq_true] at hn
      exact cuts_tok (t := ⟨2, t.v, 0, 0⟩) (one_var hn.2) (named_len hn.2).1 (by have := (named_len hn.2).2; simp only; omega) hm h
    · cases hs
  rw [if_neg hv] at hs ⊢
  by_cases hn : t.k.num = true
  · rw [if_pos hn] at hs ⊢
    split at hs
    · cases hs
      have ho := one_num t.k.n hi
      refine cuts_tok (t := ⟨3, [], t.k.n, 0⟩) ho ?_ (by simp) hm h
      unfold Go.Lib.itoa
      split
      · simp
      · exact List.length_pos_iff.2 (dec_ne _)
    · cases hs
  rw [if_neg hn] at hs ⊢
  split at hs
  · rename_i hp
    have hpl := hp.2
    unfold plainB at hpl
    simp only [Bool.and_eq_true, decide_eq_true_eq, List.all_eq_true] at hpl
    by_cases hw : wordB t.k.s = true
    · rw [if_pos hw] at hs ⊢
      cases hs
      exact wd_cuts (word_named hw).1 hm h
    · rw [if_neg hw] at hs ⊢
      cases hs
      exact cuts_tok (t := ⟨4, t.k.s, 0, 0⟩) (one_quote hpl.2) (by simp) (by have := hpl.1.2; simp only; omega) hm h
  · cases hs
theorem args_cuts : ∀ {ts : List Tm} {s m : List UInt8} {T : List Tok}, (∀ t ∈ ts, KIn t) → argsS ts = some s → Hd m → Cuts m T → Cuts (s ++ m) (argsT ts ++ T)
  | [], s, m, T, _, hs, _, h => by cases hs; exact h
  | [t], s, m, T, hi, hs, hm, h => term_cuts (hi t (by simp)) hs hm h
  | t :: u :: r, s, m, T, hi, hs, hm, h => by
    rw [argsS, Option.bind_eq_some_iff] at hs
    obtain ⟨a, ha, hs⟩ := hs
    rw [Option.map_eq_some_iff] at hs
    obtain ⟨x, hx, rfl⟩ := hs
    have h1 := args_cuts (ts := u :: r) (fun t ht => hi t (by simp at ht ⊢; exact .inr ht)) hx hm h
    have h2 := sg_cuts (c := 44) (by decide) (.inl (by decide)) (cuts_blank (c := 32) (by decide) h1)
    have h3 := term_cuts (hi t (by simp)) ha (hd_cons (c := 44) _ (by decide)) h2
    simpa [argsT] using h3
theorem atom_cuts {p : List UInt8} {ts : List Tm} {s m : List UInt8} {T : List Tok} (hi : ∀ t ∈ ts, KIn t) (hs : atomS p ts = some s) (h : Cuts m T) : Cuts (s ++ m) (atomT p ts ++ T) := by
  unfold atomS at hs
  split at hs
  · rename_i hp
    rw [Option.map_eq_some_iff] at hs
    obtain ⟨x, hx, rfl⟩ := hs
    have h1 := sg_cuts (c := 41) (by decide) (.inl (by decide)) h
    have h2 := args_cuts hi hx (hd_cons (c := 41) _ (by decide)) h1
    have h3 := sg_cuts (c := 40) (by decide) (.inl (by decide)) h2
    have h4 := wd_cuts (word_named hp.1).1 (hd_cons (c := 40) _ (by decide)) h3
    simpa [atomT] using h4
  · cases hs
theorem hd_blank (m : List UInt8) : Hd (32 :: m) := hd_cons m (by decide)
theorem word_kept_cuts {p m : List UInt8} {T : List Tok} (hp : p = says ∨ p = Ps.to ∨ p = at_) (h : Cuts m T) : Cuts (32 :: (p ++ (32 :: m))) (wd p :: T) := by
  have hn : namedB small p = true := by rcases hp with rfl | rfl | rfl <;> decide
  exact cuts_blank (by decide) (wd_cuts hn (hd_blank _) (cuts_blank (by decide) h))
theorem by_cuts {t : Tm} {s m : List UInt8} {T : List Tok} (hi : KIn t) (hs : maybeS [] t [32, 115, 97, 121, 115, 32] = some s) (h : Cuts m T) : Cuts (s ++ m) (maybeT [] t [wd says] ++ T) := by
  unfold maybeS at hs
  unfold maybeT
  split at hs
  · rename_i hn
    cases hs
    rw [if_pos hn]; exact h
  · rename_i hn
    rw [if_neg hn]
    rw [Option.map_eq_some_iff] at hs
    obtain ⟨x, hx, rfl⟩ := hs
    have h1 := term_cuts hi hx (hd_blank _) (word_kept_cuts (.inl rfl) h)
    simpa [says] using h1
theorem tail_cuts {t : Tm} {s m p : List UInt8} {T : List Tok} (hp : p = Ps.to ∨ p = at_) (hi : KIn t) (hs : maybeS (32 :: (p ++ [32])) t [] = some s) (hm : Hd m) (h : Cuts m T) : Cuts (s ++ m) (maybeT [wd p] t [] ++ T) := by
  unfold maybeS at hs
  unfold maybeT
  split at hs
  · rename_i hn
    cases hs
    rw [if_pos hn]; exact h
  · rename_i hn
    rw [if_neg hn]
    rw [Option.map_eq_some_iff] at hs
    obtain ⟨x, hx, rfl⟩ := hs
    have h1 := word_kept_cuts (p := p) (.inr hp) (term_cuts hi hx hm h)
    simpa using h1
theorem lit_cuts {l : Lt} {s m : List UInt8} {T : List Tok} (hi : LIn l) (hs : litS l = some s) (hm : Hd m) (h : Cuts m T) : Cuts (s ++ m) (litT l ++ T) := by
  unfold litS at hs
  rw [Option.bind_eq_some_iff] at hs
  obtain ⟨b, hb, hs⟩ := hs
  rw [Option.bind_eq_some_iff] at hs
  obtain ⟨x, hx, hs⟩ := hs
  rw [Option.map_eq_some_iff] at hs
  obtain ⟨a, ha, rfl⟩ := hs
  have h1 := tail_cuts (p := at_) (.inr rfl) hi.2.2 ha hm h
  have h2 := atom_cuts hi.2.1 hx h1
  have h3 := by_cuts hi.1 hb h2
  simpa [litT] using h3
theorem lits_cuts : ∀ {ls : List Lt} {s m : List UInt8} {T : List Tok}, (∀ l ∈ ls, LIn l) → litsS ls = some s → Hd m → Cuts m T → Cuts (s ++ m) (litsT ls ++ T)
  | [], s, m, T, _, hs, _, h => by cases hs; exact h
  | [l], s, m, T, hi, hs, hm, h => lit_cuts (hi l (by simp)) hs hm h
  | l :: u :: r, s, m, T, hi, hs, hm, h => by
    rw [litsS, Option.bind_eq_some_iff] at hs
    obtain ⟨a, ha, hs⟩ := hs
    rw [Option.map_eq_some_iff] at hs
    obtain ⟨x, hx, rfl⟩ := hs
    have h1 := lits_cuts (ls := u :: r) (fun t ht => hi t (by simp at ht ⊢; exact .inr ht)) hx hm h
    have h2 := sg_cuts (c := 44) (by decide) (.inl (by decide)) (cuts_blank (c := 32) (by decide) h1)
    have h3 := lit_cuts (hi l (by simp)) ha (hd_cons (c := 44) _ (by decide)) h2
    simpa [litsT] using h3
theorem rule_cuts {r : Ru} {s m : List UInt8} {T : List Tok} (hi : RIn r) (hs : ruleS r = some s) (h : Cuts m T) : Cuts (s ++ m) (ruleT r ++ T) := by
  unfold ruleS at hs
  split at hs
  · rw [Option.bind_eq_some_iff] at hs
    obtain ⟨a, ha, hs⟩ := hs
    rw [Option.bind_eq_some_iff] at hs
    obtain ⟨x, hx, hs⟩ := hs
    rw [Option.bind_eq_some_iff] at hs
    obtain ⟨t, ht, hs⟩ := hs
    rw [Option.map_eq_some_iff] at hs
    obtain ⟨b, hb, rfl⟩ := hs
    have h1 := sg_cuts (c := 46) (by decide) (.inl (by decide)) h
    have h2 := lits_cuts hi.2.2.2 hb (hd_cons (c := 46) _ (by decide)) h1
    have h3 := cuts_blank (c := 32) (by decide) (turn_cuts (cuts_blank (c := 32) (by decide) h2))
    have h4 := tail_cuts (p := Ps.to) (.inl rfl) hi.2.2.1 ht (hd_blank _) h3
    have h5 := atom_cuts hi.2.1 hx h4
    have h6 := sg_cuts (c := 58) (by decide) (.inr (hd_blank _)) (cuts_blank (c := 32) (by decide) h5)
    have h7 := term_cuts hi.1 ha (hd_cons (c := 58) _ (by decide)) h6
    simpa [ruleT] using h7
  · cases hs
theorem all_cuts : ∀ {l : List Ru} {s : List UInt8}, (∀ r ∈ l, RIn r) → allS l = some s → Cuts s (allT l)
  | [], s, _, hs => by cases hs; exact cuts_nil
  | r :: l, s, hi, hs => by
    rw [allS, Option.bind_eq_some_iff] at hs
    obtain ⟨a, ha, hs⟩ := hs
    rw [Option.map_eq_some_iff] at hs
    obtain ⟨x, hx, rfl⟩ := hs
    have h1 := all_cuts (l := l) (fun t ht => hi t (by simp [ht])) hx
    have h2 := rule_cuts (hi r (by simp)) ha (cuts_blank (c := 10) (by decide) h1)
    simpa [allT] using h2
end Sh
end Go.Proofs.YtcogjphoceaejaaDoor
