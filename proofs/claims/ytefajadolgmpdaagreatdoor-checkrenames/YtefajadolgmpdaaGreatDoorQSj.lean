/-
  The mathematics of layer 9: terms, literals, rules, programs as texts; what is shown is cut into the tokens of just that. No program in this text.
-/
import Derived.Test.YtefajadolgmpdaaGreatDoorQLm4
namespace Go.Proofs.YtefajadolgmpdaaGreatDoor
namespace Sh
open Lx Ps

def namedB (p : UInt8 → Bool) (s : List UInt8) : Bool := decide (1 ≤ s.length) && decide (s.length ≤ 32) && (match s with | [] => false | c :: _ => p c) && s.all inner
def wordB (s : List UInt8) : Bool := namedB small s && !kept s
def zk (k : K) : Bool := !k.num && decide (k.n = 0) && k.s.isEmpty
def plainB (s : List UInt8) : Bool := decide (1 ≤ s.length) && decide (s.length ≤ 32) && s.all plain
def termS (t : Tm) : Option (List UInt8) :=
  if t.v ≠ [] then (if (zk t.k && namedB great t.v) = true then some t.v else none)
  else if t.k.num = true then (if t.k.s = [] then some (Go.Lib.itoa t.k.n) else none)
  else if t.k.n = 0 ∧ plainB t.k.s = true then (if wordB t.k.s = true then some t.k.s else some (34 :: (t.k.s ++ [34]))) else none
def noneT (t : Tm) : Bool := t.v.isEmpty && zk t.k
def maybeS (a : List UInt8) (t : Tm) (b : List UInt8) : Option (List UInt8) := if noneT t = true then some [] else (termS t).map fun s => a ++ (s ++ b)
def argsS : List Tm → Option (List UInt8)
  | [] => some []
  | [t] => termS t
  | t :: u :: r => (termS t).bind fun s => (argsS (u :: r)).map fun x => s ++ (44 :: 32 :: x)
def atomS (p : List UInt8) (ts : List Tm) : Option (List UInt8) := if wordB p = true ∧ ts.length ≤ 4 then (argsS ts).map fun s => p ++ (40 :: (s ++ [41])) else none
def litS (l : Lt) : Option (List UInt8) :=
  (maybeS [] l.by_ [32, 115, 97, 121, 115, 32]).bind fun b => (atomS l.pred l.args).bind fun x => (maybeS [32, 97, 116, 32] l.at_ []).map fun a => b ++ (x ++ a)
def litsS : List Lt → Option (List UInt8)
  | [] => some []
  | [l] => litS l
  | l :: u :: r => (litS l).bind fun s => (litsS (u :: r)).map fun x => s ++ (44 :: 32 :: x)
def ruleS (r : Ru) : Option (List UInt8) :=
  if 1 ≤ r.body.length ∧ r.body.length ≤ 4 then
    (termS r.home).bind fun h => (atomS r.pred r.args).bind fun x => (maybeS [32, 116, 111, 32] r.to_ []).bind fun t => (litsS r.body).map fun b =>
      h ++ (58 :: 32 :: (x ++ (t ++ (32 :: 58 :: 45 :: 32 :: (b ++ [46])))))
  else none
def allS : List Ru → Option (List UInt8)
  | [] => some []
  | r :: l => (ruleS r).bind fun s => (allS l).map fun x => s ++ (10 :: x)
/-- what show.Program answers: the text, or the error -/
def progS (l : List Ru) : Except Int (List UInt8) :=
  if 16 < l.length then .error 81 else match allS l with
  | none => .error 100
  | some s => if 4096 < s.length then .error 3 else .ok s

/-! tokens -/
def tokOf (t : Tm) : Tok := if t.v ≠ [] then ⟨2, t.v, 0, 0⟩ else if t.k.num = true then ⟨3, [], t.k.n, 0⟩ else if wordB t.k.s = true then ⟨1, t.k.s, 0, 0⟩ else ⟨4, t.k.s, 0, 0⟩
def sg (s : List UInt8) : Tok := ⟨5, s, 0, 0⟩
def wd (s : List UInt8) : Tok := ⟨1, s, 0, 0⟩
def argsT : List Tm → List Tok
  | [] => []
  | [t] => [tokOf t]
  | t :: u :: r => tokOf t :: sg [44] :: argsT (u :: r)
def atomT (p : List UInt8) (ts : List Tm) : List Tok := wd p :: sg [40] :: (argsT ts ++ [sg [41]])
def maybeT (a : List Tok) (t : Tm) (b : List Tok) : List Tok := if noneT t = true then [] else a ++ (tokOf t :: b)
def litT (l : Lt) : List Tok := maybeT [] l.by_ [wd says] ++ (atomT l.pred l.args ++ maybeT [wd at_] l.at_ [])
def litsT : List Lt → List Tok
  | [] => []
  | [l] => litT l
  | l :: u :: r => litT l ++ (sg [44] :: litsT (u :: r))
def ruleT (r : Ru) : List Tok := tokOf r.home :: sg [58] :: (atomT r.pred r.args ++ (maybeT [wd Ps.to] r.to_ [] ++ (sg [58, 45] :: (litsT r.body ++ [sg [46]]))))
def allT (l : List Ru) : List Tok := l.flatMap ruleT

/-! a number that an int holds -/
def KIn (t : Tm) : Prop := -9223372036854775808 ≤ t.k.n ∧ t.k.n ≤ 9223372036854775807
def LIn (l : Lt) : Prop := KIn l.by_ ∧ (∀ t ∈ l.args, KIn t) ∧ KIn l.at_
def RIn (r : Ru) : Prop := KIn r.home ∧ (∀ t ∈ r.args, KIn t) ∧ KIn r.to_ ∧ ∀ l ∈ r.body, LIn l

/-! texts that are cut -/
def Hd (m : List UInt8) : Prop := ∀ c, m.head? = some c → inner c = false ∧ c.toNat ≠ 45
theorem hd_nil : Hd [] := fun c h => by simp at h
theorem hd_cons {c : UInt8} (m : List UInt8) (h : inner c = false ∧ c.toNat ≠ 45) : Hd (c :: m) := fun d hd => by simp at hd; subst hd; exact h
def Cuts (m : List UInt8) (T : List Tok) : Prop := ∃ M, tks m (skip m 0) = .ok M ∧ M.map strip = T
theorem cuts_nil : Cuts [] [] := ⟨[], rfl, rfl⟩
theorem strip_sh (n : Nat) (M : List Tok) : (M.map (sh n)).map strip = M.map strip := sm_shift n M
theorem cuts_blank {c : UInt8} {m : List UInt8} {T : List Tok} (hc : Lx.blank c = true) (h : Cuts m T) : Cuts (c :: m) T := by
  obtain ⟨M, h1, h2⟩ := h
  have e1 : skip (c :: m) 0 = skip (c :: m) 1 := skip_blank (l := c :: m) (i := 0) (by simp) hc
  have e2 := skip_shift [c] m 0
  have e3 := tks_shift [c] m m.length (skip m 0) M (by omega) h1
  simp only [List.singleton_append, List.length_singleton, Nat.add_zero] at e2 e3
  exact ⟨M.map (sh 1), by rw [e1, e2, e3], by rw [strip_sh, h2]⟩
theorem cuts_tok {s m : List UInt8} {t : Tok} {T : List Tok} (hs : one s 0 = some (t, s.length)) (h0 : 0 < s.length) (hl : ¬ 32 < t.text.length) (hm : Hd m) (h : Cuts m T) : Cuts (s ++ m) (strip t :: T) := by
  obtain ⟨M, h1, h2⟩ := h
  have hlen : 0 < (s ++ m).length := by rw [List.length_append]; omega
  have ho := one_some_app hm h0 hs
  have hf := one_first hlen ho
  have e0 : skip (s ++ m) 0 = 0 := by unfold skip; exact skipN_stop hlen hf.1 hf.2
  have e2 := skip_shift s m 0
  have e3 := tks_shift s m m.length (skip m 0) M (by omega) h1
  rw [Nat.add_zero] at e2
  exact ⟨t :: M.map (sh s.length), by rw [e0, tks_cons hlen ho hl, e2, e3]; rfl, by rw [List.map_cons, strip_sh, h2]⟩
theorem run_all {p : UInt8 → Bool} {s : List UInt8} {i : Nat} (h : ∀ c ∈ s.drop i, p c = true) (hi : i ≤ s.length) : run p s i = s.length := by
  unfold run; rw [tw_all _ h, List.length_drop]; omega
theorem one_word {s : List UInt8} (h : namedB small s = true) : one s 0 = some (⟨1, s, 0, 0⟩, s.length) := by
  unfold namedB at h
  cases s with
  | nil => simp at h
  | cons c r =>
    simp only [Bool.and_eq_true, List.all_eq_true] at h
    rw [one_at (by simp)]
    show oneC (c :: r) 0 c = _
    unfold oneC
    rw [if_pos h.1.2]
    unfold Lx.word
    rw [run_all (fun d hd => h.2 d (by simpa using hd)) (Nat.zero_le _), sub_tail]; rfl
theorem great_small {c : UInt8} (h : great c = true) : ¬ small c = true := by
  simp only [great, small, Bool.and_eq_true, decide_eq_true_eq] at *; omega
theorem one_var {s : List UInt8} (h : namedB great s = true) : one s 0 = some (⟨2, s, 0, 0⟩, s.length) := by
  unfold namedB at h
  cases s with
  | nil => simp at h
  | cons c r =>
    simp only [Bool.and_eq_true, List.all_eq_true] at h
    rw [one_at (by simp)]
    show oneC (c :: r) 0 c = _
    unfold oneC
    rw [if_neg (great_small h.1.2), if_pos h.1.2]
    unfold Lx.word
    rw [run_all (fun d hd => h.2 d (by simpa using hd)) (Nat.zero_le _), sub_tail]; rfl
theorem one_quote {s : List UInt8} (h : ∀ c ∈ s, plain c = true) : one (34 :: (s ++ [34])) 0 = some (⟨4, s, 0, 0⟩, (34 :: (s ++ [34])).length) := by
  rw [one_at (by simp)]
  show oneC (34 :: (s ++ [34])) 0 34 = _
  unfold oneC
  rw [if_neg (by decide), if_neg (by decide), if_neg (by decide), if_pos (by decide)]
  have hr : run plain (34 :: (s ++ [34])) 1 = s.length + 1 := by
    unfold run
    show 1 + ((s ++ [34]).takeWhile plain).length = _
    rw [List.takeWhile_append_of_pos h]
    have : List.takeWhile plain [34] = [] := by decide
    rw [this]; simp; omega
  unfold quote
  rw [hr]
  have e1 : (34 :: (s ++ [34]))[s.length + 1]?.map (·.toNat) = some 34 := by simp
  rw [if_pos e1]
  have e2 : sub (34 :: (s ++ [34])) (0 + 1) (s.length + 1) = s := by unfold sub; simp
  rw [e2]; simp
theorem one_num (n : Int) (h : -9223372036854775808 ≤ n ∧ n ≤ 9223372036854775807) : one (Go.Lib.itoa n) 0 = some (⟨3, [], n, 0⟩, (Go.Lib.itoa n).length) := by
  have key : ∀ (neg : Bool) (u : Nat), n = (if neg = true then -(u : Int) else u) → (neg = true → 1 ≤ u ∧ u ≤ 9223372036854775808) → (neg = false → u < 9223372036854775808) → one (txt neg (Go.Lib.decDigits u)) 0 = some (⟨3, [], n, 0⟩, (txt neg (Go.Lib.decDigits u)).length) := by
    intro neg u hn h1 h2
    have hv := num_self hn h1 h2
    have hd := dec_digits u
    obtain ⟨a, q, hq⟩ := List.exists_cons_of_ne_nil (dec_ne u)
    rw [hq] at hv hd ⊢
    have ha := digit_le (hd a (by simp))
    have hlen : 0 < (txt neg (a :: q)).length := by cases neg <;> simp [txt]
    have hneg : isNeg (txt neg (a :: q)) 0 = neg := by
      cases neg with
      | true => rfl
      | false =>
        have h0 : a.toNat ≠ 45 := by omega
        simp [isNeg, txt, h0]
    have hc : (digit ((txt neg (a :: q))[0]'hlen) || decide (((txt neg (a :: q))[0]'hlen).toNat = 45)) = true := by
      cases neg with
      | true => rfl
      | false => simp [txt, hd a (by simp)]
    have hfirst : (txt neg (a :: q)).drop (first (txt neg (a :: q)) 0) = a :: q := by
      unfold first; rw [hneg]
      cases neg <;> rfl
    have hrun : run digit (txt neg (a :: q)) (first (txt neg (a :: q)) 0) = (txt neg (a :: q)).length :=
      run_all (by rw [hfirst]; exact hd) (first_lt hlen)
    rw [one_at hlen]
    unfold oneC
    rw [if_neg, if_neg, if_pos hc]
    · unfold number
      rw [hneg, hrun, sub_tail, hfirst, hv]; rfl
    · cases neg with
      | true => show ¬ great (45 : UInt8) = true; decide
      | false => simp [txt, great]; omega
    · cases neg with
      | true => show ¬ small (45 : UInt8) = true; decide
      | false => simp [txt, small]; omega
  unfold Go.Lib.itoa
  by_cases hn : n < 0
  · rw [if_pos hn]
    exact key true n.natAbs (by simp; omega) (fun _ => by omega) (fun h => by cases h)
  · rw [if_neg hn]
    exact key false n.toNat (by simp; omega) (fun h => by cases h) (fun _ => by omega)

/-! what is shown is cut into its tokens -/
theorem named_len {p : UInt8 → Bool} {s : List UInt8} (h : namedB p s = true) : 0 < s.length ∧ s.length ≤ 32 := by
  unfold namedB at h
  simp only [Bool.and_eq_true, decide_eq_true_eq] at h
  exact ⟨h.1.1.1, h.1.1.2⟩
theorem word_named {s : List UInt8} (h : wordB s = true) : namedB small s = true ∧ kept s = false := by
  unfold wordB at h
  simpa using h
theorem wd_cuts {p m : List UInt8} {T : List Tok} (hp : namedB small p = true) (hm : Hd m) (h : Cuts m T) : Cuts (p ++ m) (wd p :: T) :=
  cuts_tok (t := ⟨1, p, 0, 0⟩) (one_word hp) (named_len hp).1 (by have := (named_len hp).2; simp only; omega) hm h
theorem sg_cuts {c : UInt8} {m : List UInt8} {T : List Tok} (hc : signs c = true) (h1 : c.toNat ≠ 58 ∨ Hd m) (h : Cuts m T) : Cuts (c :: m) (sg [c] :: T) := by
  obtain ⟨M, q1, q2⟩ := h
  have hlen : 0 < (c :: m).length := by simp
  have hcc : c.toNat = 40 ∨ c.toNat = 41 ∨ c.toNat = 44 ∨ c.toNat = 46 ∨ c.toNat = 58 := by
    simp only [signs, Bool.or_eq_true, decide_eq_true_eq] at hc; omega
  have ho : one (c :: m) 0 = some (sg [c], 1) := by
    rw [one_at hlen]
    show oneC (c :: m) 0 c = _
    unfold oneC
    rw [if_neg (by simp only [small, Bool.and_eq_true, decide_eq_true_eq]; omega), if_neg (by simp only [great, Bool.and_eq_true, decide_eq_true_eq]; omega), if_neg (by simp only [digit, Bool.or_eq_true, Bool.and_eq_true, decide_eq_true_eq]; omega), if_neg (by omega)]
    unfold sign
    rw [if_neg, if_pos hc]
    · rfl
    · rintro ⟨e1, e2⟩
      rcases h1 with h1 | h1
      · exact h1 e1
      · cases m with
        | nil => simp at e2
        | cons d r =>
          have := (h1 d rfl).2
          simp at e2; exact this e2
  have hf := one_first hlen ho
  have e0 : skip (c :: m) 0 = 0 := by unfold skip; exact skipN_stop hlen hf.1 hf.2
  have e2 := skip_shift [c] m 0
  have e3 := tks_shift [c] m m.length (skip m 0) M (by omega) q1
  simp only [List.singleton_append, List.length_singleton, Nat.add_zero] at e2 e3
  exact ⟨sg [c] :: M.map (sh 1), by rw [e0, tks_cons hlen ho (by simp [sg]), e2, e3]; rfl, by rw [List.map_cons, strip_sh, q2]; rfl⟩
theorem turn_cuts {m : List UInt8} {T : List Tok} (h : Cuts m T) : Cuts (58 :: 45 :: m) (sg [58, 45] :: T) := by
  obtain ⟨M, q1, q2⟩ := h
  have hlen : 0 < (58 :: 45 :: m).length := by simp
  have ho : one (58 :: 45 :: m) 0 = some (sg [58, 45], 2) := by
    rw [one_at hlen]
    show oneC (58 :: 45 :: m) 0 58 = _
    unfold oneC
    rw [if_neg (by decide), if_neg (by decide), if_neg (by decide), if_neg (by decide)]
    unfold sign
    rw [if_pos (by simp)]; rfl
  have hf := one_first hlen ho
  have e0 : skip (58 :: 45 :: m) 0 = 0 := by unfold skip; exact skipN_stop hlen hf.1 hf.2
  have e2 := skip_shift [58, 45] m 0
  have e3 := tks_shift [58, 45] m m.length (skip m 0) M (by omega) q1
  simp only [List.cons_append, List.nil_append, List.length_cons, List.length_nil, Nat.add_zero, Nat.zero_add] at e2 e3
  exact ⟨sg [58, 45] :: M.map (sh 2), by rw [e0, tks_cons hlen ho (by simp [sg]), e2, e3]; rfl, by rw [List.map_cons, strip_sh, q2]; rfl⟩
theorem term_cuts {t : Tm} {s m : List UInt8} {T : List Tok} (hi : KIn t) (hs : termS t = some s) (hm : Hd m) (h : Cuts m T) : Cuts (s ++ m) (tokOf t :: T) := by
  unfold termS at hs
  unfold tokOf
  by_cases hv : t.v ≠ []
  · rw [if_pos hv] at hs ⊢
    split at hs
    · rename_i hn
      cases hs
      simp only [Bool.and_eq_true] at hn
      exact cuts_tok (t := ⟨2, t.v, 0, 0⟩) (one_var hn.2) (named_len hn.2).1 (by have := (named_len hn.2).2; simp only; omega) hm h
    · cases hs
  rw [if_neg hv] at hs ⊢
  by_cases hn : t.k.num = true
  · rw [if_pos hn] at hs ⊢
    split at hs
    · cases hs
      have ho := one_num t.k.n hi
      refine cuts_tok (t := ⟨3, [], t.k.n, 0⟩) ho ?_ (by simp) hm h
      unfold Go.Lib.itoa
      split
      · simp
      · exact List.length_pos_iff.2 (dec_ne _)
    · cases hs
  rw [if_neg hn] at hs ⊢
  split at hs
  · rename_i hp
    have hpl := hp.2
    unfold plainB at hpl
    simp only [Bool.and_eq_true, decide_eq_true_eq, List.all_eq_true] at hpl
    by_cases hw : wordB t.k.s = true
    · rw [if_pos hw] at hs ⊢
      cases hs
      exact wd_cuts (word_named hw).1 hm h
    · rw [if_neg hw] at hs ⊢
      cases hs
      exact cuts_tok (t := ⟨4, t.k.s, 0, 0⟩) (one_quote hpl.2) (by simp) (by have := hpl.1.2; simp only; omega) hm h
  · cases hs
theorem args_cuts : ∀ {ts : List Tm} {s m : List UInt8} {T : List Tok}, (∀ t ∈ ts, KIn t) → argsS ts = some s → Hd m → Cuts m T → Cuts (s ++ m) (argsT ts ++ T)
  | [], s, m, T, _, hs, _, h => by cases hs; exact h
  | [t], s, m, T, hi, hs, hm, h => term_cuts (hi t (by simp)) hs hm h
  | t :: u :: r, s, m, T, hi, hs, hm, h => by
    rw [argsS, Option.bind_eq_some_iff] at hs
    obtain ⟨a, ha, hs⟩ := hs
    rw [Option.map_eq_some_iff] at hs
    obtain ⟨x, hx, rfl⟩ := hs
    have h1 := args_cuts (ts := u :: r) (fun t ht => hi t (by simp at ht ⊢; exact .inr ht)) hx hm h
    have h2 := sg_cuts (c := 44) (by decide) (.inl (by decide)) (cuts_blank (c := 32) (by decide) h1)
    have h3 := term_cuts (hi t (by simp)) ha (hd_cons (c := 44) _ (by decide)) h2
    simpa [argsT] using h3
theorem atom_cuts {p : List UInt8} {ts : List Tm} {s m : List UInt8} {T : List Tok} (hi : ∀ t ∈ ts, KIn t) (hs : atomS p ts = some s) (h : Cuts m T) : Cuts (s ++ m) (atomT p ts ++ T) := by
  unfold atomS at hs
  split at hs
  · rename_i hp
    rw [Option.map_eq_some_iff] at hs
    obtain ⟨x, hx, rfl⟩ := hs
    have h1 := sg_cuts (c := 41) (by decide) (.inl (by decide)) h
    have h2 := args_cuts hi hx (hd_cons (c := 41) _ (by decide)) h1
    have h3 := sg_cuts (c := 40) (by decide) (.inl (by decide)) h2
    have h4 := wd_cuts (word_named hp.1).1 (hd_cons (c := 40) _ (by decide)) h3
    simpa [atomT] using h4
  · cases hs
theorem hd_blank (m : List UInt8) : Hd (32 :: m) := hd_cons m (by decide)
theorem word_kept_cuts {p m : List UInt8} {T : List Tok} (hp : p = says ∨ p = Ps.to ∨ p = at_) (h : Cuts m T) : Cuts (32 :: (p ++ (32 :: m))) (wd p :: T) := by
  have hn : namedB small p = true := by rcases hp with rfl | rfl | rfl <;> decide
  exact cuts_blank (by decide) (wd_cuts hn (hd_blank _) (cuts_blank (by decide) h))
theorem by_cuts {t : Tm} {s m : List UInt8} {T : List Tok} (hi : KIn t) (hs : maybeS [] t [32, 115, 97, 121, 115, 32] = some s) (h : Cuts m T) : Cuts (s ++ m) (maybeT [] t [wd says] ++ T) := by
  unfold maybeS at hs
  unfold maybeT
  split at hs
  · rename_i hn
    cases hs
    rw [if_pos hn]; exact h
  · rename_i hn
    rw [if_neg hn]
    rw [Option.map_eq_some_iff] at hs
    obtain ⟨x, hx, rfl⟩ := hs
    have h1 := term_cuts hi hx (hd_blank _) (word_kept_cuts (.inl rfl) h)
    simpa [says] using h1
theorem tail_cuts {t : Tm} {s m p : List UInt8} {T : List Tok} (hp : p = Ps.to ∨ p = at_) (hi : KIn t) (hs : maybeS (32 :: (p ++ [32])) t [] = some s) (hm : Hd m) (h : Cuts m T) : Cuts (s ++ m) (maybeT [wd p] t [] ++ T) := by
  unfold maybeS at hs
  unfold maybeT
  split at hs
  · rename_i hn
    cases hs
    rw [if_pos hn]; exact h
  · rename_i hn
    rw [if_neg hn]
    rw [Option.map_eq_some_iff] at hs
    obtain ⟨x, hx, rfl⟩ := hs
    have h1 := word_kept_cuts (p := p) (.inr hp) (term_cuts hi hx hm h)
    simpa using h1
theorem lit_cuts {l : Lt} {s m : List UInt8} {T : List Tok} (hi : LIn l) (hs : litS l = some s) (hm : Hd m) (h : Cuts m T) : Cuts (s ++ m) (litT l ++ T) := by
  unfold litS at hs
  rw [Option.bind_eq_some_iff] at hs
  obtain ⟨b, hb, hs⟩ := hs
  rw [Option.bind_eq_some_iff] at hs
  obtain ⟨x, hx, hs⟩ := hs
  rw [Option.map_eq_some_iff] at hs
  obtain ⟨a, ha, rfl⟩ := hs
  have h1 := tail_cuts (p := at_) (.inr rfl) hi.2.2 ha hm h
  have h2 := atom_cuts hi.2.1 hx h1
  have h3 := by_cuts hi.1 hb h2
  simpa [litT] using h3
theorem lits_cuts : ∀ {ls : List Lt} {s m : List UInt8} {T : List Tok}, (∀ l ∈ ls, LIn l) → litsS ls = some s → Hd m → Cuts m T → Cuts (s ++ m) (litsT ls ++ T)
  | [], s, m, T, _, hs, _, h => by cases hs; exact h
  | [l], s, m, T, hi, hs, hm, h => lit_cuts (hi l (by simp)) hs hm h
  | l :: u :: r, s, m, T, hi, hs, hm, h => by
    rw [litsS, Option.bind_eq_some_iff] at hs
    obtain ⟨a, ha, hs⟩ := hs
    rw [Option.map_eq_some_iff] at hs
    obtain ⟨x, hx, rfl⟩ := hs
    have h1 := lits_cuts (ls := u :: r) (fun t ht => hi t (by simp at ht ⊢; exact .inr ht)) hx hm h
    have h2 := sg_cuts (c := 44) (by decide) (.inl (by decide)) (cuts_blank (c := 32) (by decide) h1)
    have h3 := lit_cuts (hi l (by simp)) ha (hd_cons (c := 44) _ (by decide)) h2
    simpa [litsT] using h3
theorem rule_cuts {r : Ru} {s m : List UInt8} {T : List Tok} (hi : RIn r) (hs : ruleS r = some s) (h : Cuts m T) : Cuts (s ++ m) (ruleT r ++ T) := by
  unfold ruleS at hs
  split at hs
  · rw [Option.bind_eq_some_iff] at hs
    obtain ⟨a, ha, hs⟩ := hs
    rw [Option.bind_eq_some_iff] at hs
    obtain ⟨x, hx, hs⟩ := hs
    rw [Option.bind_eq_some_iff] at hs
    obtain ⟨t, ht, hs⟩ := hs
    rw [Option.map_eq_some_iff] at hs
    obtain ⟨b, hb, rfl⟩ := hs
    have h1 := sg_cuts (c := 46) (by decide) (.inl (by decide)) h
    have h2 := lits_cuts hi.2.2.2 hb (hd_cons (c := 46) _ (by decide)) h1
    have h3 := cuts_blank (c := 32) (by decide) (turn_cuts (cuts_blank (c := 32) (by decide) h2))
    have h4 := tail_cuts (p := Ps.to) (.inl rfl) hi.2.2.1 ht (hd_blank _) h3
    have h5 := atom_cuts hi.2.1 hx h4
    have h6 := sg_cuts (c := 58) (by decide) (.inr (hd_blank _)) (cuts_blank (c := 32) (by decide) h5)
    have h7 := term_cuts hi.1 ha (hd_cons (c := 58) _ (by decide)) h6
    simpa [ruleT] using h7
  · cases hs
theorem all_cuts : ∀ {l : List Ru} {s : List UInt8}, (∀ r ∈ l, RIn r) → allS l = some s → Cuts s (allT l)
  | [], s, _, hs => by cases hs; exact cuts_nil
  | r :: l, s, hi, hs => by
    rw [allS, Option.bind_eq_some_iff] at hs
    obtain ⟨a, ha, hs⟩ := hs
    rw [Option.map_eq_some_iff] at hs
    obtain ⟨x, hx, rfl⟩ := hs
    have h1 := all_cuts (l := l) (fun t ht => hi t (by simp [ht])) hx
    have h2 := rule_cuts (hi r (by simp)) ha (cuts_blank (c := 10) (by decide) h1)
    simpa [allT] using h2
end Sh
end Go.Proofs.YtefajadolgmpdaaGreatDoor

/-
  The mathematics of layer 9: the tokens of what is shown are read as what was shown; unlike terms and rules have unlike texts. No program in this text.
-/
namespace Go.Proofs.YtefajadolgmpdaaGreatDoor
namespace Sh
open Lx Ps

theorem zk_is {k : K} (h : zk k = true) : k = k0 := by
  obtain ⟨a, n, s⟩ := k
  simp only [zk, Bool.and_eq_true, Bool.not_eq_true', decide_eq_true_eq, List.isEmpty_iff] at h
  obtain ⟨⟨rfl, rfl⟩, rfl⟩ := h; rfl
theorem none_is {t : Tm} (h : noneT t = true) : t = t0 := by
  obtain ⟨v, k⟩ := t
  simp only [noneT, Bool.and_eq_true, List.isEmpty_iff] at h
  obtain ⟨rfl, hk⟩ := h
  rw [zk_is hk]; rfl
theorem tok_may {t : Tm} {s : List UInt8} (hs : termS t = some s) : mayT (tokOf t) = true ∧ tm (tokOf t) = t := by
  obtain ⟨v, ⟨b, n, x⟩⟩ := t
  unfold termS at hs
  unfold tokOf
  dsimp only at hs ⊢
  by_cases hv : v ≠ []
  · rw [if_pos hv] at hs ⊢
    split at hs
    · rename_i hn
      simp only [Bool.and_eq_true] at hn
      have hk := zk_is hn.1
      exact ⟨rfl, by rw [hk]; rfl⟩
    · cases hs
  rw [if_neg hv] at hs ⊢
  have hv := Classical.not_not.1 hv
  subst hv
  by_cases hn : b = true
  · rw [if_pos hn] at hs ⊢
    split at hs
    · rename_i hx
      subst hx; subst hn; exact ⟨rfl, rfl⟩
    · cases hs
  rw [if_neg hn] at hs ⊢
  have hn : b = false := by simpa using hn
  subst hn
  split at hs
  · rename_i hp
    obtain ⟨rfl, hpl⟩ := hp
    by_cases hw : wordB x = true
    · rw [if_pos hw]
      refine ⟨mayW_T ?_, rfl⟩
      show (true && !kept x) = true
      rw [(word_named hw).2]; rfl
    · rw [if_neg hw]
      refine ⟨?_, rfl⟩
      unfold plainB at hpl
      cases x with
      | nil => simp at hpl
      | cons c r => rfl
  · cases hs
theorem tok_kind (t : Tm) : (tokOf t).kind ≠ 5 := by
  unfold tokOf
  split
  · simp
  split
  · simp
  split <;> simp
theorem tok_sign (t : Tm) (s : List UInt8) : isT 5 s (tokOf t) = false := by
  have := tok_kind t
  simp [isT, this]
theorem term_read {E : Nat} {t : Tm} {s : List UInt8} (hs : termS t = some s) (M : List Tok) : term E (tokOf t :: M) = .ok (t, M) := by
  have h := tok_may hs
  unfold term
  rw [if_pos (by exact h.1)]
  show Except.ok (tm (tokOf t), M) = _
  rw [h.2]
theorem need_read {E : Nat} {k : Int} {s : List UInt8} (M : List Tok) : need E k s (⟨k, s, 0, 0⟩ :: M) = .ok ((), M) := by
  unfold need
  rw [if_pos (by simp [isT, hd])]; rfl
theorem args_read {E : Nat} {M : List Tok} (hM : isT 5 [44] (hd M) = false) : ∀ {ts : List Tm} {s : List UInt8} {n : Nat}, argsS ts = some s → ts ≠ [] → ts.length ≤ n → args E n (argsT ts ++ M) = .ok (ts, M)
  | [], _, _, _, h, _ => absurd rfl h
  | _ :: _, _, 0, _, _, h => by simp at h
  | [t], s, n + 1, hs, _, _ => by
    show args E (n + 1) (tokOf t :: M) = _
    rw [args, term_read hs, bnd_ok, if_neg (by rw [hM]; decide)]
  | t :: u :: r, s, n + 1, hs, _, hl => by
    rw [argsS, Option.bind_eq_some_iff] at hs
    obtain ⟨a, ha, hs⟩ := hs
    rw [Option.map_eq_some_iff] at hs
    obtain ⟨x, hx, rfl⟩ := hs
    show args E (n + 1) (tokOf t :: sg [44] :: (argsT (u :: r) ++ M)) = _
    rw [args, term_read ha, bnd_ok, if_pos (by rfl)]
    show bnd (args E n (argsT (u :: r) ++ M)) _ = _
    rw [args_read hM hx (by simp) (by simp at hl ⊢; omega), bnd_ok]
theorem word_read {E : Nat} {p : List UInt8} (hp : wordB p = true) (M : List Tok) : Ps.word E (wd p :: M) = .ok (p, M) := by
  unfold Ps.word
  rw [if_pos]
  · rfl
  · show (true && !kept p) = true
    rw [(word_named hp).2]; rfl
theorem atom_read {E : Nat} {p : List UInt8} {ts : List Tm} {s : List UInt8} (hs : atomS p ts = some s) (M : List Tok) : atom E (atomT p ts ++ M) = .ok ((p, ts), M) := by
  unfold atomS at hs
  split at hs
  · rename_i hp
    rw [Option.map_eq_some_iff] at hs
    obtain ⟨x, hx, rfl⟩ := hs
    show atom E (wd p :: sg [40] :: ((argsT ts ++ [sg [41]]) ++ M)) = _
    unfold atom
    rw [word_read hp.1, bnd_ok, sg, need_read, bnd_ok]
    cases ts with
    | nil => rfl
    | cons t r =>
      have h1 : isT 5 [41] (hd (argsT (t :: r) ++ [sg [41]] ++ M)) = false := by
        cases r <;> exact tok_sign t [41]
      rw [List.append_assoc, ← List.append_assoc, h1, if_neg (by decide), List.append_assoc, args_read (by rfl) hx (by simp) hp.2, bnd_ok]
      show bnd (need E 5 [41] (⟨5, [41], 0, 0⟩ :: M)) _ = _
      rw [need_read, bnd_ok]
  · cases hs
theorem opt_read {E : Nat} {w a b s : List UInt8} {t : Tm} {M : List Tok} (hs : maybeS a t b = some s) (hM : isT 1 w (hd M) = false) : opt E w (maybeT [wd w] t [] ++ M) = .ok (t, M) := by
  unfold maybeS at hs
  unfold maybeT
  by_cases hn : noneT t = true
  · rw [if_pos hn, none_is hn]
    show opt E w M = _
    unfold opt
    rw [if_neg (by rw [hM]; decide)]
  · rw [if_neg hn] at hs ⊢
    rw [Option.map_eq_some_iff] at hs
    obtain ⟨x, hx, rfl⟩ := hs
    show opt E w (wd w :: tokOf t :: M) = _
    unfold opt
    rw [if_pos (by simp [isT, hd, wd])]
    exact term_read hx M
theorem by_read {E : Nat} {a b s : List UInt8} {t : Tm} {M : List Tok} (hs : maybeS a t b = some s) (hM : said M = false) : by_ E (maybeT [] t [wd says] ++ M) = .ok (t, M) := by
  unfold maybeS at hs
  unfold maybeT
  by_cases hn : noneT t = true
  · rw [if_pos hn, none_is hn]
    show by_ E M = _
    unfold by_
    rw [if_neg (by rw [hM]; decide)]
  · rw [if_neg hn] at hs ⊢
    rw [Option.map_eq_some_iff] at hs
    obtain ⟨x, hx, rfl⟩ := hs
    show by_ E (tokOf t :: wd says :: M) = _
    have h1 : said (tokOf t :: wd says :: M) = true := by
      unfold said
      show (!mayW (tokOf t) || isT 1 says (wd says)) = true
      have : isT 1 says (wd says) = true := by decide
      rw [this]; simp
    unfold by_
    rw [if_pos h1, term_read hx, bnd_ok, wd, need_read, bnd_ok]
theorem atom_said {p : List UInt8} {ts : List Tm} {s : List UInt8} (hs : atomS p ts = some s) (M : List Tok) : said (atomT p ts ++ M) = false := by
  unfold atomS at hs
  split at hs
  · rename_i hp
    unfold said
    show (!(true && !kept p) || isT 1 says (sg [40])) = false
    rw [(word_named hp.1).2]; rfl
  · cases hs
theorem lit_read {E : Nat} {l : Lt} {s : List UInt8} {M : List Tok} (hs : litS l = some s) (hM : isT 1 at_ (hd M) = false) : lit E (litT l ++ M) = .ok (l, M) := by
  unfold litS at hs
  rw [Option.bind_eq_some_iff] at hs
  obtain ⟨b, hb, hs⟩ := hs
  rw [Option.bind_eq_some_iff] at hs
  obtain ⟨x, hx, hs⟩ := hs
  rw [Option.map_eq_some_iff] at hs
  obtain ⟨a, ha, rfl⟩ := hs
  unfold litT
  rw [List.append_assoc, List.append_assoc]
  unfold lit
  rw [by_read hb (atom_said hx _), bnd_ok, atom_read hx, bnd_ok, opt_read ha hM, bnd_ok]
theorem body_read {E : Nat} {M : List Tok} (hM : isT 5 [44] (hd M) = false) (hA : isT 1 at_ (hd M) = false) : ∀ {ts : List Lt} {s : List UInt8} {n : Nat}, litsS ts = some s → ts ≠ [] → ts.length ≤ n → body E n (litsT ts ++ M) = .ok (ts, M)
  | [], _, _, _, h, _ => absurd rfl h
  | _ :: _, _, 0, _, _, h => by simp at h
  | [t], s, n + 1, hs, _, _ => by
    show body E (n + 1) (litT t ++ M) = _
    rw [body, lit_read hs hA, bnd_ok, if_neg (by rw [hM]; decide)]
  | t :: u :: r, s, n + 1, hs, _, hl => by
    rw [litsS, Option.bind_eq_some_iff] at hs
    obtain ⟨a, ha, hs⟩ := hs
    rw [Option.map_eq_some_iff] at hs
    obtain ⟨x, hx, rfl⟩ := hs
    rw [litsT, List.append_assoc, List.cons_append]
    rw [body, lit_read ha (by rfl), bnd_ok, if_pos (by rfl)]
    show bnd (body E n (litsT (u :: r) ++ M)) _ = _
    rw [body_read hM hA hx (by simp) (by simp at hl ⊢; omega), bnd_ok]
theorem rule_read {E : Nat} {r : Ru} {s : List UInt8} (hs : ruleS r = some s) (M : List Tok) : rule E (ruleT r ++ M) = .ok (r, M) := by
  unfold ruleS at hs
  split at hs
  · rename_i hb
    rw [Option.bind_eq_some_iff] at hs
    obtain ⟨a, ha, hs⟩ := hs
    rw [Option.bind_eq_some_iff] at hs
    obtain ⟨x, hx, hs⟩ := hs
    rw [Option.bind_eq_some_iff] at hs
    obtain ⟨t, ht, hs⟩ := hs
    rw [Option.map_eq_some_iff] at hs
    obtain ⟨b, hbb, rfl⟩ := hs
    have hne : r.body ≠ [] := fun e => by rw [e] at hb; simp at hb
    unfold ruleT
    simp only [List.cons_append, List.append_assoc, List.nil_append]
    unfold rule
    rw [term_read ha, bnd_ok, sg, need_read, bnd_ok, atom_read hx, bnd_ok, opt_read ht (by rfl), bnd_ok, sg, need_read, bnd_ok, body_read (by rfl) (by rfl) hbb hne hb.2, bnd_ok, sg, need_read, bnd_ok]
  · cases hs
theorem ruleT_ne (r : Ru) (M : List Tok) : ruleT r ++ M ≠ [] := by simp [ruleT]
theorem rules_read {E : Nat} : ∀ {l : List Ru} {s : List UInt8} {n : Nat}, allS l = some s → l.length ≤ n → rules E n (allT l) = .ok l
  | [], _, n, _, _ => rules_nil E n
  | _ :: _, _, 0, _, h => by simp at h
  | r :: l, s, n + 1, hs, hl => by
    rw [allS, Option.bind_eq_some_iff] at hs
    obtain ⟨a, ha, hs⟩ := hs
    rw [Option.map_eq_some_iff] at hs
    obtain ⟨x, hx, rfl⟩ := hs
    show rules E (n + 1) (ruleT r ++ allT l) = _
    rw [rules_succ (ruleT_ne r _), rule_read ha]
    show rcons r (rules E n (allT l)) = _
    rw [rules_read hx (by simp at hl; omega)]; rfl
theorem strip_strip (t : Tok) : strip (strip t) = strip t := rfl
theorem cuts_sm {s : List UInt8} {T : List Tok} (h : Cuts s T) : ∃ M, tks s (skip s 0) = .ok M ∧ Sm M T := by
  obtain ⟨M, h1, h2⟩ := h
  refine ⟨M, h1, ?_⟩
  unfold Sm
  rw [← h2, List.map_map]
  rfl
/-- what is shown is parsed as what was shown -/
theorem prog_shown {l : List Ru} {s : List UInt8} (hi : ∀ r ∈ l, RIn r) (h : progS l = .ok s) : prog s = .ok l := by
  unfold progS at h
  split at h
  · cases h
  rename_i hl
  split at h
  · cases h
  · rename_i s' hs
    split at h
    · cases h
    · rename_i hb
      cases h
      obtain ⟨M, h1, h2⟩ := cuts_sm (all_cuts hi hs)
      have h3 : ans s = .ok M := by unfold ans; rw [if_neg hb, h1]
      have h4 := (rules_sm (E := s.length) (E' := s.length) (n := 16) h2)
      rw [rules_read hs (by omega)] at h4
      unfold prog
      rw [h3]
      show rules s.length 16 M = _
      generalize rules s.length 16 M = x at h4
      cases x with
      | error e => exact absurd h4 (by simp [RelS])
      | ok m => simp only [RelS] at h4; rw [h4]

/-! unlike things are shown as unlike texts -/
theorem cuts_same {s : List UInt8} {T U : List Tok} (h : Cuts s T) (k : Cuts s U) : T = U := by
  obtain ⟨M, h1, h2⟩ := h
  obtain ⟨N, k1, k2⟩ := k
  rw [h1] at k1; cases k1
  rw [← h2, k2]
theorem term_apart {t u : Tm} {s : List UInt8} (hi : KIn t) (ki : KIn u) (h : termS t = some s) (k : termS u = some s) : t = u := by
  have h1 := term_cuts hi h hd_nil cuts_nil
  have k1 := term_cuts ki k hd_nil cuts_nil
  have e := cuts_same h1 k1
  simp only [List.cons.injEq, and_true] at e
  rw [← (tok_may h).2, ← (tok_may k).2, e]
theorem rule_apart {t u : Ru} {s : List UInt8} (hi : RIn t) (ki : RIn u) (h : ruleS t = some s) (k : ruleS u = some s) : t = u := by
  have h1 := rule_cuts hi h cuts_nil
  have k1 := rule_cuts ki k cuts_nil
  have e := cuts_same h1 k1
  have h2 := rule_read (E := 0) h []
  have k2 := rule_read (E := 0) k []
  rw [e, k2] at h2
  cases h2; rfl
end Sh
end Go.Proofs.YtefajadolgmpdaaGreatDoor

/-
  The mathematics of layer 9: what was parsed can be shown. No program in this text.
-/
namespace Go.Proofs.YtefajadolgmpdaaGreatDoor
namespace Sh
open Lx Ps

structure TokOk (t : Tok) : Prop where
  w : t.kind = 1 → namedB small t.text = true
  v : t.kind = 2 → namedB great t.text = true
  n : t.kind = 3 → -9223372036854775808 ≤ t.n ∧ t.n ≤ 9223372036854775807
  q : t.kind = 4 → t.text.length ≤ 32 ∧ ∀ c ∈ t.text, plain c = true
theorem run_mem {p : UInt8 → Bool} {l : List UInt8} {i : Nat} : ∀ c ∈ sub l i (run p l i), p c = true := fun c hc => by
  obtain ⟨k, hk, h1, h2, rfl⟩ := mem_sub hc
  exact run_in h1 h2 hk
theorem named_run {p : UInt8 → Bool} {l : List UInt8} {i : Nat} (hi : i < l.length) (hp : p l[i] = true) (hn : inner l[i] = true) (h32 : (sub l i (run inner l i)).length ≤ 32) : namedB p (sub l i (run inner l i)) = true := by
  have hr : i < run inner l i := by
    rw [run_step hi hn]; exact Nat.lt_of_lt_of_le (Nat.lt_succ_self i) (le_run _ _ _)
  have ha := run_mem (p := inner) (l := l) (i := i)
  have hc := sub_cons hi hr
  unfold namedB
  simp only [Bool.and_eq_true, decide_eq_true_eq, List.all_eq_true]
  refine ⟨⟨⟨?_, h32⟩, ?_⟩, ha⟩
  · rw [hc]; simp
  · rw [hc]; exact hp
theorem one_ok {l : List UInt8} {i e : Nat} {t : Tok} (hi : i < l.length) (h : one l i = some (t, e)) (hl : ¬ 32 < t.text.length) : TokOk t := by
  rw [one_at hi] at h
  unfold oneC at h
  split at h
  · rename_i hc
    unfold Lx.word at h
    cases h
    exact ⟨fun _ => named_run hi hc (small_inner hc) (by simpa using hl), fun k => by simp at k, fun k => by simp at k, fun k => by simp at k⟩
  split at h
  · rename_i hc
    unfold Lx.word at h
    cases h
    exact ⟨fun k => by simp at k, fun _ => named_run hi hc (great_inner hc) (by simpa using hl), fun k => by simp at k, fun k => by simp at k⟩
  split at h
  · unfold number at h
    rw [Option.map_eq_some_iff] at h
    obtain ⟨v, hv, h⟩ := h
    cases h
    have hv := numOf_some hv
    refine ⟨fun k => by simp at k, fun k => by simp at k, fun _ => ?_, fun k => by simp at k⟩
    show -9223372036854775808 ≤ v ∧ v ≤ 9223372036854775807
    cases hb : isNeg l i with
    | true => have := hv.2.2.1 hb; omega
    | false => have := hv.2.2.2 hb; omega
  split at h
  · unfold quote at h
    split at h
    · cases h
      exact ⟨fun k => by simp at k, fun k => by simp at k, fun k => by simp at k, fun _ => ⟨by simpa using hl, run_mem⟩⟩
    · cases h
  · unfold sign at h
    split at h
    · cases h
      exact ⟨fun k => by simp at k, fun k => by simp at k, fun k => by simp at k, fun k => by simp at k⟩
    split at h
    · cases h
      exact ⟨fun k => by simp at k, fun k => by simp at k, fun k => by simp at k, fun k => by simp at k⟩
    · cases h
theorem tks_ok {l : List UInt8} : ∀ (M : List Tok) (i : Nat), tks l i = .ok M → ∀ t ∈ M, TokOk t
  | [], _, _, t, ht => by simp at ht
  | u :: R, i, h, t, ht => by
    obtain ⟨hi, e, ho, hr⟩ := tks_inv h
    rcases List.mem_cons.1 ht with rfl | ht
    · exact one_ok hi ho (tks_short h ho hi)
    · exact tks_ok R _ hr t ht
def Ok (L : List Tok) : Prop := ∀ t ∈ L, TokOk t
theorem Ok.pre {L L1 : List Tok} (h : Ok L) (p : Pre L L1) : Ok L1 := fun t ht => h t (p.mem ht)
def G (t : Tm) : Prop := KIn t ∧ ∃ s, termS t = some s
theorem inner_plain {c : UInt8} (h : inner c = true) : plain c = true := by
  simp only [inner, small, great, digit, plain, Bool.or_eq_true, Bool.and_eq_true, decide_eq_true_eq, Bool.not_eq_true', decide_eq_false_iff_not] at *
  omega
theorem named_plain {p : UInt8 → Bool} {s : List UInt8} (h : namedB p s = true) : plainB s = true := by
  have h1 := named_len h
  unfold namedB at h
  unfold plainB
  simp only [Bool.and_eq_true, decide_eq_true_eq, List.all_eq_true] at *
  exact ⟨⟨h1.1, h1.2⟩, fun c hc => inner_plain (h.2 c hc)⟩
theorem zero_in : (-9223372036854775808 : Int) ≤ 0 ∧ (0 : Int) ≤ 9223372036854775807 := by decide
theorem plain_good {s : List UInt8} (h : plainB s = true) : G ⟨[], ⟨false, 0, s⟩⟩ := by
  refine ⟨zero_in, ?_⟩
  unfold termS
  dsimp only
  rw [if_neg (by simp), if_neg (by simp), if_pos ⟨rfl, h⟩]
  split
  · exact ⟨_, rfl⟩
  · exact ⟨_, rfl⟩
theorem tok_good {t : Tok} (h : TokOk t) (hm : mayT t = true) : G (tm t) := by
  unfold tm
  by_cases h2 : t.kind = 2
  · rw [if_pos h2]
    have hn := h.v h2
    have hl := named_len hn
    refine ⟨zero_in, t.text, ?_⟩
    unfold termS
    dsimp only
    rw [if_pos (fun e => by rw [e] at hl; simp at hl), if_pos (by rw [hn]; decide)]
  rw [if_neg h2]
  by_cases h3 : t.kind = 3
  · rw [if_pos h3]
    exact ⟨h.n h3, Go.Lib.itoa t.n, rfl⟩
  rw [if_neg h3]
  apply plain_good
  unfold mayT at hm
  simp only [Bool.or_eq_true, Bool.and_eq_true, beq_iff_eq, h2, h3, false_or, Bool.not_eq_true', beq_eq_false_iff_ne] at hm
  rcases hm with ⟨h4, hne⟩ | hw
  · have hq := h.q h4
    unfold plainB
    simp only [Bool.and_eq_true, decide_eq_true_eq, List.all_eq_true]
    exact ⟨⟨List.length_pos_iff.2 hne, hq.1⟩, hq.2⟩
  · unfold mayW at hw
    simp only [Bool.and_eq_true, beq_iff_eq] at hw
    exact named_plain (h.w hw.1)
theorem term_good {E : Nat} {L L1 : List Tok} {v : Tm} (hL : Ok L) (h : term E L = .ok (v, L1)) : G v := by
  obtain ⟨t, rfl, hm, rfl⟩ := term_inv h
  exact tok_good (hL t (by simp)) hm
theorem args_good {E : Nat} : ∀ {n : Nat} {L L1 : List Tok} {v : List Tm}, Ok L → args E n L = .ok (v, L1) → (∀ t ∈ v, G t) ∧ v.length ≤ n
  | 0, L, L1, v, _, h => by cases h
  | n + 1, L, L1, v, hL, h => by
    obtain ⟨t, L2, h1, h2⟩ := bnd_inv h
    have g := term_good hL h1
    split at h2
    · obtain ⟨ts, L3, h3, h4⟩ := bnd_inv h2
      cases h4
      have k := args_good (hL.pre ((term_pre h1).trans (Pre.tail L2))) h3
      refine ⟨fun u hu => ?_, by simp only [List.length_cons]; omega⟩
      rcases List.mem_cons.1 hu with rfl | hu
      · exact g
      · exact k.1 u hu
    · cases h2
      exact ⟨fun u hu => by simp at hu; subst hu; exact g, by simp⟩
theorem argsS_ok : ∀ {ts : List Tm}, (∀ t ∈ ts, G t) → ∃ s, argsS ts = some s
  | [], _ => ⟨[], rfl⟩
  | [t], h => (h t (by simp)).2
  | t :: u :: r, h => by
    obtain ⟨a, ha⟩ := (h t (by simp)).2
    obtain ⟨x, hx⟩ := argsS_ok (ts := u :: r) (fun v hv => h v (List.mem_cons_of_mem _ hv))
    exact ⟨_, by rw [argsS, ha, Option.bind_some, hx, Option.map_some]⟩
theorem word_good {E : Nat} {L L1 : List Tok} {v : List UInt8} (hL : Ok L) (h : Ps.word E L = .ok (v, L1)) : wordB v = true := by
  obtain ⟨t, rfl, hm, rfl⟩ := word_inv h
  unfold mayW at hm
  simp only [Bool.and_eq_true, beq_iff_eq] at hm
  unfold wordB
  rw [(hL t (by simp)).w hm.1, hm.2]; rfl
theorem atom_good {E : Nat} {L L1 : List Tok} {v : List UInt8 × List Tm} (hL : Ok L) (h : atom E L = .ok (v, L1)) : (∀ t ∈ v.2, KIn t) ∧ ∃ s, atomS v.1 v.2 = some s := by
  obtain ⟨p, L2, h1, h⟩ := bnd_inv h
  have hw := word_good hL h1
  have hL2 := hL.pre (word_pre h1)
  obtain ⟨_, L3, h2, h⟩ := bnd_inv h
  have hL3 := hL2.pre (need_pre (by decide) h2)
  split at h
  · cases h
    refine ⟨fun t ht => by simp at ht, p ++ [40, 41], ?_⟩
    unfold atomS
    rw [if_pos ⟨hw, by simp⟩]; rfl
  · obtain ⟨ts, L4, h3, h⟩ := bnd_inv h
    obtain ⟨_, L5, h4, h⟩ := bnd_inv h
    cases h
    have g := args_good hL3 h3
    obtain ⟨x, hx⟩ := argsS_ok g.1
    refine ⟨fun t ht => (g.1 t ht).1, p ++ (40 :: (x ++ [41])), ?_⟩
    unfold atomS
    rw [if_pos ⟨hw, g.2⟩, hx]; rfl
def MG (t : Tm) : Prop := KIn t ∧ ∀ a b, ∃ s, maybeS a t b = some s
theorem G.mg {t : Tm} (h : G t) : MG t := by
  refine ⟨h.1, fun a b => ?_⟩
  obtain ⟨s, hs⟩ := h.2
  unfold maybeS
  split
  · exact ⟨_, rfl⟩
  · exact ⟨_, by rw [hs]; rfl⟩
theorem t0_mg : MG t0 := ⟨⟨by decide, by decide⟩, fun a b => ⟨[], rfl⟩⟩
theorem opt_good {E : Nat} {s : List UInt8} {L L1 : List Tok} {v : Tm} (hL : Ok L) (h : opt E s L = .ok (v, L1)) : MG v := by
  unfold opt at h
  split at h
  · exact (term_good (hL.pre (Pre.tail L)) h).mg
  · cases h; exact t0_mg
theorem by_good {E : Nat} {L L1 : List Tok} {v : Tm} (hL : Ok L) (h : by_ E L = .ok (v, L1)) : MG v := by
  unfold by_ at h
  split at h
  · obtain ⟨p, L2, h1, h⟩ := bnd_inv h
    obtain ⟨_, L3, h2, h⟩ := bnd_inv h
    cases h
    exact (term_good hL h1).mg
  · cases h; exact t0_mg
theorem lit_good {E : Nat} {L L1 : List Tok} {v : Lt} (hL : Ok L) (h : lit E L = .ok (v, L1)) : LIn v ∧ ∃ s, litS v = some s := by
  obtain ⟨b, L2, h1, h⟩ := bnd_inv h
  obtain ⟨p, L3, h2, h⟩ := bnd_inv h
  obtain ⟨a, L4, h3, h⟩ := bnd_inv h
  cases h
  have hL2 := hL.pre (by_pre h1)
  have hL3 := hL2.pre (atom_pre h2)
  have g1 := by_good hL h1
  have g2 := atom_good hL2 h2
  have g3 := opt_good hL3 h3
  obtain ⟨x, hx⟩ := g1.2 [] [32, 115, 97, 121, 115, 32]
  obtain ⟨y, hy⟩ := g2.2
  obtain ⟨z, hz⟩ := g3.2 [32, 97, 116, 32] []
  refine ⟨⟨g1.1, g2.1, g3.1⟩, x ++ (y ++ z), ?_⟩
  unfold litS
  dsimp only
  rw [hx, Option.bind_some, hy, Option.bind_some, hz, Option.map_some]
theorem body_good {E : Nat} : ∀ {n : Nat} {L L1 : List Tok} {v : List Lt}, Ok L → body E n L = .ok (v, L1) → (∀ t ∈ v, LIn t ∧ ∃ s, litS t = some s) ∧ 1 ≤ v.length ∧ v.length ≤ n
  | 0, L, L1, v, _, h => by cases h
  | n + 1, L, L1, v, hL, h => by
    obtain ⟨t, L2, h1, h2⟩ := bnd_inv h
    have g := lit_good hL h1
    split at h2
    · obtain ⟨ts, L3, h3, h4⟩ := bnd_inv h2
      cases h4
      have k := body_good (hL.pre ((lit_pre h1).trans (Pre.tail L2))) h3
      refine ⟨fun u hu => ?_, by simp, by simp only [List.length_cons]; omega⟩
      rcases List.mem_cons.1 hu with rfl | hu
      · exact g
      · exact k.1 u hu
    · cases h2
      exact ⟨fun u hu => by simp at hu; subst hu; exact g, by simp, by simp⟩
theorem litsS_ok : ∀ {ts : List Lt}, (∀ t ∈ ts, LIn t ∧ ∃ s, litS t = some s) → ∃ s, litsS ts = some s
  | [], _ => ⟨[], rfl⟩
  | [t], h => (h t (by simp)).2
  | t :: u :: r, h => by
    obtain ⟨a, ha⟩ := (h t (by simp)).2
    obtain ⟨x, hx⟩ := litsS_ok (ts := u :: r) (fun v hv => h v (List.mem_cons_of_mem _ hv))
    exact ⟨_, by rw [litsS, ha, Option.bind_some, hx, Option.map_some]⟩
theorem rule_good {E : Nat} {L L1 : List Tok} {r : Ru} (hL : Ok L) (h : rule E L = .ok (r, L1)) : RIn r ∧ ∃ s, ruleS r = some s := by
  obtain ⟨h0, L2, L3, p, L4, t, L5, L6, b, L7, h1, h2, h3, h4, h5, h6, h7, rfl⟩ := rule_inv h
  have k2 := hL.pre (term_pre h1)
  have k3 := k2.pre (need_pre (by decide) h2)
  have k4 := k3.pre (atom_pre h3)
  have k5 := k4.pre (opt_pre h4)
  have k6 := k5.pre (need_pre (by decide) h5)
  have g1 := term_good hL h1
  have g3 := atom_good k3 h3
  have g4 := opt_good k4 h4
  have g6 := body_good k6 h6
  obtain ⟨x, hx⟩ := g1.2
  obtain ⟨y, hy⟩ := g3.2
  obtain ⟨z, hz⟩ := g4.2 [32, 116, 111, 32] []
  obtain ⟨u, hu⟩ := litsS_ok g6.1
  refine ⟨⟨g1.1, g3.1, g4.1, fun l hl => (g6.1 l hl).1⟩, ?_⟩
  unfold ruleS
  dsimp only
  rw [if_pos g6.2, hx, Option.bind_some, hy, Option.bind_some, hz, Option.bind_some, hu, Option.map_some]
  exact ⟨_, rfl⟩
theorem rules_good {E : Nat} : ∀ {n : Nat} {L : List Tok} {l : List Ru}, Ok L → rules E n L = .ok l → (∀ r ∈ l, RIn r ∧ ∃ s, ruleS r = some s) ∧ l.length ≤ n
  | n, [], l, _, h => by
    rw [rules_nil] at h; cases h
    exact ⟨fun r hr => by simp at hr, Nat.zero_le _⟩
  | 0, t :: L, l, _, h => by cases h
  | n + 1, t :: L, l, hL, h => by
    rw [rules_succ (by simp)] at h
    cases hr : rule E (t :: L) with
    | error e => rw [hr] at h; cases h
    | ok x =>
      obtain ⟨r, L1⟩ := x
      rw [hr] at h
      change rcons r (rules E n L1) = .ok l at h
      cases hq : rules E n L1 with
      | error e => rw [hq] at h; cases h
      | ok m =>
        rw [hq] at h
        cases h
        have k := rules_good (hL.pre (rule_pre hr)) hq
        refine ⟨fun u hu => ?_, by simp only [List.length_cons]; omega⟩
        rcases List.mem_cons.1 hu with rfl | hu
        · exact rule_good hL hr
        · exact k.1 u hu
theorem allS_ok : ∀ {l : List Ru}, (∀ r ∈ l, RIn r ∧ ∃ s, ruleS r = some s) → ∃ s, allS l = some s
  | [], _ => ⟨[], rfl⟩
  | r :: l, h => by
    obtain ⟨a, ha⟩ := (h r (by simp)).2
    obtain ⟨x, hx⟩ := allS_ok (l := l) (fun v hv => h v (List.mem_cons_of_mem _ hv))
    exact ⟨_, by rw [allS, ha, Option.bind_some, hx, Option.map_some]⟩
/-- what was parsed can be shown, or its text would be too long -/
theorem prog_good {m : List UInt8} {l : List Ru} (h : prog m = .ok l) : (∀ r ∈ l, RIn r) ∧ ((∃ s, progS l = .ok s) ∨ progS l = .error 3) := by
  unfold prog at h
  split at h
  · cases h
  · rename_i L hL
    have ho : Ok L := by
      unfold ans at hL
      split at hL
      · cases hL
      · exact tks_ok L _ hL
    have g := rules_good ho h
    refine ⟨fun r hr => (g.1 r hr).1, ?_⟩
    obtain ⟨s, hs⟩ := allS_ok g.1
    unfold progS
    rw [if_neg (by omega), hs]
    dsimp only
    split
    · exact .inr rfl
    · exact .inl ⟨_, rfl⟩
/-- a text that is a program: what it is shown as is the same program, and is shown as the same text again -/
theorem prog_again {m s : List UInt8} {l : List Ru} (h : prog m = .ok l) (hs : progS l = .ok s) : prog s = .ok l :=
  prog_shown (prog_good h).1 hs
end Sh
end Go.Proofs.YtefajadolgmpdaaGreatDoor
