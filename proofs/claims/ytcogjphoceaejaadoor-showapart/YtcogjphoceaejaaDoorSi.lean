/-
  The mathematics of layer 9: the tokens of what is shown are read as what was shown; unlike terms and rules have unlike texts. No program in this text.
-/
import Derived.Test.YtcogjphoceaejaaDoorSh
namespace Go.Proofs.YtcogjphoceaejaaDoor
namespace Sh
open Lx Ps

theorem zk_is {k : K} (h : zk k = true) : k = k0 := by
  obtain ⟨a, n, s⟩ := k
  simp only [zk, Bool.and_eq_true, Bool.not_eq_true', decide_eq_true_eq, List.isEmpty_iff] at h
  obtain ⟨⟨rfl, rfl⟩, rfl⟩ := h; rfl
theorem none_is {t : Tm} (h : noneT t = true) : t = t0 := by
  obtain ⟨v, k⟩ := t
  simp only [noneT, Bool.and_eq_true, List.isEmpty_iff] at h
  obtain ⟨rfl, hk⟩ := h
  rw [zk_is hk]; rfl
theorem tok_may {t : Tm} {s : List UInt8} (hs : termS t = some s) : mayT (tokOf t) = true ∧ tm (tokOf t) = t := by
  obtain ⟨v, ⟨b, n, x⟩⟩ := t
  unfold termS at hs
  unfold tokOf
  dsimp only at hs ⊢
  by_cases hv : v ≠ []
  · rw [if_pos hv] at hs ⊢
    split at hs
    · rename_i hn
      simp only [Bool.and_eq_true] at hn
      have hk := zk_is hn.1
      exact ⟨rfl, by rw [hk]; rfl⟩
    · cases hs
  rw [if_neg hv] at hs ⊢
  have hv := Classical.not_not.1 hv
  subst hv
  by_cases hn : b = true
  · rw [if_pos hn] at hs ⊢
    split at hs
    · rename_i hx
      subst hx; subst hn; exact ⟨rfl, rfl⟩
    · cases hs
  rw [if_neg hn] at hs ⊢
  have hn : b = false := by simpa using hn
  subst hn
  split at hs
  · rename_i hp
    obtain ⟨rfl, hpl⟩ := hp
    by_cases hw : wordB x = true
    · rw [if_pos hw]
      refine ⟨mayW_T ?_, rfl⟩
      show (true && !kept x) = true
      rw [(word_named hw).2]; rfl
    · rw [if_neg hw]
      refine ⟨?_, rfl⟩
      unfold plainB at hpl
      cases x with
      | nil => simp at hpl
      | cons c r => rfl
  · cases hs
theorem tok_kind (t : Tm) : (tokOf t).kind ≠ 5 := by
  unfold tokOf
  split
  · simp
  split
  · simp
  split <;> simp
theorem tok_sign (t : Tm) (s : List UInt8) : isT 5 s (tokOf t) = false := by
  have := tok_kind t
  simp [isT, this]
theorem term_read {E : Nat} {t : Tm} {s : List UInt8} (hs : termS t = some s) (M : List Tok) : term E (tokOf t :: M) = .ok (t, M) := by
  have h := tok_may hs
  unfold term
  rw [if_pos (by exact h.1)]
  show Except.ok (tm (tokOf t), M) = _
  rw [h.2]
theorem need_read {E : Nat} {k : Int} {s : List UInt8} (M : List Tok) : need E k s (⟨k, s, 0, 0⟩ :: M) = .ok ((), M) := by
  unfold need
  rw [if_pos (by simp [isT, hd])]; rfl
theorem args_read {E : Nat} {M : List Tok} (hM : isT 5 [44] (hd M) = false) : ∀ {ts : List Tm} {s : List UInt8} {n : Nat}, argsS ts = some s → ts ≠ [] → ts.length ≤ n → args E n (argsT ts ++ M) = .ok (ts, M)
  | [], _, _, _, h, _ => absurd rfl h
  | _ :: _, _, 0, _, _, h => by simp at h
  | [t], s, n + 1, hs, _, _ => by
    show args E (n + 1) (tokOf t :: M) = _
    rw [args, term_read hs, bnd_ok, if_neg (by rw [hM]; decide)]
  | t :: u :: r, s, n + 1, hs, _, hl => by
    rw [argsS, Option.bind_eq_some_iff] at hs
    obtain ⟨a, ha, hs⟩ := hs
    rw [Option.map_eq_some_iff] at hs
    obtain ⟨x, hx, rfl⟩ := hs
    show args E (n + 1) (tokOf t :: sg [44] :: (argsT (u :: r) ++ M)) = _
    rw [args, term_read ha, bnd_ok, if_pos (by rfl)]
    show bnd (args E n (argsT (u :: r) ++ M)) _ = _
    rw [args_read hM hx (by simp) (by simp at hl ⊢; omega), bnd_ok]
theorem word_read {E : Nat} {p : List UInt8} (hp : wordB p = true) (M : List Tok) : Ps.word E (wd p :: M) = .ok (p, M) := by
  unfold Ps.word
  rw [if_pos]
  · rfl
  · show (true && !kept p) = true
    rw [(word_named hp).2]; rfl
theorem atom_read {E : Nat} {p : List UInt8} {ts : List Tm} {s : List UInt8} (hs : atomS p ts = some s) (M : List Tok) : atom E (atomT p ts ++ M) = .ok ((p, ts), M) := by
  unfold atomS at hs
  split at hs
  · rename_i hp
    rw [Option.map_eq_some_iff] at hs
    obtain ⟨x, hx, rfl⟩ := hs
    show atom E (wd p :: sg [40] :: ((argsT ts ++ [sg [41]]) ++ M)) = _
    unfold atom
    rw [word_read hp.1, bnd_ok, sg, need_read, bnd_ok]
    cases ts with
    | nil => rfl
    | cons t r =>
      have h1 : isT 5 [41] (hd (argsT (t :: r) ++ [sg [41]] ++ M)) = false := by
        cases r <;> exact tok_sign t [41]
      rw [List.append_assoc, ← List.append_assoc, h1, if_neg (by decide), List.append_assoc, args_read (by rfl) hx (by simp) hp.2, bnd_ok]
      show bnd (need E 5 [41] (⟨5, [41], 0, 0⟩ :: M)) _ = _
      rw [need_read, bnd_ok]
  · cases hs
theorem opt_read {E : Nat} {w a b s : List UInt8} {t : Tm} {M : List Tok} (hs : maybeS a t b = some s) (hM : isT 1 w (hd M) = false) : opt E w (maybeT [wd w] t [] ++ M) = .ok (t, M) := by
  unfold maybeS at hs
  unfold maybeT
  by_cases hn : noneT t = true
  · rw [if_pos hn, none_is hn]
    show opt E w M = _
    unfold opt
    rw [if_neg (by rw [hM]; decide)]
  · rw [if_neg hn] at hs ⊢
    rw [Option.map_eq_some_iff] at hs
    obtain ⟨x, hx, rfl⟩ := hs
    show opt E w (wd w :: tokOf t :: M) = _
    unfold opt
    rw [if_pos (by simp [isT, hd, wd])]
    exact term_read hx M
theorem by_read {E : Nat} {a b s : List UInt8} {t : Tm} {M : List Tok} (hs : maybeS a t b = some s) (hM : said M = false) : by_ E (maybeT [] t [wd says] ++ M) = .ok (t, M) := by
  unfold maybeS at hs
  unfold maybeT
  by_cases hn : noneT t = true
  · rw [if_pos hn, none_is hn]
    show by_ E M = _
    unfold by_
    rw [if_neg (by rw [hM]; decide)]
  · rw [if_neg hn] at hs ⊢
    rw [Option.map_eq_some_iff] at hs
    obtain ⟨x, hx, rfl⟩ := hs
    show by_ E (tokOf t :: wd says :: M) = _
    have h1 : said (tokOf t :: wd says :: M) = true := by
      unfold said
      show (!mayW (tokOf t) || isT 1 says (wd says)) = true
      have : isT 1 says (wd says) = true := by decide
      rw [this]; simp
    unfold by_
    rw [if_pos h1, term_read hx, bnd_ok, wd, need_read, bnd_ok]
theorem atom_said {p : List UInt8} {ts : List Tm} {s : List UInt8} (hs : atomS p ts = some s) (M : List Tok) : said (atomT p ts ++ M) = false := by
  unfold atomS at hs
  split at hs
  · rename_i hp
    unfold said
    show (!(true && !kept p) || isT 1 says (sg [40])) = false
    rw [(word_named hp.1).2]; rfl
  · cases hs
theorem lit_read {E : Nat} {l : Lt} {s : List UInt8} {M : List Tok} (hs : litS l = some s) (hM : isT 1 at_ (hd M) = false) : lit E (litT l ++ M) = .ok (l, M) := by
  unfold litS at hs
  rw [Option.bind_eq_some_iff] at hs
  obtain ⟨b, hb, hs⟩ := hs
  rw [Option.bind_eq_some_iff] at hs
  obtain ⟨x, hx, hs⟩ := hs
  rw [Option.map_eq_some_iff] at hs
  obtain ⟨a, ha, rfl⟩ := hs
  unfold litT
  rw [List.append_assoc, List.append_assoc]
  unfold lit
  rw [by_read hb (atom_said hx _), bnd_ok, atom_read hx, bnd_ok, opt_read ha hM, bnd_ok]
theorem body_read {E : Nat} {M : List Tok} (hM : isT 5 [44] (hd M) = false) (hA : isT 1 at_ (hd M) = false) : ∀ {ts : List Lt} {s : List UInt8} {n : Nat}, litsS ts = some s → ts ≠ [] → ts.length ≤ n → body E n (litsT ts ++ M) = .ok (ts, M)
  | [], _, _, _, h, _ => absurd rfl h
  | _ :: _, _, 0, _, _, h => by simp at h
  | [t], s, n + 1, hs, _, _ => by
    show body E (n + 1) (litT t ++ M) = _
    rw [body, lit_read hs hA, bnd_ok, if_neg (by rw [hM]; decide)]
  | t :: u :: r, s, n + 1, hs, _, hl => by
    rw [litsS, Option.bind_eq_some_iff] at hs
    obtain ⟨a, ha, hs⟩ := hs
    rw [Option.map_eq_some_iff] at hs
    obtain ⟨x, hx, rfl⟩ := hs
    rw [litsT, List.append_assoc, List.cons_append]
    rw [body, lit_read ha (by rfl), bnd_ok, if_pos (by rfl)]
    show bnd (body E n (litsT (u :: r) ++ M)) _ = _
    rw [body_read hM hA hx (by simp) (by simp at hl ⊢; omega), bnd_ok]
theorem rule_read {E : Nat} {r : Ru} {s : List UInt8} (hs : ruleS r = some s) (M : List Tok) : rule E (ruleT r ++ M) = .ok (r, M) := by
  unfold ruleS at hs
  split at hs
  · rename_i hb
    rw [Option.bind_eq_some_iff] at hs
    obtain ⟨a, ha, hs⟩ := hs
    rw [Option.bind_eq_some_iff] at hs
    obtain ⟨x, hx, hs⟩ := hs
    rw [Option.bind_eq_some_iff] at hs
    obtain ⟨t, ht, hs⟩ := hs
    rw [Option.map_eq_some_iff] at hs
    obtain ⟨b, hbb, rfl⟩ := hs
    have hne : r.body ≠ [] := fun e => by rw [e] at hb; simp at hb
    unfold ruleT
    simp only [List.cons_append, List.append_assoc, List.nil_append]
    unfold rule
    rw [term_read ha, bnd_ok, sg, need_read, bnd_ok, atom_read hx, bnd_ok, opt_read ht (by rfl), bnd_ok, sg, need_read, bnd_ok, body_read (by rfl) (by rfl) hbb hne hb.2, bnd_ok, sg, need_read, bnd_ok]
  · cases hs
theorem ruleT_ne (r : Ru) (M : List Tok) : ruleT r ++ M ≠ [] := by simp [ruleT]
theorem rules_read {E : Nat} : ∀ {l : List Ru} {s : List UInt8} {n : Nat}, allS l = some s → l.length ≤ n → rules E n (allT l) = .ok l
  | [], _, n, _, _ => rules_nil E n
  | _ :: _, _, 0, _, h => by simp at h
  | r :: l, s, n + 1, hs, hl => by
    rw [allS, Option.bind_eq_some_iff] at hs
    obtain ⟨a, ha, hs⟩ := hs
    rw [Option.map_eq_some_iff] at hs
    obtain ⟨x, hx, rfl⟩ := hs
    show rules E (n + 1) (ruleT r ++ allT l) = _
    rw [rules_succ (ruleT_ne r _), rule_read ha]
    show rcons r (rules E n (allT l)) = _
    rw [rules_read hx (by simp at hl; omega)]; rfl
theorem strip_strip (t : Tok) : strip (strip t) = strip t := rfl
theorem cuts_sm {s : List UInt8} {T : List Tok} (h : Cuts s T) : ∃ M, tks s (skip s 0) = .ok M ∧ Sm M T := by
  obtain ⟨M, h1, h2⟩ := h
  refine ⟨M, h1, ?_⟩
  unfold Sm
  rw [← h2, List.map_map]
  rfl
/-- what is shown is parsed as what was shown -/
theorem prog_shown {l : List Ru} {s : List UInt8} (hi : ∀ r ∈ l, RIn r) (h : progS l = .ok s) : prog s = .ok l := by
  unfold progS at h
  split at h
  · cases h
  rename_i hl
  split at h
  · cases h
  · rename_i s' hs
    split at h
    · cases h
    · rename_i hb
      cases h
      obtain ⟨M, h1, h2⟩ := cuts_sm (all_cuts hi hs)
      have h3 : ans s = .ok M := by unfold ans; rw [if_neg hb, h1]
      have h4 := (rules_sm (E := s.length) (E' := s.length) (n := 16) h2)
      rw [rules_read hs (by omega)] at h4
      unfold prog
      rw [h3]
      show rules s.length 16 M = _
      generalize rules s.length 16 M = x at h4
      cases x with
      | error e => exact absurd h4 (by simp [RelS])
      | ok m => simp only [RelS] at h4; rw [h4]

/-! unlike things are shown as unlike texts -/
theorem cuts_same {s : List UInt8} {T U : List Tok} (h : Cuts s T) (k : Cuts s U) : T = U := by
  obtain ⟨M, h1, h2⟩ := h
  obtain ⟨N, k1, k2⟩ := k
  rw [h1] at k1; cases k1
  rw [← h2, k2]
theorem term_apart {t u : Tm} {s : List UInt8} (hi : KIn t) (ki : KIn u) (h : termS t = some s) (k : termS u = some s) : t = u := by
  have h1 := term_cuts hi h hd_nil cuts_nil
  have k1 := term_cuts ki k hd_nil cuts_nil
  have e := cuts_same h1 k1
  simp only [List.cons.injEq, and_true] at e
  rw [← (tok_may h).2, ← (tok_may k).2, e]
theorem rule_apart {t u : Ru} {s : List UInt8} (hi : RIn t) (ki : RIn u) (h : ruleS t = some s) (k : ruleS u = some s) : t = u := by
  have h1 := rule_cuts hi h cuts_nil
  have k1 := rule_cuts ki k cuts_nil
  have e := cuts_same h1 k1
  have h2 := rule_read (E := 0) h []
  have k2 := rule_read (E := 0) k []
  rw [e, k2] at h2
  cases h2; rfl
end Sh
end Go.Proofs.YtcogjphoceaejaaDoor
