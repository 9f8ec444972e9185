/-
  The mathematics of layer 9: what was parsed can be shown. No program in this text.
-/
import Derived.Test.YtcogjphoceaejaaDoorSi
namespace Go.Proofs.YtcogjphoceaejaaDoor
namespace Sh
open Lx Ps

structure TokOk (t : Tok) : Prop where
  w : t.kind = 1 → namedB small t.text = true
  v : t.kind = 2 → namedB great t.text = true
  n : t.kind = 3 → -9223372036854775808 ≤ t.n ∧ t.n ≤ 9223372036854775807
  q : t.kind = 4 → t.text.length ≤ 32 ∧ ∀ c ∈ t.text, plain c = true
theorem run_mem {p : UInt8 → Bool} {l : List UInt8} {i : Nat} : ∀ c ∈ sub l i (run p l i), p c = true := fun c hc => by
  obtain ⟨k, hk, h1, h2, rfl⟩ := mem_sub hc
  exact run_in h1 h2 hk
theorem named_run {p : UInt8 → Bool} {l : List UInt8} {i : Nat} (hi : i < l.length) (hp : p l[i] = true) (hn : inner l[i] = true) (h32 : (sub l i (run inner l i)).length ≤ 32) : namedB p (sub l i (run inner l i)) = true := by
  have hr : i < run inner l i := by
    rw [run_step hi hn]; exact Nat.lt_of_lt_of_le (Nat.lt_succ_self i) (le_run _ _ _)
  have ha := run_mem (p := inner) (l := l) (i := i)
  have hc := sub_cons hi hr
  unfold namedB
  simp only [Bool.and_eq_true, decide_eq_true_eq, List.all_eq_true]
  refine ⟨⟨⟨?_, h32⟩, ?_⟩, ha⟩
  · rw [hc]; simp
  · rw [hc]; exact hp
theorem one_ok {l : List UInt8} {i e : Nat} {t : Tok} (hi : i < l.length) (h : one l i = some (t, e)) (hl : ¬ 32 < t.text.length) : TokOk t := by
  rw [one_at hi] at h
  unfold oneC at h
  split at h
  · rename_i hc
    unfold Lx.word at h
    cases h
    exact ⟨fun _ => named_run hi hc (small_inner hc) (by simpa using hl), fun k => by simp at k, fun k => by simp at k, fun k => by simp at k⟩
  split at h
  · rename_i hc
    unfold Lx.word at h
    cases h
    exact ⟨fun k => by simp at k, fun _ => named_run hi hc (great_inner hc) (by simpa using hl), fun k => by simp at k, fun k => by simp at k⟩
  split at h
  · unfold number at h
    rw [Option.map_eq_some_iff] at h
    obtain ⟨v, hv, h⟩ := h
    cases h
    have hv := numOf_some hv
    refine ⟨fun k => by simp at k, fun k => by simp at k, fun _ => ?_, fun k => by simp at k⟩
    show -9223372036854775808 ≤ v ∧ v ≤ 9223372036854775807
    cases hb : isNeg l i with
    | true => have := hv.2.2.1 hb; omega
    | false => have := hv.2.2.2 hb; omega
  split at h
  · unfold quote at h
    split at h
    · cases h
      exact ⟨fun k => by simp at k, fun k => by simp at k, fun k => by simp at k, fun _ => ⟨by simpa using hl, run_mem⟩⟩
    · cases h
  · unfold sign at h
    split at h
    · cases h
      exact ⟨fun k => by simp at k, fun k => by simp at k, fun k => by simp at k, fun k => by simp at k⟩
    split at h
    · cases h
      exact ⟨fun k => by simp at k, fun k => by simp at k, fun k => by simp at k, fun k => by simp at k⟩
    · cases h
theorem tks_ok {l : List UInt8} : ∀ (M : List Tok) (i : Nat), tks l i = .ok M → ∀ t ∈ M, TokOk t
  | [], _, _, t, ht => by simp at ht
  | u :: R, i, h, t, ht => by
    obtain ⟨hi, e, ho, hr⟩ := tks_inv h
    rcases List.mem_cons.1 ht with rfl | ht
    · exact one_ok hi ho (tks_short h ho hi)
    · exact tks_ok R _ hr t ht
def Ok (L : List Tok) : Prop := ∀ t ∈ L, TokOk t
theorem Ok.pre {L L1 : List Tok} (h : Ok L) (p : Pre L L1) : Ok L1 := fun t ht => h t (p.mem ht)
def G (t : Tm) : Prop := KIn t ∧ ∃ s, termS t = some s
theorem inner_plain {c : UInt8} (h : inner c = true) : plain c = true := by
  simp only [inner, small, great, digit, plain, Bool.or_eq_true, Bool.and_eq_true, decide_eq_true_eq, Bool.not_eq_true', decide_eq_false_iff_not] at *
  omega
theorem named_plain {p : UInt8 → Bool} {s : List UInt8} (h : namedB p s = true) : plainB s = true := by
  have h1 := named_len h
  unfold namedB at h
  unfold plainB
  simp only [Bool.and_eq_true, decide_eq_true_eq, List.all_eq_true] at *
  exact ⟨⟨h1.1, h1.2⟩, fun c hc => inner_plain (h.2 c hc)⟩
theorem zero_in : (-9223372036854775808 : Int) ≤ 0 ∧ (0 : Int) ≤ 9223372036854775807 := by decide
theorem plain_good {s : List UInt8} (h : plainB s = true) : G ⟨[], ⟨false, 0, s⟩⟩ := by
  refine ⟨zero_in, ?_⟩
  unfold termS
  dsimp only
  rw [if_neg (by simp), if_neg (by simp), if_pos ⟨rfl, h⟩]
  split
  · exact ⟨_, rfl⟩
  · exact ⟨_, rfl⟩
theorem tok_good {t : Tok} (h : TokOk t) (hm : mayT t = true) : G (tm t) := by
  unfold tm
  by_cases h2 : t.kind = 2
  · rw [if_pos h2]
    have hn := h.v h2
    have hl := named_len hn
    refine ⟨zero_in, t.text, ?_⟩
    unfold termS
    dsimp only
    rw [if_pos (fun e => by rw [e] at hl; simp at hl), if_pos (by rw [hn]; decide)]
  rw [if_neg h2]
  by_cases h3 : t.kind = 3
  · rw [if_pos h3]
    exact ⟨h.n h3, Go.Lib.itoa t.n, rfl⟩
  rw [if_neg h3]
  apply plain_good
  unfold mayT at hm
  simp only [Bool.or_eq_true, Bool.and_eq_true, beq_iff_eq, h2, h3, false_or, Bool.not_eq_true', beq_eq_false_iff_ne] at hm
  rcases hm with ⟨h4, hne⟩ | hw
  · have hq := h.q h4
    unfold plainB
    simp only [Bool.and_eq_true, decide_eq_true_eq, List.all_eq_true]
    exact ⟨⟨List.length_pos_iff.2 hne, hq.1⟩, hq.2⟩
  · unfold mayW at hw
    simp only [Bool.and_eq_true, beq_iff_eq] at hw
    exact named_plain (h.w hw.1)
theorem term_good {E : Nat} {L L1 : List Tok} {v : Tm} (hL : Ok L) (h : term E L = .ok (v, L1)) : G v := by
  obtain ⟨t, rfl, hm, rfl⟩ := term_inv h
  exact tok_good (hL t (by simp)) hm
theorem args_good {E : Nat} : ∀ {n : Nat} {L L1 : List Tok} {v : List Tm}, Ok L → args E n L = .ok (v, L1) → (∀ t ∈ v, G t) ∧ v.length ≤ n
  | 0, L, L1, v, _, h => by cases h
  | n + 1, L, L1, v, hL, h => by
    obtain ⟨t, L2, h1, h2⟩ := bnd_inv h
    have g := term_good hL h1
    split at h2
    · obtain ⟨ts, L3, h3, h4⟩ := bnd_inv h2
      cases h4
      have k := args_good (hL.pre ((term_pre h1).trans (Pre.tail L2))) h3
      refine ⟨fun u hu => ?_, by simp only [List.length_cons]; omega⟩
      rcases List.mem_cons.1 hu with rfl | hu
      · exact g
      · exact k.1 u hu
    · cases h2
      exact ⟨fun u hu => by simp at hu; subst hu; exact g, by simp⟩
theorem argsS_ok : ∀ {ts : List Tm}, (∀ t ∈ ts, G t) → ∃ s, argsS ts = some s
  | [], _ => ⟨[], rfl⟩
  | [t], h => (h t (by simp)).2
  | t :: u :: r, h => by
    obtain ⟨a, ha⟩ := (h t (by simp)).2
    obtain ⟨x, hx⟩ := argsS_ok (ts := u :: r) (fun v hv => h v (List.mem_cons_of_mem _ hv))
    exact ⟨_, by rw [argsS, ha, Option.bind_some, hx, Option.map_some]⟩
theorem word_good {E : Nat} {L L1 : List Tok} {v : List UInt8} (hL : Ok L) (h : Ps.word E L = .ok (v, L1)) : wordB v = true := by
  obtain ⟨t, rfl, hm, rfl⟩ := word_inv h
  unfold mayW at hm
  simp only [Bool.and_eq_true, beq_iff_eq] at hm
  unfold wordB
  rw [(hL t (by simp)).w hm.1, hm.2]; rfl
theorem atom_good {E : Nat} {L L1 : List Tok} {v : List UInt8 × List Tm} (hL : Ok L) (h : atom E L = .ok (v, L1)) : (∀ t ∈ v.2, KIn t) ∧ ∃ s, atomS v.1 v.2 = some s := by
  obtain ⟨p, L2, h1, h⟩ := bnd_inv h
  have hw := word_good hL h1
  have hL2 := hL.pre (word_pre h1)
  obtain ⟨_, L3, h2, h⟩ := bnd_inv h
  have hL3 := hL2.pre (need_pre (by decide) h2)
  split at h
  · cases h
    refine ⟨fun t ht => by simp at ht, p ++ [40, 41], ?_⟩
    unfold atomS
    rw [if_pos ⟨hw, by simp⟩]; rfl
  · obtain ⟨ts, L4, h3, h⟩ := bnd_inv h
    obtain ⟨_, L5, h4, h⟩ := bnd_inv h
    cases h
    have g := args_good hL3 h3
    obtain ⟨x, hx⟩ := argsS_ok g.1
    refine ⟨fun t ht => (g.1 t ht).1, p ++ (40 :: (x ++ [41])), ?_⟩
    unfold atomS
    rw [if_pos ⟨hw, g.2⟩, hx]; rfl
def MG (t : Tm) : Prop := KIn t ∧ ∀ a b, ∃ s, maybeS a t b = some s
theorem G.mg {t : Tm} (h : G t) : MG t := by
  refine ⟨h.1, fun a b => ?_⟩
  obtain ⟨s, hs⟩ := h.2
  unfold maybeS
  split
  · exact ⟨_, rfl⟩
  · exact ⟨_, by rw [hs]; rfl⟩
theorem t0_mg : MG t0 := ⟨⟨by decide, by decide⟩, fun a b => ⟨[], rfl⟩⟩
theorem opt_good {E : Nat} {s : List UInt8} {L L1 : List Tok} {v : Tm} (hL : Ok L) (h : opt E s L = .ok (v, L1)) : MG v := by
  unfold opt at h
  split at h
  · exact (term_good (hL.pre (Pre.tail L)) h).mg
  · cases h; exact t0_mg
theorem by_good {E : Nat} {L L1 : List Tok} {v : Tm} (hL : Ok L) (h : by_ E L = .ok (v, L1)) : MG v := by
  unfold by_ at h
  split at h
  · obtain ⟨p, L2, h1, h⟩ := bnd_inv h
    obtain ⟨_, L3, h2, h⟩ := bnd_inv h
    cases h
    exact (term_good hL h1).mg
  · cases h; exact t0_mg
theorem lit_good {E : Nat} {L L1 : List Tok} {v : Lt} (hL : Ok L) (h : lit E L = .ok (v, L1)) : LIn v ∧ ∃ s, litS v = some s := by
  obtain ⟨b, L2, h1, h⟩ := bnd_inv h
  obtain ⟨p, L3, h2, h⟩ := bnd_inv h
  obtain ⟨a, L4, h3, h⟩ := bnd_inv h
  cases h
  have hL2 := hL.pre (by_pre h1)
  have hL3 := hL2.pre (atom_pre h2)
  have g1 := by_good hL h1
  have g2 := atom_good hL2 h2
  have g3 := opt_good hL3 h3
  obtain ⟨x, hx⟩ := g1.2 [] [32, 115, 97, 121, 115, 32]
  obtain ⟨y, hy⟩ := g2.2
  obtain ⟨z, hz⟩ := g3.2 [32, 97, 116, 32] []
  refine ⟨⟨g1.1, g2.1, g3.1⟩, x ++ (y ++ z), ?_⟩
  unfold litS
  dsimp only
  rw [hx, Option.bind_some, hy, Option.bind_some, hz, Option.map_some]
theorem body_good {E : Nat} : ∀ {n : Nat} {L L1 : List Tok} {v : List Lt}, Ok L → body E n L = .ok (v, L1) → (∀ t ∈ v, LIn t ∧ ∃ s, litS t = some s) ∧ 1 ≤ v.length ∧ v.length ≤ n
  | 0, L, L1, v, _, h => by cases h
  | n + 1, L, L1, v, hL, h => by
    obtain ⟨t, L2, h1, h2⟩ := bnd_inv h
    have g := lit_good hL h1
    split at h2
    · obtain ⟨ts, L3, h3, h4⟩ := bnd_inv h2
      cases h4
      have k := body_good (hL.pre ((lit_pre h1).trans (Pre.tail L2))) h3
      refine ⟨fun u hu => ?_, by simp, by simp only [List.length_cons]; omega⟩
      rcases List.mem_cons.1 hu with rfl | hu
      · exact g
      · exact k.1 u hu
    · cases h2
      exact ⟨fun u hu => by simp at hu; subst hu; exact g, by simp, by simp⟩
theorem litsS_ok : ∀ {ts : List Lt}, (∀ t ∈ ts, LIn t ∧ ∃ s, litS t = some s) → ∃ s, litsS ts = some s
  | [], _ => ⟨[], rfl⟩
  | [t], h => (h t (by simp)).2
  | t :: u :: r, h => by
    obtain ⟨a, ha⟩ := (h t (by simp)).2
    obtain ⟨x, hx⟩ := litsS_ok (ts := u :: r) (fun v hv => h v (List.mem_cons_of_mem _ hv))
    exact ⟨_, by rw [litsS, ha, Option.bind_some, hx, Option.map_some]⟩
theorem rule_good {E : Nat} {L L1 : List Tok} {r : Ru} (hL : Ok L) (h : rule E L = .ok (r, L1)) : RIn r ∧ ∃ s, ruleS r = some s := by
  obtain ⟨h0, L2, L3, p, L4, t, L5, L6, b, L7, h1, h2, h3, h4, h5, h6, h7, rfl⟩ := rule_inv h
  have k2 := hL.pre (term_pre h1)
  have k3 := k2.pre (need_pre (by decide) h2)
  have k4 := k3.pre (atom_pre h3)
  have k5 := k4.pre (opt_pre h4)
  have k6 := k5.pre (need_pre (by decide) h5)
  have g1 := term_good hL h1
  have g3 := atom_good k3 h3
  have g4 := opt_good k4 h4
  have g6 := body_good k6 h6
  obtain ⟨x, hx⟩ := g1.2
  obtain ⟨y, hy⟩ := g3.2
  obtain ⟨z, hz⟩ := g4.2 [32, 116, 111, 32] []
  obtain ⟨u, hu⟩ := litsS_ok g6.1
  refine ⟨⟨g1.1, g3.1, g4.1, fun l hl => (g6.1 l hl).1⟩, ?_⟩
  unfold ruleS
  dsimp only
  rw [if_pos g6.2, hx, Option.bind_some, hy, Option.bind_some, hz, Option.bind_some, hu, Option.map_some]
  exact ⟨_, rfl⟩
theorem rules_good {E : Nat} : ∀ {n : Nat} {L : List Tok} {l : List Ru}, Ok L → rules E n L = .ok l → (∀ r ∈ l, RIn r ∧ ∃ s, ruleS r = some s) ∧ l.length ≤ n
  | n, [], l, _, h => by
    rw [rules_nil] at h; cases h
    exact ⟨fun r hr => by simp at hr, Nat.zero_le _⟩
  | 0, t :: L, l, _, h => by cases h
  | n + 1, t :: L, l, hL, h => by
    rw [rules_succ (by simp)] at h
    cases hr : rule E (t :: L) with
    | error e => rw [hr] at h; cases h
    | ok x =>
      obtain ⟨r, L1⟩ := x
      rw [hr] at h
      change rcons r (rules E n L1) = .ok l at h
      cases hq : rules E n L1 with
      | error e => rw [hq] at h; cases h
      | ok m =>
        rw [hq] at h
        cases h
        have k := rules_good (hL.pre (rule_pre hr)) hq
        refine ⟨fun u hu => ?_, by simp only [List.length_cons]; omega⟩
        rcases List.mem_cons.1 hu with rfl | hu
        · exact rule_good hL hr
        · exact k.1 u hu
theorem allS_ok : ∀ {l : List Ru}, (∀ r ∈ l, RIn r ∧ ∃ s, ruleS r = some s) → ∃ s, allS l = some s
  | [], _ => ⟨[], rfl⟩
  | r :: l, h => by
    obtain ⟨a, ha⟩ := (h r (by simp)).2
    obtain ⟨x, hx⟩ := allS_ok (l := l) (fun v hv => h v (List.mem_cons_of_mem _ hv))
    exact ⟨_, by rw [allS, ha, Option.bind_some, hx, Option.map_some]⟩
/-- what was parsed can be shown, or its text would be too long -/
theorem prog_good {m : List UInt8} {l : List Ru} (h : prog m = .ok l) : (∀ r ∈ l, RIn r) ∧ ((∃ s, progS l = .ok s) ∨ progS l = .error 3) := by
  unfold prog at h
  split at h
  · cases h
  · rename_i L hL
    have ho : Ok L := by
      unfold ans at hL
      split at hL
      · cases hL
      · exact tks_ok L _ hL
    have g := rules_good ho h
    refine ⟨fun r hr => (g.1 r hr).1, ?_⟩
    obtain ⟨s, hs⟩ := allS_ok g.1
    unfold progS
    rw [if_neg (by omega), hs]
    dsimp only
    split
    · exact .inr rfl
    · exact .inl ⟨_, rfl⟩
/-- a text that is a program: what it is shown as is the same program, and is shown as the same text again -/
theorem prog_again {m s : List UInt8} {l : List Ru} (h : prog m = .ok l) (hs : progS l = .ok s) : prog s = .ok l :=
  prog_shown (prog_good h).1 hs
end Sh
end Go.Proofs.YtcogjphoceaejaaDoor
