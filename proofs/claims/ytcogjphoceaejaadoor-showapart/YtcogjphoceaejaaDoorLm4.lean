/-
  The mathematics of texts that are cut off ahead of a token, and of texts with blanks and remarks more between their tokens. No program in this text.
-/
import Derived.Test.YtcogjphoceaejaaDoorPb
namespace Go.Proofs.YtcogjphoceaejaaDoor
namespace Lx
open Go.Lib

/-! a text that is cut off -/
theorem run_cut {p : UInt8 → Bool} {A m : List UInt8} {i : Nat} (hi : i ≤ A.length) (h : run p (A ++ m) i ≤ A.length) : run p A i = run p (A ++ m) i := by
  obtain ⟨h1, h2⟩ := run_pre (p := p) (l := A) (m := m) A.length i (by omega) hi
  rcases Nat.lt_or_ge (run p A i) A.length with h3 | h3
  · exact (h1 h3).symm
  · have := h2 h3
    have := run_le p hi
    omega
theorem one_cut {A m : List UInt8} {i e : Nat} {t : Tok} (h : one (A ++ m) i = some (t, e)) (hl : i < (A ++ m).length) (he : e ≤ A.length) : one A i = some (t, e) := by
  have hg := one_gt hl h
  have hi : i < A.length := by omega
  rw [one_at hl, at_app hi] at h
  rw [one_at hi]
  unfold oneC at h ⊢
  have hw : ∀ k, word k (A ++ m) i = some (t, e) → word k A i = some (t, e) := fun k hk => by
    unfold word at hk ⊢
    simp only [Option.some.injEq, Prod.mk.injEq] at hk
    have hr := run_cut (p := inner) (A := A) (m := m) (i := i) (by omega) (by omega)
    rw [hr, ← sub_app (m := m) (by omega) (by omega)]
    simp only [Option.some.injEq, Prod.mk.injEq]; exact hk
  split at h
  · rename_i hc; rw [if_pos hc]; exact hw 1 h
  rename_i hc1
  rw [if_neg hc1]
  split at h
  · rename_i hc; rw [if_pos hc]; exact hw 2 h
  rename_i hc2
  rw [if_neg hc2]
  split at h
  · rename_i hc
    rw [if_pos hc]
    unfold number at h ⊢
    have hf : first (A ++ m) i = first A i := by unfold first; rw [isNeg_app hi]
    have hl := first_lt hi
    rw [hf, isNeg_app hi] at h
    have he' : run digit (A ++ m) (first A i) = e := by
      rw [Option.map_eq_some_iff] at h
      obtain ⟨v, _, hv⟩ := h
      simp only [Prod.mk.injEq] at hv; exact hv.2
    have hr := run_cut (p := digit) (A := A) (m := m) (i := first A i) hl (by omega)
    rw [hr, ← sub_app (m := m) hl (by omega)]; exact h
  rename_i hc3
  rw [if_neg hc3]
  split at h
  · rename_i hc
    rw [if_pos hc]
    unfold quote at h ⊢
    split at h
    · rename_i hq
      simp only [Option.some.injEq, Prod.mk.injEq] at h
      have hr := run_cut (p := plain) (A := A) (m := m) (i := i + 1) hi (by omega)
      rw [hr, ← get_app (m := m) (by omega), if_pos hq, ← sub_app (m := m) hi (by omega)]
      simp only [Option.some.injEq, Prod.mk.injEq]; exact h
    · cases h
  · rename_i hc
    rw [if_neg hc]
    unfold sign at h ⊢
    split at h
    · rename_i hq
      simp only [Option.some.injEq, Prod.mk.injEq] at h
      rw [get_app (by omega)] at hq
      rw [if_pos hq]
      simp only [Option.some.injEq, Prod.mk.injEq]; exact h
    · rename_i hq
      have hq' : ¬ (A[i].toNat = 58 ∧ A[i + 1]?.map (·.toNat) = some 45) := fun hh => by
        refine hq ⟨hh.1, ?_⟩
        rcases Nat.lt_or_ge (i + 1) A.length with h1 | h1
        · rw [get_app h1]; exact hh.2
        · rw [List.getElem?_eq_none h1] at hh; simp at hh
      rw [if_neg hq']; exact h
theorem skip_cut {A m : List UInt8} {e : Nat} (he : e ≤ A.length) (h : skip (A ++ m) e ≤ A.length) : skip A e = skip (A ++ m) e := by
  obtain ⟨h1, h2⟩ := skip_app (m := m) he
  have hle := skip_le he
  rcases Nat.lt_or_ge (skip A e) A.length with h3 | h3
  · exact (h1 h3).symm
  · obtain ⟨n, hn⟩ := h2 h3
    omega
theorem tks_short {l : List UInt8} {i e : Nat} {t : Tok} {R : List Tok} (h : tks l i = .ok (t :: R)) (ho : one l i = some (t, e)) (hi : i < l.length) : ¬ 32 < t.text.length := fun h32 => by
  rw [tks_long hi ho h32] at h; cases h
theorem tks_rise {l : List UInt8} : ∀ (M : List Tok) (e : Nat), tks l (skip l e) = .ok M → ∀ t ∈ M, e ≤ t.pl
  | [], _, _, t, ht => by simp at ht
  | u :: R, e, h, t, ht => by
    obtain ⟨hi, e', ho, hn⟩ := tks_inv h
    have hp := one_pl ho
    have hg := one_gt hi ho
    have hs := le_skip l e
    rcases List.mem_cons.1 ht with rfl | ht
    · omega
    · have := tks_rise R e' hn t ht
      omega
theorem tks_cut {A m : List UInt8} {t : Tok} {R : List Tok} (ht : t.pl = A.length) : ∀ (L : List Tok) (e : Nat), e ≤ A.length → tks (A ++ m) (skip (A ++ m) e) = .ok (L ++ t :: R) → tks A (skip A e) = .ok L
  | [], e, he, h => by
    obtain ⟨hi, e', ho, hn⟩ := tks_inv h
    have hp := one_pl ho
    rw [skip_cut (m := m) he (by omega)]
    exact tks_end (by omega)
  | u :: L, e, he, h => by
    obtain ⟨hi, e', ho, hn⟩ := tks_inv h
    have hsh := tks_short h ho hi
    have hr := tks_rise _ _ hn t (by simp)
    have hg := one_gt hi ho
    have hs : skip A e = skip (A ++ m) e := skip_cut he (by omega)
    have ho' := one_cut ho hi (by omega)
    have hi' : skip (A ++ m) e < A.length := by omega
    rw [hs, tks_cons hi' ho' hsh, tks_cut ht L e' (by omega) hn]; rfl
theorem ans_cut {l : List UInt8} {L : List Tok} {k : Nat} (h : ans l = .ok L) (hk : k < L.length) : ans (l.take L[k].pl) = .ok (L.take k) := by
  have hp := ans_pl h L[k] (List.getElem_mem hk)
  unfold ans at h
  split at h
  · cases h
  rename_i hl
  have hA : (l.take L[k].pl).length = L[k].pl := by rw [List.length_take]; omega
  unfold ans
  rw [if_neg (by omega)]
  refine tks_cut (m := l.drop L[k].pl) (t := L[k]) (R := L.drop (k + 1)) hA.symm (L.take k) 0 (Nat.zero_le _) ?_
  rw [List.take_append_drop, ← List.drop_eq_getElem_cons hk, List.take_append_drop]; exact h

/-! blanks and remarks more -/
theorem one_some_app {l m : List UInt8} {i e : Nat} {t : Tok} (hm : ∀ c, m.head? = some c → inner c = false ∧ c.toNat ≠ 45) (h : i < l.length) (h1 : one l i = some (t, e)) : one (l ++ m) i = some (t, e) := by
  rw [one_at (l := l ++ m) (by rw [List.length_append]; omega), at_app h]
  rw [one_at h] at h1
  unfold oneC at h1 ⊢
  have hw : ∀ k, word k (l ++ m) i = word k l i := fun k => by
    unfold word
    rw [run_app (fun c hc => (hm c hc).1) l.length i (by omega) (by omega), sub_app (by omega) (run_le inner (by omega))]
  rw [hw, hw]
  split at h1
  · rename_i hc; rw [if_pos hc]; exact h1
  rename_i hc1
  rw [if_neg hc1]
  split at h1
  · rename_i hc; rw [if_pos hc]; exact h1
  rename_i hc2
  rw [if_neg hc2]
  split at h1
  · rename_i hc
    rw [if_pos hc]
    have hf : first (l ++ m) i = first l i := by unfold first; rw [isNeg_app h]
    have hl := first_lt h
    have hr : run digit (l ++ m) (first l i) = run digit l (first l i) := run_app (fun c hc => digit_inner (hm c hc).1) l.length _ (by omega) hl
    unfold number at h1 ⊢
    rw [hf, isNeg_app h, hr, sub_app hl (run_le digit hl)]; exact h1
  rename_i hc3
  rw [if_neg hc3]
  split at h1
  · rename_i hc
    rw [if_pos hc]
    unfold quote at h1 ⊢
    split at h1
    · rename_i hq
      have hr : run plain l (i + 1) < l.length := by
        rcases Nat.lt_or_ge (run plain l (i + 1)) l.length with h' | h'
        · exact h'
        · rw [List.getElem?_eq_none h'] at hq; simp at hq
      have e1 := (run_pre (p := plain) (l := l) (m := m) l.length (i + 1) (by omega) h).1 hr
      rw [e1, get_app hr, if_pos hq, sub_app h (by omega)]; exact h1
    · cases h1
  · rename_i hc
    rw [if_neg hc]
    have e1 : ((l ++ m)[i + 1]?.map (·.toNat) = some 45) ↔ (l[i + 1]?.map (·.toNat) = some 45) := by
      rcases Nat.lt_or_ge (i + 1) l.length with h2 | h2
      · rw [get_app h2]
      · rw [List.getElem?_append_right h2, List.getElem?_eq_none h2, show i + 1 - l.length = 0 by omega]
        cases m with
        | nil => simp
        | cons d r => simpa using (hm d rfl).2
    unfold sign at h1 ⊢
    by_cases hq : l[i].toNat = 58 ∧ l[i + 1]?.map (·.toNat) = some 45
    · rw [if_pos hq] at h1; rw [if_pos ⟨hq.1, e1.2 hq.2⟩]; exact h1
    · rw [if_neg hq] at h1; rw [if_neg (fun h' => hq ⟨h'.1, e1.1 h'.2⟩)]; exact h1
/-- is one in a remark behind some bytes? -/
def en (n : Bool) (x : List UInt8) : Bool := x.foldl note n
theorem sk_over : ∀ (x : List UInt8) (n : Bool), x.length ≤ sk n x → ∀ m, sk n (x ++ m) = x.length + sk (en n x) m
  | [], n, _, m => by simp [en]
  | c :: r, n, h, m => by
    rw [sk] at h
    rw [List.cons_append, sk]
    by_cases hc : note n c = false ∧ blank c = false
    · rw [if_pos hc] at h; simp at h
    · rw [if_neg hc] at h ⊢
      rw [List.length_cons] at h ⊢
      rw [sk_over r (note n c) (by omega) m]
      simp only [en, List.foldl_cons]; omega
theorem sk_zero {n : Bool} {c : UInt8} {r : List UInt8} (h : sk n (c :: r) = 0) : note n c = false ∧ blank c = false := by
  rw [sk] at h
  by_cases hc : note n c = false ∧ blank c = false
  · exact hc
  · rw [if_neg hc] at h; omega
theorem note_false {n : Bool} {c : UInt8} (h : note n c = false) (hb : blank c = false) : n = false := by
  unfold note at h
  split at h
  · cases h
  split at h
  · rename_i h10; simp [blank, h10] at hb
  · exact h
/-- blanks that end at a byte that is none: whatever stands there instead of it, they are skipped -/
theorem sk_known {x : List UInt8} {c : UInt8} {r : List UInt8} (h : sk false (x ++ c :: r) = x.length) (m : List UInt8) : sk false (x ++ m) = x.length + sk false m := by
  have h1 : x.length ≤ sk false x := by
    rcases Nat.lt_or_ge (sk false x) x.length with h' | h'
    · have := (sk_app (c :: r) x false).1 h'
      omega
    · exact h'
  have h2 := sk_over x false h1 (c :: r)
  have h3 := sk_zero (n := en false x) (c := c) (r := r) (by omega)
  rw [sk_over x false h1 m, note_false h3.1 h3.2]
theorem one_first {l : List UInt8} {i e : Nat} {t : Tok} (hi : i < l.length) (h : one l i = some (t, e)) : note false l[i] = false ∧ blank l[i] = false := by
  rw [one_at hi] at h
  unfold oneC at h
  generalize l[i] = c at h
  have key : c.toNat ≠ 37 ∧ c.toNat ≠ 32 ∧ c.toNat ≠ 9 ∧ c.toNat ≠ 10 ∧ c.toNat ≠ 13 := by
    split at h
    · rename_i hc; simp only [small, Bool.and_eq_true, decide_eq_true_eq] at hc; omega
    split at h
    · rename_i hc; simp only [great, Bool.and_eq_true, decide_eq_true_eq] at hc; omega
    split at h
    · rename_i hc; simp only [digit, Bool.or_eq_true, Bool.and_eq_true, decide_eq_true_eq] at hc; omega
    split at h
    · rename_i hc; omega
    · unfold sign at h
      split at h
      · rename_i hc; omega
      split at h
      · rename_i hc; simp only [signs, Bool.or_eq_true, decide_eq_true_eq] at hc; omega
      · cases h
  refine ⟨?_, ?_⟩
  · unfold note; rw [if_neg key.1, if_neg key.2.2.2.1]
  · simp [blank, key]
theorem sk_token {l : List UInt8} {M : List Tok} {t : Tok} (h : tks l 0 = .ok (t :: M)) : sk false l = 0 := by
  obtain ⟨hi, e, ho, _⟩ := tks_inv h
  have := one_first hi ho
  cases l with
  | nil => simp at hi
  | cons c r => rw [sk]; exact if_pos this
theorem tks_unshift (a b : List UInt8) : ∀ (N : List Tok) (i : Nat), tks (a ++ b) (a.length + i) = .ok N → ∃ M, tks b i = .ok M ∧ N = M.map (sh a.length)
  | [], i, h => by
    have := tks_nil h
    rw [List.length_append] at this
    exact ⟨[], tks_end (by omega), rfl⟩
  | u :: N, i, h => by
    obtain ⟨hi, e, ho, hn⟩ := tks_inv h
    have hsh := tks_short h ho hi
    rw [List.length_append] at hi
    rw [one_shift] at ho
    cases h1 : one b i with
    | none => rw [h1] at ho; cases ho
    | some r =>
      obtain ⟨t', e'⟩ := r
      rw [h1] at ho
      simp only [shR, Option.map_some, Option.some.injEq, Prod.mk.injEq] at ho
      obtain ⟨rfl, rfl⟩ := ho
      rw [skip_shift] at hn
      obtain ⟨M, h2, rfl⟩ := tks_unshift a b N (skip b e') hn
      exact ⟨t' :: M, by rw [tks_cons (by omega) h1 hsh, h2]; rfl, rfl⟩
/-- what may be laid between tokens -/
structure More (m : List UInt8) : Prop where
  head : ∀ v c, (m ++ v).head? = some c → inner c = false ∧ c.toNat ≠ 45
  over : ∀ v, sk false (m ++ v) = m.length + sk false v
def wide (l m : List UInt8) : Nat → List Tok → List UInt8
  | f, [] => l.drop f
  | f, t :: L => sub l f t.pl ++ (m ++ wide l m t.pl L)
theorem take_two' (l : List UInt8) {p q : Nat} (h : p ≤ q) : l.take q = l.take p ++ sub l p q := by
  unfold sub
  rw [← List.take_add, show p + (q - p) = q by omega]
theorem drop_two (l : List UInt8) {p q : Nat} (h : p ≤ q) : l.drop p = sub l p q ++ l.drop q := by
  unfold sub
  conv => lhs; rw [← List.take_append_drop (q - p) (l.drop p), List.drop_drop, show p + (q - p) = q by omega]
theorem skip_known {l m v : List UInt8} {e : Nat} (hm : More m) (hq : skip l e < l.length) (hv : sk false v = 0) : sk false (sub l e (skip l e) ++ (m ++ v)) = (sub l e (skip l e)).length + m.length := by
  have hle := le_skip l e
  have hd := drop_two l hle
  have hs : sk false (l.drop e) = skip l e - e := by unfold skip skipN; omega
  have hlen : (sub l e (skip l e)).length = skip l e - e := sub_length (Nat.le_of_lt hq)
  rw [hd, List.drop_eq_getElem_cons hq] at hs
  rw [sk_known (by rw [hs, hlen]) (m ++ v), hm.over, hv]; omega
theorem tks_wide {l m : List UInt8} (hm : More m) : ∀ (L : List Tok) (t : Tok), tks l t.pl = .ok (t :: L) → ∃ u M, tks (wide l m t.pl L) 0 = .ok (u :: M) ∧ Ps.Sm (u :: M) (t :: L)
  | [], t, h => by
    obtain ⟨hi, e, ho, hn⟩ := tks_inv h
    have e1 : l.take t.pl ++ l.drop t.pl = l := List.take_append_drop _ _
    have e2 : (l.take t.pl).length = t.pl := by rw [List.length_take]; omega
    have h' : tks (l.take t.pl ++ l.drop t.pl) ((l.take t.pl).length + 0) = .ok [t] := by rw [e1, e2]; exact h
    obtain ⟨M, h1, h2⟩ := tks_unshift _ _ _ _ h'
    cases M with
    | nil => cases h2
    | cons u M =>
      refine ⟨u, M, h1, ?_⟩
      rw [h2]; exact (Ps.sm_shift _ _).symm
  | t' :: L, t, h => by
    obtain ⟨hi, e, ho, hn⟩ := tks_inv h
    have hsh := tks_short h ho hi
    obtain ⟨hi', e', ho', hn'⟩ := tks_inv hn
    have hp' := one_pl ho'
    have hg := one_gt hi ho
    have hle := le_skip l e
    obtain ⟨u, M, h1, h2⟩ := tks_wide hm L t' (by rw [hp']; exact hn)
    have hz := sk_token h1
    have hf := one_first hi' ho'
    show ∃ u M, tks (sub l t.pl t'.pl ++ (m ++ wide l m t'.pl L)) 0 = .ok (u :: M) ∧ _
    generalize wide l m t'.pl L = v at h1 hz ⊢
    rw [hp']
    generalize hq : skip l e = q at *
    have a1 : (l.take q).length = q := by rw [List.length_take]; omega
    have a2 : (l.take t.pl).length = t.pl := by rw [List.length_take]; omega
    have b1 := one_cut (A := l.take q) (m := l.drop q) (by rw [List.take_append_drop]; exact ho) (by rw [List.take_append_drop]; exact hi) (by omega)
    rw [take_two' l (show t.pl ≤ q by omega)] at b1
    have b2 : one (l.take t.pl ++ sub l t.pl q) ((l.take t.pl).length + 0) = some (t, e) := by rw [a2]; exact b1
    rw [one_shift] at b2
    cases b3 : one (sub l t.pl q) 0 with
    | none => rw [b3] at b2; cases b2
    | some r =>
      obtain ⟨w, e0⟩ := r
      rw [b3, a2] at b2
      simp only [shR, Option.map_some, Option.some.injEq, Prod.mk.injEq] at b2
      obtain ⟨b4, b5⟩ := b2
      have ls : (sub l t.pl q).length = q - t.pl := sub_length (by omega)
      have b6 := one_some_app (m := m ++ v) (hm.head v) (by omega) b3
      have hw : ¬ 32 < w.text.length := by
        have : w.text = t.text := by rw [← b4]; rfl
        rw [this]; exact hsh
      have hsk : skip (sub l t.pl q ++ (m ++ v)) e0 = (sub l t.pl q ++ m).length + 0 := by
        have c1 : sub l t.pl q = sub l t.pl e ++ sub l e q := by
          unfold sub
          rw [show q - t.pl = (e - t.pl) + (q - e) by omega, List.take_add, List.drop_drop, show t.pl + (e - t.pl) = e by omega]
        have c2 : (sub l t.pl e).length = e0 := by rw [sub_length (by omega)]; omega
        have c3 := skip_known (l := l) (m := m) (v := v) (e := e) hm (by omega) hz
        rw [hq] at c3
        unfold skip skipN
        rw [c1, List.append_assoc, ← c2, List.drop_left, c3]
        simp only [List.length_append]; omega
      have c4 := tks_shift (sub l t.pl q ++ m) v v.length 0 (u :: M) (by omega) h1
      rw [List.append_assoc] at c4
      refine ⟨w, (u :: M).map (sh (sub l t.pl q ++ m).length), ?_, ?_⟩
      · rw [tks_cons (by rw [List.length_append]; omega) b6 hw, hsk, c4]; rfl
      · have d1 := Ps.sm_shift (sub l t.pl q ++ m).length (u :: M)
        have d2 : Ps.strip w = Ps.strip t := by rw [← b4]; rfl
        unfold Ps.Sm at *
        rw [List.map_cons, List.map_cons (f := Ps.strip) (a := t), d1, h2, d2]
theorem ans_wide {l m : List UInt8} {L : List Tok} (hm : More m) (h : ans l = .ok L) (hw : (wide l m 0 L).length ≤ 4096) : ∃ M, ans (wide l m 0 L) = .ok M ∧ Ps.Sm M L := by
  unfold ans at h ⊢
  split at h
  · cases h
  rw [if_neg (by omega)]
  cases L with
  | nil =>
    have := tks_nil h
    refine ⟨[], ?_, rfl⟩
    show tks (l.drop 0) _ = _
    rw [List.drop_zero]; exact h
  | cons t L =>
    obtain ⟨hi, e, ho, hn⟩ := tks_inv h
    have hp := one_pl ho
    obtain ⟨u, M, h1, h2⟩ := tks_wide hm L t (by rw [hp]; exact h)
    have hz := sk_token h1
    have hf := one_first hi ho
    show ∃ N, tks (sub l 0 t.pl ++ (m ++ wide l m t.pl L)) _ = .ok N ∧ _
    simp only [wide]
    generalize wide l m t.pl L = v at h1 hz ⊢
    rw [hp]
    have c3 := skip_known (l := l) (m := m) (v := v) (e := 0) hm hi hz
    have hsk : skip (sub l 0 (skip l 0) ++ (m ++ v)) 0 = (sub l 0 (skip l 0) ++ m).length + 0 := by
      unfold skip skipN at c3 ⊢
      rw [List.drop_zero, Nat.zero_add, c3, List.length_append]; rfl
    have c4 := tks_shift (sub l 0 (skip l 0) ++ m) v v.length 0 (u :: M) (by omega) h1
    rw [List.append_assoc] at c4
    refine ⟨_, by rw [hsk, c4], ?_⟩
    unfold Ps.Sm at *
    rw [Ps.sm_shift]; exact h2
theorem more_of {m : List UInt8} (h0 : m ≠ []) (h1 : ∀ c, m.head? = some c → inner c = false ∧ c.toNat ≠ 45) (h2 : m.length ≤ sk false m) (h3 : en false m = false) : More m := by
  refine ⟨fun v c hc => ?_, fun v => ?_⟩
  · cases m with
    | nil => exact absurd rfl h0
    | cons d r => exact h1 c hc
  · rw [sk_over m false h2 v, h3]
theorem more0 : More [32] := more_of (by decide) (fun c hc => by simp at hc; subst hc; decide) (by decide) (by decide)
theorem more1 : More [10] := more_of (by decide) (fun c hc => by simp at hc; subst hc; decide) (by decide) (by decide)
theorem more2 : More [32, 37, 32, 120, 40, 10] := more_of (by decide) (fun c hc => by simp at hc; subst hc; decide) (by decide) (by decide)
theorem more3 : More [9, 13, 10, 32] := more_of (by decide) (fun c hc => by simp at hc; subst hc; decide) (by decide) (by decide)
end Lx
namespace Ps
open Lx
theorem prog_wide {l m : List UInt8} {L : List Tok} (hm : More m) (h : ans l = .ok L) (hw : (wide l m 0 L).length ≤ 4096) : err (prog l) = err (prog (wide l m 0 L)) ∧ rs (prog l) = rs (prog (wide l m 0 L)) := by
  obtain ⟨M, h1, h2⟩ := ans_wide hm h hw
  unfold prog
  rw [h, h1]
  exact (rules_sm h2.symm).err
theorem prog_big {l : List UInt8} (h : 4096 < l.length) : err (prog l) = 3 := by
  unfold prog ans; rw [if_pos h]; rfl
theorem prog_cut {l : List UInt8} {L : List Tok} {r : List Ru} {k : Nat} (h : ans l = .ok L) (hp : prog l = .ok r) (hk : k < L.length) : (∃ m, prog (l.take L[k].pl) = .ok m ∧ m.length < r.length ∧ m = r.take m.length) ∨ prog (l.take L[k].pl) = .error ((l.take L[k].pl).length, 80) := by
  have hc := ans_cut h hk
  unfold prog at hp ⊢
  rw [h] at hp
  rw [hc]
  simp only at hp ⊢
  refine rules_cut (E := l.length) (B := L.drop k) (A := L.take k) ?_ ?_
  · intro e
    have := congrArg List.length e
    simp at this; omega
  · rw [List.take_append_drop]; exact hp
end Ps
end Go.Proofs.YtcogjphoceaejaaDoor
