/-
  The mathematics of texts that are put together; tokens that rise; numbers alone.
-/
import Derived.Test.YtcogjphoceaejaaDoorLm2
namespace Go.Proofs.YtcogjphoceaejaaDoor
namespace Lx
open Go.Lib

theorem toks_ok (L : List Tok) : toks (.ok L) = L := rfl
theorem place_ok (L : List Tok) : place (.ok L) = 0 := rfl
theorem err_ok (L : List Tok) : err (.ok L) = 0 := rfl
theorem toks_err (z : Nat × Int) : toks (.error z) = [] := rfl
theorem place_err (z : Nat × Int) : place (.error z) = z.1 := rfl
theorem err_err (z : Nat × Int) : err (.error z) = z.2 := rfl

/-! bytes behind a text -/
theorem get_app {l m : List UInt8} {i : Nat} (h : i < l.length) : (l ++ m)[i]? = l[i]? := List.getElem?_append_left h
theorem at_app {l m : List UInt8} {i : Nat} (h : i < l.length) : (l ++ m)[i]'(by rw [List.length_append]; omega) = l[i] := List.getElem_append_left h
theorem at_end {l m : List UInt8} {c : UInt8} {r : List UInt8} (hm : m = c :: r) : (l ++ m)[l.length]'(by subst hm; simp) = c := by subst hm; simp
theorem run_app {p : UInt8 → Bool} {l m : List UInt8} (hm : ∀ c, m.head? = some c → p c = false) : ∀ (k i : Nat), l.length ≤ i + k → i ≤ l.length → run p (l ++ m) i = run p l i
  | 0, i, hk, hi => by
    have e : i = l.length := by omega
    subst e
    rw [run_end (l := l) (Nat.le_refl _)]
    cases m with
    | nil => rw [List.append_nil, run_end (Nat.le_refl _)]
    | cons c r => exact run_stop (by simp) (by rw [at_end rfl]; exact hm c rfl)
  | k + 1, i, hk, hi => by
    rcases Nat.lt_or_ge i l.length with h | h
    · have hl : i < (l ++ m).length := by rw [List.length_append]; omega
      cases hp : p l[i] with
      | true => rw [run_step h hp, run_step hl (by rw [at_app h]; exact hp)]; exact run_app hm k (i + 1) (by omega) (by omega)
      | false => rw [run_stop h hp, run_stop hl (by rw [at_app h]; exact hp)]
    · have e : i = l.length := by omega
      subst e
      rw [run_end (l := l) (Nat.le_refl _)]
      cases m with
      | nil => rw [List.append_nil, run_end (Nat.le_refl _)]
      | cons c r => exact run_stop (by simp) (by rw [at_end rfl]; exact hm c rfl)
/-- a run that ends within a text ends there; one that does not goes on behind it -/
theorem run_pre {p : UInt8 → Bool} {l m : List UInt8} : ∀ (k i : Nat), l.length ≤ i + k → i ≤ l.length → (run p l i < l.length → run p (l ++ m) i = run p l i) ∧ (l.length ≤ run p l i → l.length ≤ run p (l ++ m) i)
  | 0, i, hk, hi => ⟨fun h => by rw [run_end (by omega)] at h; omega, fun _ => by have := le_run p (l ++ m) i; omega⟩
  | k + 1, i, hk, hi => by
    rcases Nat.lt_or_ge i l.length with h | h
    · have hl : i < (l ++ m).length := by rw [List.length_append]; omega
      cases hp : p l[i] with
      | true => rw [run_step h hp, run_step hl (by rw [at_app h]; exact hp)]; exact run_pre k (i + 1) (by omega) (by omega)
      | false =>
        rw [run_stop h hp, run_stop hl (by rw [at_app h]; exact hp)]
        exact ⟨fun _ => rfl, fun h' => h'⟩
    · exact ⟨fun h' => by rw [run_end h] at h'; omega, fun _ => by have := le_run p (l ++ m) i; omega⟩
theorem sub_app {l m : List UInt8} {i j : Nat} (hi : i ≤ l.length) (hj : j ≤ l.length) : sub (l ++ m) i j = sub l i j := by
  unfold sub
  rw [List.drop_append_of_le_length hi, List.take_append_of_le_length (by rw [List.length_drop]; omega)]

/-- what may stand behind a text and change no token of it -/
structure Behind (m : List UInt8) : Prop where
  head : ∀ c, m.head? = some c → inner c = false ∧ c.toNat ≠ 45
  quote : (∀ c, m.head? = some c → plain c = false ∧ c.toNat ≠ 34) ∨ ∀ c ∈ m, c.toNat ≠ 34
theorem digit_inner {c : UInt8} (h : inner c = false) : digit c = false := by
  cases hd : digit c with
  | false => rfl
  | true => simp [inner, hd] at h
theorem isNeg_app {l m : List UInt8} {i : Nat} (h : i < l.length) : isNeg (l ++ m) i = isNeg l i := by unfold isNeg; rw [get_app h]
theorem number_app {l m : List UInt8} {i : Nat} (hb : Behind m) (h : i < l.length) : number (l ++ m) i = number l i := by
  have hf : first (l ++ m) i = first l i := by unfold first; rw [isNeg_app h]
  have hl := first_lt h
  have hr : run digit (l ++ m) (first l i) = run digit l (first l i) := run_app (fun c hc => digit_inner (hb.head c hc).1) l.length _ (by omega) hl
  unfold number
  rw [hf, isNeg_app h, hr, sub_app hl (run_le digit hl)]
theorem quote_app {l m : List UInt8} {i : Nat} (hb : Behind m) (h : i < l.length) : quote (l ++ m) i = quote l i := by
  obtain ⟨h1, h2⟩ := run_pre (p := plain) (l := l) (m := m) l.length (i + 1) (by omega) h
  rcases Nat.lt_or_ge (run plain l (i + 1)) l.length with hr | hr
  · unfold quote
    rw [h1 hr, get_app hr, sub_app h (by omega)]
  · have hn : quote l i = none := by
      unfold quote
      rw [if_neg (by rw [List.getElem?_eq_none hr]; simp)]
    rw [hn]
    unfold quote
    rw [if_neg]
    rcases hb.quote with hq | hq
    · have e : run plain (l ++ m) (i + 1) = l.length := by
        rw [run_app (fun c hc => (hq c hc).1) l.length (i + 1) (by omega) h]
        have := run_le plain (l := l) (i := i + 1) h
        omega
      rw [e]
      cases m with
      | nil => simp
      | cons c r => simpa using (hq c rfl).2
    · intro hc
      rw [List.getElem?_append_right (h2 hr)] at hc
      rw [Option.map_eq_some_iff] at hc
      obtain ⟨c, hc1, hc2⟩ := hc
      exact hq c (List.mem_of_getElem? hc1) hc2
theorem sign_app {l m : List UInt8} {i : Nat} {c : UInt8} (hb : Behind m) (h : i < l.length) : sign (l ++ m) i c = sign l i c := by
  have e : ((l ++ m)[i + 1]?.map (·.toNat) = some 45) ↔ (l[i + 1]?.map (·.toNat) = some 45) := by
    rcases Nat.lt_or_ge (i + 1) l.length with h1 | h1
    · rw [get_app h1]
    · rw [List.getElem?_append_right h1, List.getElem?_eq_none h1, show i + 1 - l.length = 0 by omega]
      cases m with
      | nil => simp
      | cons d r => simpa using (hb.head d rfl).2
  unfold sign
  by_cases hc : c.toNat = 58 ∧ l[i + 1]?.map (·.toNat) = some 45
  · rw [if_pos hc, if_pos ⟨hc.1, e.2 hc.2⟩]
  · rw [if_neg hc, if_neg (fun h' => hc ⟨h'.1, e.1 h'.2⟩)]
theorem word_app {l m : List UInt8} {i : Nat} {k : Int} (hb : Behind m) (h : i < l.length) : word k (l ++ m) i = word k l i := by
  unfold word
  rw [run_app (fun c hc => (hb.head c hc).1) l.length i (by omega) (by omega), sub_app (by omega) (run_le inner (by omega))]
theorem one_app {l m : List UInt8} {i : Nat} (hb : Behind m) (h : i < l.length) : one (l ++ m) i = one l i := by
  rw [one_at h, one_at (l := l ++ m) (by rw [List.length_append]; omega), at_app h]
  unfold oneC
  rw [word_app hb h, word_app hb h, number_app hb h, quote_app hb h, sign_app hb h]
theorem sk_app (m : List UInt8) : ∀ (x : List UInt8) (n : Bool), (sk n x < x.length → sk n (x ++ m) = sk n x) ∧ (x.length ≤ sk n x → ∃ n', sk n (x ++ m) = x.length + sk n' m)
  | [], n => ⟨fun h => by simp [sk] at h, fun _ => ⟨n, by simp⟩⟩
  | c :: r, n => by
    rw [List.cons_append, sk, sk]
    by_cases h : note n c = false ∧ blank c = false
    · rw [if_pos h, if_pos h]
      exact ⟨fun _ => rfl, fun h' => by simp at h'⟩
    · rw [if_neg h, if_neg h]
      obtain ⟨h1, h2⟩ := sk_app m r (note n c)
      refine ⟨fun h' => ?_, fun h' => ?_⟩
      · rw [List.length_cons] at h'; rw [h1 (by omega)]
      · rw [List.length_cons] at h'
        obtain ⟨n', hn⟩ := h2 (by omega)
        exact ⟨n', by rw [hn, List.length_cons]; omega⟩
theorem skip_app {l m : List UInt8} {e : Nat} (he : e ≤ l.length) : (skip l e < l.length → skip (l ++ m) e = skip l e) ∧ (l.length ≤ skip l e → ∃ n, skip (l ++ m) e = l.length + sk n m) := by
  obtain ⟨h1, h2⟩ := sk_app m (l.drop e) false
  unfold skip skipN
  rw [List.drop_append_of_le_length he]
  rw [List.length_drop] at h1 h2
  refine ⟨fun h => by rw [h1 (by omega)], fun h => ?_⟩
  obtain ⟨n, hn⟩ := h2 (by omega)
  exact ⟨n, by rw [hn]; omega⟩

/-! a blank, or a remark, at the end -/
theorem tks_blank {l m : List UInt8} (hb : Behind m) (hs : ∀ n, sk n m = m.length) : ∀ (k e : Nat), l.length ≤ e + k → e ≤ l.length → tks (l ++ m) (skip (l ++ m) e) = tks l (skip l e)
  | k, e, hk, he => by
    obtain ⟨h1, h2⟩ := skip_app (m := m) he
    have hle := skip_le he
    have hge := le_skip l e
    rcases Nat.lt_or_ge (skip l e) l.length with h | h
    · rw [h1 h]
      have hl : skip l e < (l ++ m).length := by rw [List.length_append]; omega
      have ho := one_app hb h
      cases h3 : one l (skip l e) with
      | none => rw [tks_bad h h3, tks_bad hl (by rw [ho, h3])]
      | some r =>
        obtain ⟨t, j⟩ := r
        by_cases h32 : 32 < t.text.length
        · rw [tks_long h h3 h32, tks_long hl (by rw [ho, h3]) h32]
        · have hj := one_gt h h3
          rw [tks_cons h h3 h32, tks_cons hl (by rw [ho, h3]) h32]
          cases k with
          | zero => omega
          | succ k => rw [tks_blank hb hs k j (by omega) hj.2]
    · obtain ⟨n, hn⟩ := h2 h
      rw [tks_end h, hn, hs n, tks_end (by rw [List.length_append]; omega)]
theorem ans_blank {l m : List UInt8} (hb : Behind m) (hs : ∀ n, sk n m = m.length) (h : (l ++ m).length ≤ 4096) : ans (l ++ m) = ans l := by
  have := List.length_append (as := l) (bs := m)
  unfold ans
  rw [if_neg (by omega), if_neg (by omega), tks_blank hb hs l.length 0 (by omega) (Nat.zero_le _)]

/-! one text behind the other -/
def sh (n : Nat) (t : Tok) : Tok := ⟨t.kind, t.text, t.n, n + t.pl⟩
def shR (n : Nat) : Option (Tok × Nat) → Option (Tok × Nat) := Option.map fun r => (sh n r.1, n + r.2)
theorem run_shift (q : UInt8 → Bool) (p b : List UInt8) (i : Nat) : run q (p ++ b) (p.length + i) = p.length + run q b i := by
  unfold run
  rw [List.drop_append, List.drop_of_length_le (by omega), Nat.add_sub_cancel_left, List.nil_append]; omega
theorem sub_shift (p b : List UInt8) (i j : Nat) : sub (p ++ b) (p.length + i) (p.length + j) = sub b i j := by
  unfold sub
  rw [List.drop_append, List.drop_of_length_le (by omega), Nat.add_sub_cancel_left, List.nil_append]
  congr 1; omega
theorem get_shift (p b : List UInt8) (i : Nat) : (p ++ b)[p.length + i]? = b[i]? := by
  rw [List.getElem?_append_right (by omega), Nat.add_sub_cancel_left]
theorem skip_shift (p b : List UInt8) (i : Nat) : skip (p ++ b) (p.length + i) = p.length + skip b i := by
  unfold skip skipN
  rw [List.drop_append, List.drop_of_length_le (by omega), Nat.add_sub_cancel_left, List.nil_append]; omega
theorem isNeg_shift (p b : List UInt8) (i : Nat) : isNeg (p ++ b) (p.length + i) = isNeg b i := by unfold isNeg; rw [get_shift]
theorem first_shift (p b : List UInt8) (i : Nat) : first (p ++ b) (p.length + i) = p.length + first b i := by
  unfold first; rw [isNeg_shift]; split <;> omega
theorem one_shift (p b : List UInt8) (i : Nat) : one (p ++ b) (p.length + i) = shR p.length (one b i) := by
  unfold one
  rw [get_shift]
  cases b[i]? with
  | none => rfl
  | some c =>
    simp only
    unfold oneC
    have hw : ∀ k, word k (p ++ b) (p.length + i) = shR p.length (word k b i) := fun k => by
      unfold word shR
      rw [run_shift, sub_shift]; rfl
    split
    · exact hw 1
    split
    · exact hw 2
    split
    · unfold number shR
      rw [isNeg_shift, first_shift, run_shift, sub_shift, Option.map_map]; rfl
    split
    · unfold quote shR
      rw [show p.length + i + 1 = p.length + (i + 1) by omega, run_shift, get_shift, sub_shift]
      split
      · simp [sh]; omega
      · rfl
    · unfold sign shR
      rw [show p.length + i + 1 = p.length + (i + 1) by omega, get_shift]
      split
      · simp [sh]; omega
      split
      · simp [sh]
      · rfl
theorem tks_shift (p b : List UInt8) : ∀ (k i : Nat) (M : List Tok), b.length ≤ i + k → tks b i = .ok M → tks (p ++ b) (p.length + i) = .ok (M.map (sh p.length))
  | k, i, M, hk, h => by
    rcases Nat.lt_or_ge i b.length with hi | hi
    · have hl : p.length + i < (p ++ b).length := by rw [List.length_append]; omega
      have ho := one_shift p b i
      cases h3 : one b i with
      | none => rw [tks_bad hi h3] at h; cases h
      | some r =>
        obtain ⟨t, j⟩ := r
        by_cases h32 : 32 < t.text.length
        · rw [tks_long hi h3 h32] at h; cases h
        · have hj := one_gt hi h3
          have hs := le_skip b j
          rw [tks_cons hi h3 h32] at h
          cases h4 : tks b (skip b j) with
          | error x => rw [h4] at h; cases h
          | ok R =>
            rw [h4] at h
            cases h
            rw [h3] at ho
            cases k with
            | zero => omega
            | succ k =>
              rw [tks_cons (t := sh p.length t) (e := p.length + j) hl ho h32, skip_shift, tks_shift p b k (skip b j) R (by omega) h4]; rfl
    · rw [tks_end hi] at h
      cases h
      rw [tks_end (by rw [List.length_append]; omega)]; rfl
theorem behind_nl (b : List UInt8) : Behind (10 :: b) :=
  ⟨fun c hc => by simp at hc; subst hc; decide, .inl fun c hc => by simp at hc; subst hc; decide⟩
theorem tks_join {a b : List UInt8} : ∀ (k e : Nat) (L : List Tok), a.length ≤ e + k → e ≤ a.length → tks a (skip a e) = .ok L → tks (a ++ 10 :: b) (skip (a ++ 10 :: b) e) = prep L (tks (a ++ 10 :: b) (a.length + 1 + skip b 0))
  | k, e, L, hk, he, h => by
    obtain ⟨h1, h2⟩ := skip_app (m := 10 :: b) he
    have hge := le_skip a e
    rcases Nat.lt_or_ge (skip a e) a.length with hi | hi
    · rw [h1 hi]
      have hl : skip a e < (a ++ 10 :: b).length := by rw [List.length_append]; omega
      have ho := one_app (behind_nl b) hi
      cases h3 : one a (skip a e) with
      | none => rw [tks_bad hi h3] at h; cases h
      | some r =>
        obtain ⟨t, j⟩ := r
        by_cases h32 : 32 < t.text.length
        · rw [tks_long hi h3 h32] at h; cases h
        · have hj := one_gt hi h3
          rw [tks_cons hi h3 h32] at h
          cases h4 : tks a (skip a j) with
          | error x => rw [h4] at h; cases h
          | ok R =>
            rw [h4] at h
            cases h
            cases k with
            | zero => omega
            | succ k =>
              rw [tks_cons hl (by rw [ho, h3]) h32, tks_join k j R (by omega) hj.2 h4]
              cases tks (a ++ 10 :: b) (a.length + 1 + skip b 0) <;> rfl
    · rw [tks_end hi] at h
      cases h
      obtain ⟨n, hn⟩ := h2 hi
      rw [hn, prep_nil]
      congr 1
      have : sk n (10 :: b) = 1 + sk false b := by rw [sk]; simp [note, blank]
      rw [this]
      unfold skip skipN
      simp; omega
theorem ans_join {a b : List UInt8} {L M : List Tok} (ha : ans a = .ok L) (hb : ans b = .ok M) (h : a.length + 1 + b.length ≤ 4096) : ans (a ++ 10 :: b) = .ok (L ++ M.map (sh (a.length + 1))) := by
  unfold ans at *
  rw [if_neg (by omega)] at ha hb
  rw [if_neg (by rw [List.length_append, List.length_cons]; omega), tks_join a.length 0 L (by omega) (Nat.zero_le _) ha]
  have := tks_shift (a ++ [10]) b b.length (skip b 0) M (by omega) hb
  rw [List.append_assoc, List.singleton_append, List.length_append, List.length_singleton] at this
  rw [this]; rfl

/-! tokens rise -/
theorem tks_inv {l : List UInt8} {i : Nat} {t : Tok} {R : List Tok} (h : tks l i = .ok (t :: R)) : i < l.length ∧ ∃ e, one l i = some (t, e) ∧ tks l (skip l e) = .ok R := by
  rcases Nat.lt_or_ge i l.length with hi | hi
  · refine ⟨hi, ?_⟩
    cases h3 : one l i with
    | none => rw [tks_bad hi h3] at h; cases h
    | some r =>
      obtain ⟨u, j⟩ := r
      by_cases h32 : 32 < u.text.length
      · rw [tks_long hi h3 h32] at h; cases h
      · rw [tks_cons hi h3 h32] at h
        cases h4 : tks l (skip l j) with
        | error x => rw [h4] at h; cases h
        | ok R' => rw [h4] at h; cases h; exact ⟨j, rfl, h4⟩
  · rw [tks_end hi] at h; cases h
theorem tks_pl {l : List UInt8} : ∀ (M : List Tok) (i : Nat), tks l i = .ok M → ∀ t ∈ M, t.pl < l.length
  | [], _, _, _, ht => by cases ht
  | u :: R, i, h, t, ht => by
    obtain ⟨hi, e, ho, hR⟩ := tks_inv h
    rcases List.mem_cons.1 ht with rfl | ht
    · rw [one_pl ho]; exact hi
    · exact tks_pl R _ hR t ht
theorem ans_pl {l : List UInt8} {M : List Tok} (h : ans l = .ok M) : ∀ t ∈ M, t.pl < l.length := by
  unfold ans at h
  split at h
  · cases h
  · exact tks_pl M _ h
theorem tks_nil {l : List UInt8} {i : Nat} (h : tks l i = .ok []) : l.length ≤ i := by
  rcases Nat.lt_or_ge i l.length with hi | hi
  · cases h3 : one l i with
    | none => rw [tks_bad hi h3] at h; cases h
    | some r =>
      obtain ⟨u, j⟩ := r
      by_cases h32 : 32 < u.text.length
      · rw [tks_long hi h3 h32] at h; cases h
      · rw [tks_cons hi h3 h32] at h
        cases h4 : tks l (skip l j) <;> (rw [h4] at h; cases h)
  · exact hi
theorem tks_err {l : List UInt8} : ∀ (k i p : Nat) (er : Int), l.length ≤ i + k → tks l i = .error (p, er) → p ≤ l.length ∧ er ≠ 0 ∧ er ≠ 3
  | k, i, p, er, hk, h => by
    rcases Nat.lt_or_ge i l.length with hi | hi
    · cases h3 : one l i with
      | none => rw [tks_bad hi h3] at h; cases h; exact ⟨by omega, by decide, by decide⟩
      | some r =>
        obtain ⟨u, j⟩ := r
        by_cases h32 : 32 < u.text.length
        · rw [tks_long hi h3 h32] at h; cases h; exact ⟨by omega, by decide, by decide⟩
        · have hj := one_gt hi h3
          have hs := le_skip l j
          rw [tks_cons hi h3 h32] at h
          cases h4 : tks l (skip l j) with
          | ok R => rw [h4] at h; cases h
          | error x =>
            rw [h4] at h
            cases h
            cases k with
            | zero => omega
            | succ k => exact tks_err k (skip l j) p er (by omega) h4
    · rw [tks_end hi] at h; cases h
theorem ans_err {l : List UInt8} {p : Nat} {er : Int} (h : ans l = .error (p, er)) : p ≤ l.length ∧ er ≠ 0 := by
  unfold ans at h
  split at h
  · cases h; exact ⟨Nat.zero_le _, by decide⟩
  · have := tks_err l.length _ p er (by omega) h
    exact ⟨this.1, this.2.1⟩
theorem ans_big {l : List UInt8} : err (ans l) = 3 ↔ 4096 < l.length := by
  unfold ans
  split
  · rename_i h; exact ⟨fun _ => h, fun _ => rfl⟩
  · rename_i h
    refine ⟨fun h' => ?_, fun h' => absurd h' h⟩
    cases h1 : tks l (skip l 0) with
    | ok L => rw [h1] at h'; cases h'
    | error x => obtain ⟨p, er⟩ := x; rw [h1] at h'; exact absurd h' (tks_err l.length _ p er (by omega) h1).2.2

/-! a number alone -/
theorem tw_all {p : UInt8 → Bool} : ∀ (l : List UInt8), (∀ c ∈ l, p c = true) → l.takeWhile p = l
  | [], _ => rfl
  | c :: r, h => by rw [List.takeWhile_cons_of_pos (h c (by simp)), tw_all r (fun x hx => h x (by simp [hx]))]
theorem sub_tail {l : List UInt8} {i : Nat} : sub l i l.length = l.drop i := by
  unfold sub; rw [List.take_of_length_le (by rw [List.length_drop]; omega)]
theorem number_txt {neg : Bool} {ds : List UInt8} (hd : ∀ c ∈ ds, digit c = true) (hne : ds ≠ []) : ans (txt neg ds) = (if 4096 < (txt neg ds).length then .error (0, 3) else match numOf neg ds with | none => .error (0, 70) | some v => .ok [⟨3, [], v, 0⟩]) := by
  obtain ⟨a, q, rfl⟩ := List.exists_cons_of_ne_nil hne
  have ha := digit_le (hd a (by simp))
  have hnd : digit (45 : UInt8) = false := by decide
  unfold ans
  split
  · rfl
  have hlen : 0 < (txt neg (a :: q)).length := by cases neg <;> simp [txt]
  have hneg : isNeg (txt neg (a :: q)) 0 = neg := by
    cases neg with
    | true => rfl
    | false =>
      have h0 : a.toNat ≠ 45 := by omega
      simp [isNeg, txt, h0]
  have hc : (digit ((txt neg (a :: q))[0]'hlen) || decide (((txt neg (a :: q))[0]'hlen).toNat = 45)) = true := by
    cases neg with
    | true => rfl
    | false => simp [txt, hd a (by simp)]
  have hfirst : (txt neg (a :: q)).drop (first (txt neg (a :: q)) 0) = a :: q := by
    unfold first; rw [hneg]
    cases neg <;> rfl
  have hrun : run digit (txt neg (a :: q)) (first (txt neg (a :: q)) 0) = (txt neg (a :: q)).length := by
    unfold run
    rw [hfirst, tw_all _ hd]
    have := congrArg List.length hfirst
    rw [List.length_drop] at this
    have h1 := first_lt hlen
    omega
  have hskip : skip (txt neg (a :: q)) 0 = 0 := by
    refine skip_other hlen ?_ ?_
    · cases neg with
      | true => rfl
      | false => simp [txt, blank]; omega
    · cases neg with
      | true => show (45 : UInt8).toNat ≠ 37; decide
      | false => simp [txt]; omega
  have hone : one (txt neg (a :: q)) 0 = (numOf neg (a :: q)).map fun v => (⟨3, [], v, 0⟩, (txt neg (a :: q)).length) := by
    rw [one_at hlen]
    unfold oneC
    rw [if_neg, if_neg, if_pos hc]
    · unfold number
      rw [hneg, hrun, sub_tail, hfirst]
    · cases neg with
      | true => show ¬ great (45 : UInt8) = true; decide
      | false => simp [txt, great]; omega
    · cases neg with
      | true => show ¬ small (45 : UInt8) = true; decide
      | false => simp [txt, small]; omega
  rw [hskip]
  cases h : numOf neg (a :: q) with
  | none => rw [h] at hone; rw [tks_bad hlen hone]
  | some v =>
    rw [h] at hone
    rw [tks_cons hlen hone (by simp), tks_end (le_skip _ _)]; rfl
theorem num_self {neg : Bool} {u : Nat} {n : Int} (hn : n = if neg = true then -(u : Int) else u) (h1 : neg = true → 1 ≤ u ∧ u ≤ 9223372036854775808) (h2 : neg = false → u < 9223372036854775808) : numOf neg (decDigits u) = some n := by
  unfold numOf
  rw [if_neg, dec_val]
  · cases neg with
    | true => have := h1 rfl; rw [if_pos rfl, if_pos this.2, hn]; rfl
    | false => have := h2 rfl; rw [if_neg (by simp), if_pos this, hn]; rfl
  · rintro (h | ⟨h, h'⟩)
    · exact dec_ne u h
    · have h0 := dec_head h
      subst h0
      rcases h' with h' | h'
      · rw [dec_small (by omega)] at h'; simp at h'
      · have := (h1 h').1; omega
theorem num_none {neg : Bool} {u : Nat} : numOf neg (48 :: decDigits u) = none := by
  unfold numOf
  rw [if_pos]
  refine .inr ⟨rfl, .inl ?_⟩
  have := List.length_pos_iff.2 (dec_ne u)
  rw [List.length_cons]; omega
end Lx
end Go.Proofs.YtcogjphoceaejaaDoor
