/-
  The mathematics of layer 7: bytes of a text cut into tokens; no program in this text.
-/
import Derived.Lib.AtoiAllCases
import Derived.Lib.ItoaMem
namespace Go.Proofs.YtcogjphoceaejaaDoor
namespace Lx

def small (c : UInt8) : Bool := decide (97 ≤ c.toNat) && decide (c.toNat ≤ 122)
def great (c : UInt8) : Bool := decide (65 ≤ c.toNat) && decide (c.toNat ≤ 90)
def digit (c : UInt8) : Bool := decide (48 ≤ c.toNat) && decide (c.toNat ≤ 57)
def inner (c : UInt8) : Bool := small c || great c || digit c || decide (c.toNat = 95)
def plain (c : UInt8) : Bool := decide (32 ≤ c.toNat) && decide (c.toNat ≤ 126) && !decide (c.toNat = 34) && !decide (c.toNat = 92)
def noLf (c : UInt8) : Bool := !decide (c.toNat = 10)
def blank (c : UInt8) : Bool := decide (c.toNat = 32) || decide (c.toNat = 9) || decide (c.toNat = 10) || decide (c.toNat = 13)

/-! runs of bytes -/
def run (p : UInt8 → Bool) (l : List UInt8) (i : Nat) : Nat := i + ((l.drop i).takeWhile p).length
theorem run_step {p : UInt8 → Bool} {l : List UInt8} {i : Nat} (h : i < l.length) (hp : p l[i] = true) : run p l i = run p l (i + 1) := by
  unfold run
  rw [List.drop_eq_getElem_cons h, List.takeWhile_cons_of_pos hp, List.length_cons]; omega
theorem run_stop {p : UInt8 → Bool} {l : List UInt8} {i : Nat} (h : i < l.length) (hp : p l[i] = false) : run p l i = i := by
  unfold run
  rw [List.drop_eq_getElem_cons h, List.takeWhile_cons_of_neg (by simp [hp])]; simp
theorem run_end {p : UInt8 → Bool} {l : List UInt8} {i : Nat} (h : l.length ≤ i) : run p l i = i := by
  unfold run
  rw [List.drop_of_length_le h]; simp
theorem le_run (p : UInt8 → Bool) (l : List UInt8) (i : Nat) : i ≤ run p l i := Nat.le_add_right _ _
theorem run_le (p : UInt8 → Bool) {l : List UInt8} {i : Nat} (h : i ≤ l.length) : run p l i ≤ l.length := by
  unfold run
  have := (List.takeWhile_prefix p (l := l.drop i)).length_le
  rw [List.length_drop] at this
  omega
theorem run_at' {p : UInt8 → Bool} {l : List UInt8} : ∀ (k i : Nat), l.length ≤ i + k → ∀ h : run p l i < l.length, p l[run p l i] = false
  | 0, i, hk, h => by have := run_end (p := p) (l := l) (i := i) (by omega); omega
  | k + 1, i, hk, h => by
    rcases Nat.lt_or_ge i l.length with h1 | h1
    · cases hp : p l[i] with
      | true =>
        have := run_at' (p := p) (l := l) k (i + 1) (by omega) (by rw [← run_step h1 hp]; exact h)
        simpa only [run_step h1 hp] using this
      | false => simpa only [run_stop h1 hp] using hp
    · rw [run_end h1] at h; omega
theorem run_at {p : UInt8 → Bool} {l : List UInt8} {i : Nat} (h : run p l i < l.length) : p l[run p l i] = false := run_at' l.length i (by omega) h
theorem run_in' {p : UInt8 → Bool} {l : List UInt8} {j : Nat} (h : j < l.length) : ∀ (k i : Nat), l.length ≤ i + k → i ≤ j → j < run p l i → p l[j] = true
  | 0, i, hk, hi, hj => by omega
  | k + 1, i, hk, hi, hj => by
    cases hp : p l[i] with
    | true =>
      by_cases e : i = j
      · subst e; exact hp
      · exact run_in' h k (i + 1) (by omega) (by omega) (by rw [← run_step (by omega) hp]; exact hj)
    | false => rw [run_stop (by omega) hp] at hj; omega
theorem run_in {p : UInt8 → Bool} {l : List UInt8} {i j : Nat} (hi : i ≤ j) (hj : j < run p l i) (h : j < l.length) : p l[j] = true := run_in' h l.length i (by omega) hi hj
/-- a run is where it ends -/
theorem run_is {p : UInt8 → Bool} {l : List UInt8} : ∀ {k i : Nat}, (∀ j (h : j < l.length), i ≤ j → j < i + k → p l[j] = true) → i + k ≤ l.length → (∀ h : i + k < l.length, p l[i + k] = false) → run p l i = i + k
  | 0, i, _, hk, hs => by
    rcases Nat.lt_or_ge i l.length with h | h
    · exact run_stop h (hs h)
    · exact run_end h
  | k + 1, i, hp, hk, hs => by
    rw [run_step (by omega) (hp i (by omega) (Nat.le_refl _) (by omega)), run_is (k := k) (i := i + 1) (fun j h h1 h2 => hp j h (by omega) (by omega)) (by omega) (fun h => by have := hs (by omega); simpa [show i + (k + 1) = i + 1 + k by omega] using this)]
    omega

/-! blanks and remarks -/
def note (n : Bool) (c : UInt8) : Bool := if c.toNat = 37 then true else if c.toNat = 10 then false else n
def sk : Bool → List UInt8 → Nat
  | _, [] => 0
  | n, c :: r => if note n c = false ∧ blank c = false then 0 else 1 + sk (note n c) r
def skipN (n : Bool) (l : List UInt8) (i : Nat) : Nat := i + sk n (l.drop i)
def skip (l : List UInt8) (i : Nat) : Nat := skipN false l i
theorem sk_le : ∀ (l : List UInt8) (n : Bool), sk n l ≤ l.length
  | [], _ => Nat.zero_le _
  | c :: r, n => by
    rw [sk]
    split
    · exact Nat.zero_le _
    · have := sk_le r (note n c); rw [List.length_cons]; omega
theorem skipN_end {n : Bool} {l : List UInt8} {i : Nat} (h : l.length ≤ i) : skipN n l i = i := by
  unfold skipN; rw [List.drop_of_length_le h]; rfl
theorem skipN_stop {n : Bool} {l : List UInt8} {i : Nat} (h : i < l.length) (h1 : note n l[i] = false) (h2 : blank l[i] = false) : skipN n l i = i := by
  unfold skipN; rw [List.drop_eq_getElem_cons h, sk, if_pos ⟨h1, h2⟩]; rfl
theorem skipN_step {n : Bool} {l : List UInt8} {i : Nat} (h : i < l.length) (h1 : ¬ (note n l[i] = false ∧ blank l[i] = false)) : skipN n l i = skipN (note n l[i]) l (i + 1) := by
  unfold skipN; rw [List.drop_eq_getElem_cons h, sk, if_neg h1]; omega
theorem le_skip (l : List UInt8) (i : Nat) : i ≤ skip l i := Nat.le_add_right _ _
theorem skip_le {l : List UInt8} {i : Nat} (h : i ≤ l.length) : skip l i ≤ l.length := by
  unfold skip skipN
  have := sk_le (l.drop i) false
  rw [List.length_drop] at this
  omega
theorem skip_blank {l : List UInt8} {i : Nat} (h : i < l.length) (hb : blank l[i] = true) : skip l i = skip l (i + 1) := by
  unfold skip
  rw [skipN_step h (by simp [hb])]
  congr 1
  unfold note
  simp only [blank, Bool.or_eq_true, decide_eq_true_eq] at hb
  rw [if_neg (by omega)]
  simp
theorem skip_other {l : List UInt8} {i : Nat} (h : i < l.length) (hb : blank l[i] = false) (hn : l[i].toNat ≠ 37) : skip l i = i := by
  refine skipN_stop h ?_ hb
  unfold note; rw [if_neg hn]; simp
theorem note_run {l : List UInt8} : ∀ (k i : Nat), l.length ≤ i + k → skipN true l i = skip l (run noLf l i)
  | 0, i, hk => by rw [skipN_end (by omega), run_end (by omega)]; exact (skipN_end (by omega)).symm
  | k + 1, i, hk => by
    rcases Nat.lt_or_ge i l.length with h | h
    · by_cases hc : l[i].toNat = 10
      · rw [run_stop h (by simp [noLf, hc]), skip_blank h (by simp [blank, hc]), skipN_step h (by simp [blank, hc])]
        simp [note, hc, skip]
      · have e : note true l[i] = true := by unfold note; simp [hc]
        rw [run_step h (by simp [noLf, hc]), skipN_step h (by simp [e]), e]
        exact note_run k (i + 1) (by omega)
    · rw [skipN_end h, run_end h]; exact (skipN_end h).symm
theorem skip_note {l : List UInt8} {i : Nat} (h : i < l.length) (hn : l[i].toNat = 37) : skip l i = skip l (run noLf l i) := by
  have e : note false l[i] = true := by unfold note; simp [hn]
  rw [run_step h (by simp [noLf, hn]), ← note_run l.length (i + 1) (by omega)]
  unfold skip
  rw [skipN_step h (by simp [e]), e]

/-! tokens -/
structure Tok where
  kind : Int
  text : List UInt8
  n : Int
  pl : Nat
theorem Tok.ext' {a b : Tok} (h1 : a.kind = b.kind) (h2 : a.text = b.text) (h3 : a.n = b.n) (h4 : a.pl = b.pl) : a = b := by
  cases a; cases b; simp_all
def sub (l : List UInt8) (i j : Nat) : List UInt8 := (l.drop i).take (j - i)
theorem sub_length {l : List UInt8} {i j : Nat} (h : j ≤ l.length) : (sub l i j).length = j - i := by
  unfold sub; rw [List.length_take, List.length_drop]; omega
def dval (ds : List UInt8) : Nat := ds.foldl (fun a c => a * 10 + (c.toNat - 48)) 0
def numOf (neg : Bool) (ds : List UInt8) : Option Int :=
  if ds = [] ∨ (ds.head? = some 48 ∧ (1 < ds.length ∨ neg = true)) then none
  else if neg = true then (if dval ds ≤ 9223372036854775808 then some (-(dval ds : Int)) else none)
  else if dval ds < 9223372036854775808 then some (dval ds : Int) else none
def isNeg (l : List UInt8) (i : Nat) : Bool := decide (l[i]?.map (·.toNat) = some 45)
def first (l : List UInt8) (i : Nat) : Nat := if isNeg l i = true then i + 1 else i
def number (l : List UInt8) (i : Nat) : Option (Tok × Nat) :=
  (numOf (isNeg l i) (sub l (first l i) (run digit l (first l i)))).map fun v => (⟨3, [], v, i⟩, run digit l (first l i))
def quote (l : List UInt8) (i : Nat) : Option (Tok × Nat) :=
  if l[run plain l (i + 1)]?.map (·.toNat) = some 34 then some (⟨4, sub l (i + 1) (run plain l (i + 1)), 0, i⟩, run plain l (i + 1) + 1) else none
def word (k : Int) (l : List UInt8) (i : Nat) : Option (Tok × Nat) := some (⟨k, sub l i (run inner l i), 0, i⟩, run inner l i)
def signs (c : UInt8) : Bool := decide (c.toNat = 40) || decide (c.toNat = 41) || decide (c.toNat = 44) || decide (c.toNat = 46) || decide (c.toNat = 58)
def sign (l : List UInt8) (i : Nat) (c : UInt8) : Option (Tok × Nat) :=
  if c.toNat = 58 ∧ l[i + 1]?.map (·.toNat) = some 45 then some (⟨5, [58, 45], 0, i⟩, i + 2)
  else if signs c = true then some (⟨5, [c], 0, i⟩, i + 1) else none
def oneC (l : List UInt8) (i : Nat) (c : UInt8) : Option (Tok × Nat) :=
  if small c = true then word 1 l i else if great c = true then word 2 l i else if (digit c || decide (c.toNat = 45)) = true then number l i else if c.toNat = 34 then quote l i else sign l i c
def one (l : List UInt8) (i : Nat) : Option (Tok × Nat) := match l[i]? with | none => none | some c => oneC l i c
theorem one_at {l : List UInt8} {i : Nat} (h : i < l.length) : one l i = oneC l i l[i] := by simp [one, h]

def cons (t : Tok) : Except (Nat × Int) (List Tok) → Except (Nat × Int) (List Tok)
  | .ok L => .ok (t :: L)
  | .error x => .error x
def tksF : Nat → List UInt8 → Nat → Except (Nat × Int) (List Tok)
  | 0, _, _ => .ok []
  | n + 1, l, i => if l.length ≤ i then .ok [] else match one l i with
    | none => .error (i, 70)
    | some (t, e) => if 32 < t.text.length then .error (i, 71) else cons t (tksF n l (skip l e))
def tks (l : List UInt8) (i : Nat) : Except (Nat × Int) (List Tok) := tksF (l.length + 1) l i

theorem first_le (l : List UInt8) (i : Nat) : i ≤ first l i := by unfold first; split <;> omega
theorem first_lt {l : List UInt8} {i : Nat} (h : i < l.length) : first l i ≤ l.length := by unfold first; split <;> omega
theorem number_gt {l : List UInt8} {i : Nat} {t : Tok} {e : Nat} (hi : i < l.length) (h : number l i = some (t, e)) : i < e ∧ e ≤ l.length := by
  unfold number at h
  rw [Option.map_eq_some_iff] at h
  obtain ⟨v, hv, he⟩ := h
  cases he
  have h1 := first_le l i
  have h2 := le_run digit l (first l i)
  have h3 := run_le digit (first_lt hi)
  refine ⟨?_, h3⟩
  rcases Nat.lt_or_ge (first l i) (run digit l (first l i)) with h' | h'
  · omega
  · have : sub l (first l i) (run digit l (first l i)) = [] := by
      apply List.eq_nil_of_length_eq_zero
      rw [sub_length h3]; omega
    rw [this] at hv; simp [numOf] at hv
theorem quote_gt {l : List UInt8} {i : Nat} {t : Tok} {e : Nat} (h : quote l i = some (t, e)) : i < e ∧ e ≤ l.length := by
  unfold quote at h
  split at h
  · rename_i hq
    cases h
    have h1 := le_run plain l (i + 1)
    have : run plain l (i + 1) < l.length := by
      rcases Nat.lt_or_ge (run plain l (i + 1)) l.length with h' | h'
      · exact h'
      · simp [h'] at hq
    omega
  · cases h
theorem word_gt {k : Int} {l : List UInt8} {i : Nat} {t : Tok} {e : Nat} (hi : i < l.length) (hc : inner l[i] = true) (h : word k l i = some (t, e)) : i < e ∧ e ≤ l.length := by
  unfold word at h
  cases h
  have h1 := run_le inner (Nat.le_of_lt hi)
  have h2 := le_run inner l (i + 1)
  rw [run_step hi hc] at *
  omega
theorem sign_gt {c : UInt8} {l : List UInt8} {i : Nat} {t : Tok} {e : Nat} (hi : i < l.length) (h : sign l i c = some (t, e)) : i < e ∧ e ≤ l.length := by
  unfold sign at h
  split at h
  · rename_i hq
    cases h
    have : i + 1 < l.length := by
      rcases Nat.lt_or_ge (i + 1) l.length with h' | h'
      · exact h'
      · simp [h'] at hq
    omega
  · split at h
    · cases h; omega
    · cases h
theorem small_inner {c : UInt8} (h : small c = true) : inner c = true := by simp [inner, h]
theorem great_inner {c : UInt8} (h : great c = true) : inner c = true := by simp [inner, h]
theorem one_gt {l : List UInt8} {i : Nat} {t : Tok} {e : Nat} (hi : i < l.length) (h : one l i = some (t, e)) : i < e ∧ e ≤ l.length := by
  rw [one_at hi] at h
  unfold oneC at h
  split at h
  · rename_i hc; exact word_gt hi (small_inner hc) h
  split at h
  · rename_i hc; exact word_gt hi (great_inner hc) h
  split at h
  · exact number_gt hi h
  split at h
  · exact quote_gt h
  · exact sign_gt hi h
theorem one_pl {l : List UInt8} {i : Nat} {t : Tok} {e : Nat} (h : one l i = some (t, e)) : t.pl = i := by
  unfold one at h
  split at h
  · cases h
  unfold oneC at h
  split at h
  · cases h; rfl
  split at h
  · cases h; rfl
  split at h
  · unfold number at h
    rw [Option.map_eq_some_iff] at h
    obtain ⟨v, hv, he⟩ := h
    cases he; rfl
  split at h
  · unfold quote at h
    split at h
    · cases h; rfl
    · cases h
  · unfold sign at h
    split at h
    · cases h; rfl
    split at h
    · cases h; rfl
    · cases h

theorem fuel {l : List UInt8} : ∀ (n m i : Nat), l.length < i + n → l.length < i + m → tksF n l i = tksF m l i
  | 0, 0, _, _, _ => rfl
  | 0, m + 1, i, h1, h2 => by rw [tksF, tksF, if_pos (by omega)]
  | n + 1, 0, i, h1, h2 => by rw [tksF, tksF, if_pos (by omega)]
  | n + 1, m + 1, i, h1, h2 => by
    rw [tksF, tksF]
    split
    · rfl
    · rename_i h
      cases h1 : one l i with
      | none => rfl
      | some r =>
        obtain ⟨t, e⟩ := r
        simp only
        split
        · rfl
        · have := one_gt (by omega) h1
          have h3 := le_skip l e
          rw [fuel n m (skip l e) (by omega) (by omega)]
theorem tks_end {l : List UInt8} {i : Nat} (h : l.length ≤ i) : tks l i = .ok [] := by rw [tks, tksF, if_pos h]
theorem tks_bad {l : List UInt8} {i : Nat} (h : i < l.length) (h1 : one l i = none) : tks l i = .error (i, 70) := by
  rw [tks, tksF, if_neg (by omega)]; simp only [h1]
theorem tks_long {l : List UInt8} {i : Nat} {t : Tok} {e : Nat} (h : i < l.length) (h1 : one l i = some (t, e)) (h2 : 32 < t.text.length) : tks l i = .error (i, 71) := by
  rw [tks, tksF, if_neg (by omega)]; simp only [h1]; rw [if_pos h2]
theorem tks_cons {l : List UInt8} {i : Nat} {t : Tok} {e : Nat} (h : i < l.length) (h1 : one l i = some (t, e)) (h2 : ¬ 32 < t.text.length) : tks l i = cons t (tks l (skip l e)) := by
  rw [tks, tksF, if_neg (by omega)]; simp only [h1]; rw [if_neg h2]
  have := one_gt h h1
  have h3 := le_skip l e
  rw [tks, fuel l.length (l.length + 1) (skip l e) (by omega) (by omega)]

def prep (L : List Tok) : Except (Nat × Int) (List Tok) → Except (Nat × Int) (List Tok)
  | .ok M => .ok (L ++ M)
  | .error x => .error x
theorem prep_nil (r : Except (Nat × Int) (List Tok)) : prep [] r = r := by cases r <;> rfl
theorem prep_cons (L : List Tok) (t : Tok) (r : Except (Nat × Int) (List Tok)) : prep L (cons t r) = prep (L ++ [t]) r := by cases r <;> simp [prep, cons]

/-- what Tokens answers -/
def toks : Except (Nat × Int) (List Tok) → List Tok
  | .ok L => L
  | .error _ => []
def place : Except (Nat × Int) (List Tok) → Nat
  | .ok _ => 0
  | .error x => x.1
def err : Except (Nat × Int) (List Tok) → Int
  | .ok _ => 0
  | .error x => x.2
def ans (l : List UInt8) : Except (Nat × Int) (List Tok) := if 4096 < l.length then .error (0, 3) else tks l (skip l 0)

end Lx
end Go.Proofs.YtcogjphoceaejaaDoor
