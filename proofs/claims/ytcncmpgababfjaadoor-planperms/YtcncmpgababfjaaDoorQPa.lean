/-
  The mathematics of layer 7: bytes of a text cut into tokens; no program in this text.
-/
import Derived.Lib.AtoiAllCases
import Derived.Lib.ItoaMem
import Derived.Test.YtcncmpgababfjaaDoorQMc
namespace Go.Proofs.YtcncmpgababfjaaDoor
namespace Lx

def small (c : UInt8) : Bool := decide (97 ≤ c.toNat) && decide (c.toNat ≤ 122)
def great (c : UInt8) : Bool := decide (65 ≤ c.toNat) && decide (c.toNat ≤ 90)
def digit (c : UInt8) : Bool := decide (48 ≤ c.toNat) && decide (c.toNat ≤ 57)
def inner (c : UInt8) : Bool := small c || great c || digit c || decide (c.toNat = 95)
def plain (c : UInt8) : Bool := decide (32 ≤ c.toNat) && decide (c.toNat ≤ 126) && !decide (c.toNat = 34) && !decide (c.toNat = 92)
def noLf (c : UInt8) : Bool := !decide (c.toNat = 10)
def blank (c : UInt8) : Bool := decide (c.toNat = 32) || decide (c.toNat = 9) || decide (c.toNat = 10) || decide (c.toNat = 13)

/-! runs of bytes -/
def run (p : UInt8 → Bool) (l : List UInt8) (i : Nat) : Nat := i + ((l.drop i).takeWhile p).length
theorem run_step {p : UInt8 → Bool} {l : List UInt8} {i : Nat} (h : i < l.length) (hp : p l[i] = true) : run p l i = run p l (i + 1) := by
  unfold run
  rw [List.drop_eq_getElem_cons h, List.takeWhile_cons_of_pos hp, List.length_cons]; omega
theorem run_stop {p : UInt8 → Bool} {l : List UInt8} {i : Nat} (h : i < l.length) (hp : p l[i] = false) : run p l i = i := by
  unfold run
  rw [List.drop_eq_getElem_cons h, List.takeWhile_cons_of_neg (by simp [hp])]; simp
theorem run_end {p : UInt8 → Bool} {l : List UInt8} {i : Nat} (h : l.length ≤ i) : run p l i = i := by
  unfold run
  rw [List.drop_of_length_le h]; simp
theorem le_run (p : UInt8 → Bool) (l : List UInt8) (i : Nat) : i ≤ run p l i := Nat.le_add_right _ _
theorem run_le (p : UInt8 → Bool) {l : List UInt8} {i : Nat} (h : i ≤ l.length) : run p l i ≤ l.length := by
  unfold run
  have := (List.takeWhile_prefix p (l := l.drop i)).length_le
  rw [List.length_drop] at this
  omega
theorem run_at' {p : UInt8 → Bool} {l : List UInt8} : ∀ (k i : Nat), l.length ≤ i + k → ∀ h : run p l i < l.length, p l[run p l i] = false
  | 0, i, hk, h => by have := run_end (p := p) (l := l) (i := i) (by omega); omega
  | k + 1, i, hk, h => by
    rcases Nat.lt_or_ge i l.length with h1 | h1
    · cases hp : p l[i] with
      | true =>
        have := run_at' (p := p) (l := l) k (i + 1) (by omega) (by rw [← run_step h1 hp]; exact h)
        simpa only [run_step h1 hp] using this
      | false => simpa only [run_stop h1 hp] using hp
    · rw [run_end h1] at h; omega
theorem run_at {p : UInt8 → Bool} {l : List UInt8} {i : Nat} (h : run p l i < l.length) : p l[run p l i] = false := run_at' l.length i (by omega) h
theorem run_in' {p : UInt8 → Bool} {l : List UInt8} {j : Nat} (h : j < l.length) : ∀ (k i : Nat), l.length ≤ i + k → i ≤ j → j < run p l i → p l[j] = true
  | 0, i, hk, hi, hj => by omega
  | k + 1, i, hk, hi, hj => by
    cases hp : p l[i] with
    | true =>
      by_cases e : i = j
      · subst e; exact hp
      · exact run_in' h k (i + 1) (by omega) (by omega) (by rw [← run_step (by omega) hp]; exact hj)
    | false => rw [run_stop (by omega) hp] at hj; omega
theorem run_in {p : UInt8 → Bool} {l : List UInt8} {i j : Nat} (hi : i ≤ j) (hj : j < run p l i) (h : j < l.length) : p l[j] = true := run_in' h l.length i (by omega) hi hj
/-- a run is where it ends -/
theorem run_is {p : UInt8 → Bool} {l : List UInt8} : ∀ {k i : Nat}, (∀ j (h : j < l.length), i ≤ j → j < i + k → p l[j] = true) → i + k ≤ l.length → (∀ h : i + k < l.length, p l[i + k] = false) → run p l i = i + k
  | 0, i, _, hk, hs => by
    rcases Nat.lt_or_ge i l.length with h | h
    · exact run_stop h (hs h)
    · exact run_end h
  | k + 1, i, hp, hk, hs => by
    rw [run_step (by omega) (hp i (by omega) (Nat.le_refl _) (by omega)), run_is (k := k) (i := i + 1) (fun j h h1 h2 => hp j h (by omega) (by omega)) (by omega) (fun h => by have := hs (by omega); simpa [show i + (k + 1) = i + 1 + k by omega] using this)]
    omega

/-! blanks and remarks -/
def note (n : Bool) (c : UInt8) : Bool := if c.toNat = 37 then true else if c.toNat = 10 then false else n
def sk : Bool → List UInt8 → Nat
  | _, [] => 0
  | n, c :: r => if note n c = false ∧ blank c = false then 0 else 1 + sk (note n c) r
def skipN (n : Bool) (l : List UInt8) (i : Nat) : Nat := i + sk n (l.drop i)
def skip (l : List UInt8) (i : Nat) : Nat := skipN false l i
theorem sk_le : ∀ (l : List UInt8) (n : Bool), sk n l ≤ l.length
  | [], _ => Nat.zero_le _
  | c :: r, n => by
    rw [sk]
    split
    · exact Nat.zero_le _
    · have := sk_le r (note n c); rw [List.length_cons]; omega
theorem skipN_end {n : Bool} {l : List UInt8} {i : Nat} (h : l.length ≤ i) : skipN n l i = i := by
  unfold skipN; rw [List.drop_of_length_le h]; rfl
theorem skipN_stop {n : Bool} {l : List UInt8} {i : Nat} (h : i < l.length) (h1 : note n l[i] = false) (h2 : blank l[i] = false) : skipN n l i = i := by
  unfold skipN; rw [List.drop_eq_getElem_cons h, sk, if_pos ⟨h1, h2⟩]; rfl
theorem skipN_step {n : Bool} {l : List UInt8} {i : Nat} (h : i < l.length) (h1 : ¬ (note n l[i] = false ∧ blank l[i] = false)) : skipN n l i = skipN (note n l[i]) l (i + 1) := by
  unfold skipN; rw [List.drop_eq_getElem_cons h, sk, if_neg h1]; omega
theorem le_skip (l : List UInt8) (i : Nat) : i ≤ skip l i := Nat.le_add_right _ _
theorem skip_le {l : List UInt8} {i : Nat} (h : i ≤ l.length) : skip l i ≤ l.length := by
  unfold skip skipN
  have := sk_le (l.drop i) false
  rw [List.length_drop] at this
  omega
theorem skip_blank {l : List UInt8} {i : Nat} (h : i < l.length) (hb : blank l[i] = true) : skip l i = skip l (i + 1) := by
  unfold skip
  rw [skipN_step h (by simp [hb])]
  congr 1
  unfold note
  simp only [blank, Bool.or_eq_true, decide_eq_true_eq] at hb
  rw [if_neg (by omega)]
  simp
theorem skip_other {l : List UInt8} {i : Nat} (h : i < l.length) (hb : blank l[i] = false) (hn : l[i].toNat ≠ 37) : skip l i = i := by
  refine skipN_stop h ?_ hb
  unfold note; rw [if_neg hn]; simp
theorem note_run {l : List UInt8} : ∀ (k i : Nat), l.length ≤ i + k → skipN true l i = skip l (run noLf l i)
  | 0, i, hk => by rw [skipN_end (by omega), run_end (by omega)]; exact (skipN_end (by omega)).symm
  | k + 1, i, hk => by
    rcases Nat.lt_or_ge i l.length with h | h
    · by_cases hc : l[i].toNat = 10
      · rw [run_stop h (by simp [noLf, hc]), skip_blank h (by simp [blank, hc]), skipN_step h (by simp [blank, hc])]
        simp [note, hc, skip]
      · have e : note true l[i] = true := by unfold note; simp [hc]
        rw [run_step h (by simp [noLf, hc]), skipN_step h (by simp [e]), e]
        exact note_run k (i + 1) (by omega)
    · rw [skipN_end h, run_end h]; exact (skipN_end h).symm
theorem skip_note {l : List UInt8} {i : Nat} (h : i < l.length) (hn : l[i].toNat = 37) : skip l i = skip l (run noLf l i) := by
  have e : note false l[i] = true := by unfold note; simp [hn]
  rw [run_step h (by simp [noLf, hn]), ← note_run l.length (i + 1) (by omega)]
  unfold skip
  rw [skipN_step h (by simp [e]), e]

/-! tokens -/
structure Tok where
  kind : Int
  text : List UInt8
  n : Int
  pl : Nat
theorem Tok.ext' {a b : Tok} (h1 : a.kind = b.kind) (h2 : a.text = b.text) (h3 : a.n = b.n) (h4 : a.pl = b.pl) : a = b := by
  cases a; cases b; simp_all
def sub (l : List UInt8) (i j : Nat) : List UInt8 := (l.drop i).take (j - i)
theorem sub_length {l : List UInt8} {i j : Nat} (h : j ≤ l.length) : (sub l i j).length = j - i := by
  unfold sub; rw [List.length_take, List.length_drop]; omega
def dval (ds : List UInt8) : Nat := ds.foldl (fun a c => a * 10 + (c.toNat - 48)) 0
def numOf (neg : Bool) (ds : List UInt8) : Option Int :=
  if ds = [] ∨ (ds.head? = some 48 ∧ (1 < ds.length ∨ neg = true)) then none
  else if neg = true then (if dval ds ≤ 9223372036854775808 then some (-(dval ds : Int)) else none)
  else if dval ds < 9223372036854775808 then some (dval ds : Int) else none
def isNeg (l : List UInt8) (i : Nat) : Bool := decide (l[i]?.map (·.toNat) = some 45)
def first (l : List UInt8) (i : Nat) : Nat := if isNeg l i = true then i + 1 else i
def number (l : List UInt8) (i : Nat) : Option (Tok × Nat) :=
  (numOf (isNeg l i) (sub l (first l i) (run digit l (first l i)))).map fun v => (⟨3, [], v, i⟩, run digit l (first l i))
def quote (l : List UInt8) (i : Nat) : Option (Tok × Nat) :=
  if l[run plain l (i + 1)]?.map (·.toNat) = some 34 then some (⟨4, sub l (i + 1) (run plain l (i + 1)), 0, i⟩, run plain l (i + 1) + 1) else none
def word (k : Int) (l : List UInt8) (i : Nat) : Option (Tok × Nat) := some (⟨k, sub l i (run inner l i), 0, i⟩, run inner l i)
def signs (c : UInt8) : Bool := decide (c.toNat = 40) || decide (c.toNat = 41) || decide (c.toNat = 44) || decide (c.toNat = 46) || decide (c.toNat = 58)
def sign (l : List UInt8) (i : Nat) (c : UInt8) : Option (Tok × Nat) :=
  if c.toNat = 58 ∧ l[i + 1]?.map (·.toNat) = some 45 then some (⟨5, [58, 45], 0, i⟩, i + 2)
  else if signs c = true then some (⟨5, [c], 0, i⟩, i + 1) else none
def oneC (l : List UInt8) (i : Nat) (c : UInt8) : Option (Tok × Nat) :=
  if small c = true then word 1 l i else if great c = true then word 2 l i else if (digit c || decide (c.toNat = 45)) = true then number l i else if c.toNat = 34 then quote l i else sign l i c
def one (l : List UInt8) (i : Nat) : Option (Tok × Nat) := match l[i]? with | none => none | some c => oneC l i c
theorem one_at {l : List UInt8} {i : Nat} (h : i < l.length) : one l i = oneC l i l[i] := by simp [one, h]

def cons (t : Tok) : Except (Nat × Int) (List Tok) → Except (Nat × Int) (List Tok)
  | .ok L => .ok (t :: L)
  | .error x => .error x
def tksF : Nat → List UInt8 → Nat → Except (Nat × Int) (List Tok)
  | 0, _, _ => .ok []
  | n + 1, l, i => if l.length ≤ i then .ok [] else match one l i with
    | none => .error (i, 70)
    | some (t, e) => if 32 < t.text.length then .error (i, 71) else cons t (tksF n l (skip l e))
def tks (l : List UInt8) (i : Nat) : Except (Nat × Int) (List Tok) := tksF (l.length + 1) l i

theorem first_le (l : List UInt8) (i : Nat) : i ≤ first l i := by unfold first; split <;> omega
theorem first_lt {l : List UInt8} {i : Nat} (h : i < l.length) : first l i ≤ l.length := by unfold first; split <;> omega
theorem number_gt {l : List UInt8} {i : Nat} {t : Tok} {e : Nat} (hi : i < l.length) (h : number l i = some (t, e)) : i < e ∧ e ≤ l.length := by
  unfold number at h
  rw [Option.map_eq_some_iff] at h
  obtain ⟨v, hv, he⟩ := h
  cases he
  have h1 := first_le l i
  have h2 := le_run digit l (first l i)
  have h3 := run_le digit (first_lt hi)
  refine ⟨?_, h3⟩
  rcases Nat.lt_or_ge (first l i) (run digit l (first l i)) with h' | h'
  · omega
  · have : sub l (first l i) (run digit l (first l i)) = [] := by
      apply List.eq_nil_of_length_eq_zero
      rw [sub_length h3]; omega
    rw [this] at hv; simp [numOf] at hv
theorem quote_gt {l : List UInt8} {i : Nat} {t : Tok} {e : Nat} (h : quote l i = some (t, e)) : i < e ∧ e ≤ l.length := by
  unfold quote at h
  split at h
  · rename_i hq
    cases h
    have h1 := le_run plain l (i + 1)
    have : run plain l (i + 1) < l.length := by
      rcases Nat.lt_or_ge (run plain l (i + 1)) l.length with h' | h'
      · exact h'
      · simp [h'] at hq
    omega
  · cases h
theorem word_gt {k : Int} {l : List UInt8} {i : Nat} {t : Tok} {e : Nat} (hi : i < l.length) (hc : inner l[i] = true) (h : word k l i = some (t, e)) : i < e ∧ e ≤ l.length := by
  unfold word at h
  cases h
  have h1 := run_le inner (Nat.le_of_lt hi)
  have h2 := le_run inner l (i + 1)
  rw [run_step hi hc] at *
  omega
theorem sign_gt {c : UInt8} {l : List UInt8} {i : Nat} {t : Tok} {e : Nat} (hi : i < l.length) (h : sign l i c = some (t, e)) : i < e ∧ e ≤ l.length := by
  unfold sign at h
  split at h
  · rename_i hq
    cases h
    have : i + 1 < l.length := by
      rcases Nat.lt_or_ge (i + 1) l.length with h' | h'
      · exact h'
      · simp [h'] at hq
    omega
  · split at h
    · cases h; omega
    · cases h
theorem small_inner {c : UInt8} (h : small c = true) : inner c = true := by simp [inner, h]
theorem great_inner {c : UInt8} (h : great c = true) : inner c = true := by simp [inner, h]
theorem one_gt {l : List UInt8} {i : Nat} {t : Tok} {e : Nat} (hi : i < l.length) (h : one l i = some (t, e)) : i < e ∧ e ≤ l.length := by
  rw [one_at hi] at h
  unfold oneC at h
  split at h
  · rename_i hc; exact word_gt hi (small_inner hc) h
  split at h
  · rename_i hc; exact word_gt hi (great_inner hc) h
  split at h
  · exact number_gt hi h
  split at h
  · exact quote_gt h
  · exact sign_gt hi h
theorem one_pl {l : List UInt8} {i : Nat} {t : Tok} {e : Nat} (h : one l i = some (t, e)) : t.pl = i := by
  unfold one at h
  split at h
  · cases h
  unfold oneC at h
  split at h
  · cases h; rfl
  split at h
  · cases h; rfl
  split at h
  · unfold number at h
    rw [Option.map_eq_some_iff] at h
    obtain ⟨v, hv, he⟩ := h
    cases he; rfl
  split at h
  · unfold quote at h
    split at h
    · cases h; rfl
    · cases h
  · unfold sign at h
    split at h
    · cases h; rfl
    split at h
    · cases h; rfl
    · cases h

theorem fuel {l : List UInt8} : ∀ (n m i : Nat), l.length < i + n → l.length < i + m → tksF n l i = tksF m l i
  | 0, 0, _, _, _ => rfl
  | 0, m + 1, i, h1, h2 => by rw [tksF, tksF, if_pos (by omega)]
  | n + 1, 0, i, h1, h2 => by rw [tksF, tksF, if_pos (by omega)]
  | n + 1, m + 1, i, h1, h2 => by
    rw [tksF, tksF]
    split
    · rfl
    · rename_i h
      cases h1 : one l i with
      | none => rfl
      | some r =>
        obtain ⟨t, e⟩ := r
        simp only
        split
        · rfl
        · have := one_gt (by omega) h1
          have h3 := le_skip l e
          rw [fuel n m (skip l e) (by omega) (by omega)]
theorem tks_end {l : List UInt8} {i : Nat} (h : l.length ≤ i) : tks l i = .ok [] := by rw [tks, tksF, if_pos h]
theorem tks_bad {l : List UInt8} {i : Nat} (h : i < l.length) (h1 : one l i = none) : tks l i = .error (i, 70) := by
  rw [tks, tksF, if_neg (by omega)]; simp only [h1]
theorem tks_long {l : List UInt8} {i : Nat} {t : Tok} {e : Nat} (h : i < l.length) (h1 : one l i = some (t, e)) (h2 : 32 < t.text.length) : tks l i = .error (i, 71) := by
  rw [tks, tksF, if_neg (by omega)]; simp only [h1]; rw [if_pos h2]
theorem tks_cons {l : List UInt8} {i : Nat} {t : Tok} {e : Nat} (h : i < l.length) (h1 : one l i = some (t, e)) (h2 : ¬ 32 < t.text.length) : tks l i = cons t (tks l (skip l e)) := by
  rw [tks, tksF, if_neg (by omega)]; simp only [h1]; rw [if_neg h2]
  have := one_gt h h1
  have h3 := le_skip l e
  rw [tks, fuel l.length (l.length + 1) (skip l e) (by omega) (by omega)]

def prep (L : List Tok) : Except (Nat × Int) (List Tok) → Except (Nat × Int) (List Tok)
  | .ok M => .ok (L ++ M)
  | .error x => .error x
theorem prep_nil (r : Except (Nat × Int) (List Tok)) : prep [] r = r := by cases r <;> rfl
theorem prep_cons (L : List Tok) (t : Tok) (r : Except (Nat × Int) (List Tok)) : prep L (cons t r) = prep (L ++ [t]) r := by cases r <;> simp [prep, cons]

/-- what Tokens answers -/
def toks : Except (Nat × Int) (List Tok) → List Tok
  | .ok L => L
  | .error _ => []
def place : Except (Nat × Int) (List Tok) → Nat
  | .ok _ => 0
  | .error x => x.1
def err : Except (Nat × Int) (List Tok) → Int
  | .ok _ => 0
  | .error x => x.2
def ans (l : List UInt8) : Except (Nat × Int) (List Tok) := if 4096 < l.length then .error (0, 3) else tks l (skip l 0)

end Lx
end Go.Proofs.YtcncmpgababfjaaDoor

/-
  The mathematics of numbers in digits: the library's reading and writing of them, and the document's.
-/
namespace Go.Proofs.YtcncmpgababfjaaDoor
namespace Lx
open Go.Lib

def dv (acc : Nat) (ds : List UInt8) : Nat := ds.foldl (fun a c => a * 10 + (c.toNat - 48)) acc
theorem dval_dv (ds : List UInt8) : dval ds = dv 0 ds := by simp only [dval, dv]
theorem dv_cons (acc : Nat) (c : UInt8) (r : List UInt8) : dv acc (c :: r) = dv (acc * 10 + (c.toNat - 48)) r := by simp only [dv, List.foldl_cons]
theorem dv_snoc (acc : Nat) (c : UInt8) (r : List UInt8) : dv acc (r ++ [c]) = dv acc r * 10 + (c.toNat - 48) := by simp [dv]
theorem dv_ge : ∀ (ds : List UInt8) (acc : Nat), acc ≤ dv acc ds
  | [], _ => Nat.le_refl _
  | c :: r, acc => by rw [dv_cons]; have := dv_ge r (acc * 10 + (c.toNat - 48)); omega
theorem digit_le {c : UInt8} (h : digit c = true) : 48 ≤ c.toNat ∧ c.toNat ≤ 57 := by simpa [digit] using h

theorem pu_ok : ∀ (ds : List UInt8) (acc : Nat), (∀ c ∈ ds, digit c = true) → dv acc ds < 18446744073709551616 → parseUint10 acc ds = .ok (dv acc ds)
  | [], _, _, _ => rfl
  | c :: r, acc, hd, hl => by
    have hc := digit_le (hd c (by simp))
    have hg := dv_ge r (acc * 10 + (c.toNat - 48))
    rw [dv_cons] at hl ⊢
    rw [parseUint10, if_pos hc, if_neg (by omega), if_neg (by omega)]
    exact pu_ok r _ (fun x hx => hd x (by simp [hx])) hl
theorem pu_big : ∀ (ds : List UInt8) (acc : Nat), (∀ c ∈ ds, digit c = true) → acc < 18446744073709551616 → 18446744073709551616 ≤ dv acc ds → parseUint10 acc ds = .range
  | [], acc, _, h, hl => by simp [dv] at hl; omega
  | c :: r, acc, hd, h, hl => by
    have hc := digit_le (hd c (by simp))
    rw [dv_cons] at hl
    rw [parseUint10, if_pos hc]
    split
    · rfl
    split
    · rfl
    · exact pu_big r _ (fun x hx => hd x (by simp [hx])) (by omega) hl
theorem pu_is {ds : List UInt8} (hd : ∀ c ∈ ds, digit c = true) {u : Nat} (h : parseUint10 0 ds = .ok u) : u = dval ds := by
  rcases Nat.lt_or_ge (dv 0 ds) 18446744073709551616 with h1 | h1
  · rw [pu_ok ds 0 hd h1] at h; cases h; rfl
  · rw [pu_big ds 0 hd (by omega) h1] at h; cases h

theorem dec_small {u : Nat} (h : u < 10) : decDigits u = [UInt8.ofNat (48 + u)] := by rw [decDigits, dif_pos h]
theorem dec_big {u : Nat} (h : ¬ u < 10) : decDigits u = decDigits (u / 10) ++ [UInt8.ofNat (48 + u % 10)] := by rw [decDigits, dif_neg h]
theorem ofNat_toNat {n : Nat} (h : n < 256) : (UInt8.ofNat n).toNat = n := by simp [Nat.mod_eq_of_lt h]
theorem dec_ne (u : Nat) : decDigits u ≠ [] := by
  intro h
  have h1 := decDigits_length u
  rw [h, List.length_nil] at h1
  have h2 := nDigits_pos u
  omega
theorem dec_digits (u : Nat) : ∀ c ∈ decDigits u, digit c = true := by
  induction u using Nat.strongRecOn with
  | _ u ih =>
    intro c hc
    by_cases h : u < 10
    · rw [dec_small h] at hc
      simp only [List.mem_singleton] at hc
      subst hc
      simp only [digit, ofNat_toNat (show 48 + u < 256 by omega)]; simp; omega
    · rw [dec_big h] at hc
      rcases List.mem_append.1 hc with hc | hc
      · exact ih (u / 10) (by omega) c hc
      · simp only [List.mem_singleton] at hc
        subst hc
        simp only [digit, ofNat_toNat (show 48 + u % 10 < 256 by omega)]; simp; omega
theorem dec_head {u : Nat} (h : (decDigits u).head? = some 48) : u = 0 := by
  induction u using Nat.strongRecOn with
  | _ u ih =>
    by_cases h1 : u < 10
    · rw [dec_small h1] at h
      simp only [List.head?_cons, Option.some.injEq] at h
      have := congrArg UInt8.toNat h
      rw [ofNat_toNat (by omega)] at this
      simp at this
      exact this
    · obtain ⟨a, q, e⟩ := List.exists_cons_of_ne_nil (dec_ne (u / 10))
      rw [dec_big h1, e] at h
      have := ih (u / 10) (by omega) (by rw [e]; simpa using h)
      omega
theorem dec_val (u : Nat) : dval (decDigits u) = u := by
  induction u using Nat.strongRecOn with
  | _ u ih =>
    by_cases h : u < 10
    · rw [dec_small h]
      simp only [dval, List.foldl_cons, List.foldl_nil, ofNat_toNat (show 48 + u < 256 by omega)]; omega
    · rw [dec_big h, dval_dv, dv_snoc, ← dval_dv, ih (u / 10) (by omega), ofNat_toNat (show 48 + u % 10 < 256 by omega)]; omega
theorem val_pos {c : UInt8} {r : List UInt8} (hc : digit c = true) (h : c ≠ 48) : 1 ≤ dv 0 (c :: r) := by
  rw [dv_cons]
  have h1 := dv_ge r (0 * 10 + (c.toNat - 48))
  have h2 := digit_le hc
  have h3 : c.toNat ≠ 48 := fun e => h (UInt8.toNat_inj.1 e)
  omega
/-- digits without a 0 ahead are those in which their number is told -/
theorem val_dec : ∀ (n : Nat) (ds : List UInt8), ds.length = n → (∀ c ∈ ds, digit c = true) → ds ≠ [] → (1 < ds.length → ds.head? ≠ some 48) → decDigits (dval ds) = ds
  | 0, ds, hn, _, hne, _ => absurd (List.eq_nil_of_length_eq_zero hn) hne
  | n + 1, ds, hn, hd, hne, hh => by
    obtain ⟨r, c, rfl⟩ : ∃ r c, ds = r ++ [c] := ⟨ds.dropLast, ds.getLast hne, (List.dropLast_concat_getLast hne).symm⟩
    have hc := digit_le (hd c (by simp))
    rw [dval_dv, dv_snoc]
    by_cases hr : r = []
    · subst hr
      have e : dv 0 [] = 0 := rfl
      rw [e, dec_small (by omega)]
      congr 1
      apply UInt8.toNat_inj.1
      rw [ofNat_toNat (by omega)]; omega
    · obtain ⟨a, q, rfl⟩ := List.exists_cons_of_ne_nil hr
      have hd' : ∀ c ∈ (a :: q), digit c = true := fun x hx => hd x (List.mem_append_left _ hx)
      have ha : a ≠ 48 := fun e => hh (by simp) (by simp [e])
      have hp := val_pos (r := q) (hd' a (by simp)) ha
      rw [dec_big (by omega), show (dv 0 (a :: q) * 10 + (c.toNat - 48)) / 10 = dv 0 (a :: q) by omega, show (dv 0 (a :: q) * 10 + (c.toNat - 48)) % 10 = c.toNat - 48 by omega, ← dval_dv,
        val_dec n (a :: q) (by simp at hn ⊢; omega) hd' (by simp) (fun _ => by simp [ha])]
      congr 2
      apply UInt8.toNat_inj.1
      rw [ofNat_toNat (by omega)]; omega

/-- the text of a number: a sign, perhaps, and digits -/
def txt (neg : Bool) (ds : List UInt8) : List UInt8 := if neg = true then 45 :: ds else ds
theorem mag {ds : List UInt8} (hne : ds ≠ []) : parseMag ds = parseUint10 0 ds := by unfold parseMag; rw [if_neg hne]
theorem atoi_neg (ds : List UInt8) : atoiAll (txt true ds) = signed (parseMag ds) := by unfold txt; rw [if_pos rfl, atoiAll_minus]
theorem atoi_pos {ds : List UInt8} (hd : ∀ c ∈ ds, digit c = true) (hne : ds ≠ []) : atoiAll (txt false ds) = signless (parseMag ds) := by
  obtain ⟨a, q, rfl⟩ := List.exists_cons_of_ne_nil hne
  have := digit_le (hd a (by simp))
  unfold txt
  rw [if_neg (by simp), atoiAll_plain a q (by omega) (by omega)]
theorem numOf_some {neg : Bool} {ds : List UInt8} {v : Int} (h : numOf neg ds = some v) : ds ≠ [] ∧ ¬ (ds.head? = some 48 ∧ (1 < ds.length ∨ neg = true)) ∧ (neg = true → dval ds ≤ 9223372036854775808 ∧ v = -(dval ds : Int)) ∧ (neg = false → dval ds < 9223372036854775808 ∧ v = (dval ds : Int)) := by
  unfold numOf at h
  split at h
  · cases h
  rename_i h1
  rw [not_or] at h1
  refine ⟨h1.1, h1.2, fun hn => ?_, fun hn => ?_⟩
  · rw [if_pos hn] at h
    split at h
    · cases h; exact ⟨by assumption, rfl⟩
    · cases h
  · rw [if_neg (by simp [hn])] at h
    split at h
    · cases h; exact ⟨by assumption, rfl⟩
    · cases h
theorem num_yes {neg : Bool} {ds : List UInt8} {v : Int} (hd : ∀ c ∈ ds, digit c = true) (h : numOf neg ds = some v) : atoiAll (txt neg ds) = .ok v ∧ itoa v = txt neg ds := by
  obtain ⟨hne, hh, h1, h2⟩ := numOf_some h
  have hdec := val_dec ds.length ds rfl hd hne (fun hl he => hh ⟨he, .inl hl⟩)
  cases neg with
  | true =>
    obtain ⟨hv, rfl⟩ := h1 rfl
    have hpu := pu_ok ds 0 hd (by rw [← dval_dv]; omega)
    rw [← dval_dv] at hpu
    refine ⟨by rw [atoi_neg, mag hne, hpu]; unfold signed; simp only; rw [if_neg (by omega)], ?_⟩
    have hpos : 1 ≤ dval ds := by
      obtain ⟨a, q, rfl⟩ := List.exists_cons_of_ne_nil hne
      exact val_pos (hd a (by simp)) (fun e => hh ⟨by simp [e], .inr rfl⟩)
    rw [itoa_neg _ hpos, hdec]; rfl
  | false =>
    obtain ⟨hv, rfl⟩ := h2 rfl
    have hpu := pu_ok ds 0 hd (by rw [← dval_dv]; omega)
    rw [← dval_dv] at hpu
    refine ⟨by rw [atoi_pos hd hne, mag hne, hpu]; unfold signless; simp only; rw [if_neg (by omega)], ?_⟩
    rw [itoa_nonneg, hdec]; rfl
theorem num_no {neg : Bool} {ds : List UInt8} {v : Int} (hd : ∀ c ∈ ds, digit c = true) (h : numOf neg ds = none) (ha : atoiAll (txt neg ds) = .ok v) : itoa v ≠ txt neg ds := by
  intro hi
  cases neg with
  | true =>
    rw [atoi_neg] at ha
    by_cases hne : ds = []
    · subst hne; simp [parseMag, signed] at ha
    rw [mag hne] at ha
    cases hp : parseUint10 0 ds with
    | ok u =>
      have hu := pu_is hd hp
      subst hu
      rw [hp] at ha
      unfold signed at ha
      simp only at ha
      split at ha
      · cases ha
      rename_i hb
      cases ha
      rcases Nat.eq_zero_or_pos (dval ds) with h0 | h0
      · rw [h0] at hi
        have : itoa (-((0 : Nat) : Int)) = decDigits 0 := by have := itoa_nonneg 0; simpa using this
        rw [this, dec_small (by omega)] at hi
        simp [txt] at hi
      · rw [itoa_neg _ h0] at hi
        have e : decDigits (dval ds) = ds := by unfold txt at hi; rw [if_pos rfl] at hi; exact (List.cons.inj hi).2
        unfold numOf at h
        rw [if_neg, if_pos rfl, if_pos (by omega)] at h
        · cases h
        · rintro (h' | ⟨h', _⟩)
          · exact hne h'
          · rw [← e] at h'; have := dec_head h'; omega
    | _ => rw [hp] at ha; cases ha
  | false =>
    by_cases hne : ds = []
    · subst hne; simp [txt, atoiAll] at ha
    rw [atoi_pos hd hne, mag hne] at ha
    cases hp : parseUint10 0 ds with
    | ok u =>
      have hu := pu_is hd hp
      subst hu
      rw [hp] at ha
      unfold signless at ha
      simp only at ha
      split at ha
      · cases ha
      rename_i hb
      cases ha
      rw [itoa_nonneg] at hi
      have e : decDigits (dval ds) = ds := hi
      unfold numOf at h
      rw [if_neg, if_neg (by simp), if_pos (by omega)] at h
      · cases h
      · rintro (h' | ⟨h', h'' | h''⟩)
        · exact hne h'
        · rw [← e] at h'
          have h0 := dec_head h'
          rw [← e, h0, dec_small (by omega)] at h''
          simp at h''
        · cases h''
    | _ => rw [hp] at ha; cases ha

/-! in a text -/
theorem mem_sub {l : List UInt8} {i j : Nat} {c : UInt8} (h : c ∈ sub l i j) : ∃ k, ∃ hk : k < l.length, i ≤ k ∧ k < j ∧ l[k] = c := by
  unfold sub at h
  obtain ⟨n, hn, rfl⟩ := List.getElem_of_mem h
  rw [List.length_take, List.length_drop] at hn
  refine ⟨i + n, by omega, by omega, by omega, ?_⟩
  simp
theorem run_digits (l : List UInt8) (i : Nat) : ∀ c ∈ sub l i (run digit l i), digit c = true := fun c hc => by
  obtain ⟨k, hk, h1, h2, rfl⟩ := mem_sub hc
  exact run_in h1 h2 hk
theorem sub_cons {l : List UInt8} {i j : Nat} (h : i < l.length) (hj : i < j) : sub l i j = l[i] :: sub l (i + 1) j := by
  unfold sub
  rw [List.drop_eq_getElem_cons h, show j - i = (j - (i + 1)) + 1 by omega, List.take_succ_cons]
theorem isNeg_at {l : List UInt8} {i : Nat} (h : i < l.length) : isNeg l i = decide (l[i].toNat = 45) := by simp [isNeg, h]
/-- the run that the program takes is the document's, and its text, too -/
theorem number_run {l : List UInt8} {i : Nat} (h : i < l.length) (hc : (digit l[i] || decide (l[i].toNat = 45)) = true) :
    run digit l (first l i) = run digit l (i + 1) ∧ sub l i (run digit l (i + 1)) = txt (isNeg l i) (sub l (first l i) (run digit l (first l i))) := by
  have hr := le_run digit l (i + 1)
  rw [isNeg_at h]
  unfold first
  rw [isNeg_at h]
  by_cases h45 : l[i].toNat = 45
  · simp only [h45, decide_true, if_true]
    refine ⟨trivial, ?_⟩
    rw [sub_cons h (by omega), show l[i] = 45 from UInt8.toNat_inj.1 h45]; rfl
  · have hd : digit l[i] = true := by simpa [h45] using hc
    simp only [h45, decide_false]
    rw [if_neg (by simp), run_step h hd]
    exact ⟨rfl, rfl⟩
/-! digits one by one -/
theorem sub_snoc {l : List UInt8} {f k : Nat} (hf : f ≤ k) (hk : k < l.length) : sub l f (k + 1) = sub l f k ++ [l[k]] := by
  unfold sub
  rw [show k + 1 - f = (k - f) + 1 by omega, List.take_add_one]
  congr 1
  rw [List.getElem?_drop, show f + (k - f) = k by omega, List.getElem?_eq_getElem hk]; rfl
theorem sub_cut {l : List UInt8} {f k e : Nat} (hf : f ≤ k) (he : k ≤ e) : sub l f e = sub l f k ++ sub l k e := by
  unfold sub
  rw [show e - f = (k - f) + (e - k) by omega, List.take_add, List.drop_drop, show f + (k - f) = k by omega]
theorem dval_snoc {l : List UInt8} {f k : Nat} (hf : f ≤ k) (hk : k < l.length) : dval (sub l f (k + 1)) = dval (sub l f k) * 10 + (l[k].toNat - 48) := by
  rw [sub_snoc hf hk, dval_dv, dv_snoc, ← dval_dv]
theorem dval_mono {l : List UInt8} {f k e : Nat} (hf : f ≤ k) (he : k ≤ e) : dval (sub l f k) ≤ dval (sub l f e) := by
  rw [sub_cut hf he, dval_dv, dval_dv]
  have : dv 0 (sub l f k ++ sub l k e) = dv (dv 0 (sub l f k)) (sub l k e) := by simp [dv]
  rw [this]; exact dv_ge _ _
theorem sub_self (l : List UInt8) (f : Nat) : sub l f f = [] := by simp [sub]
theorem sub_head {l : List UInt8} {f k : Nat} (h : f < k) (hk : k ≤ l.length) : (sub l f k).head? = some (l[f]'(by omega)) := by
  rw [sub_cons (by omega) h]; rfl
theorem num_big {neg : Bool} {ds : List UInt8} (h : 9223372036854775808 < dval ds) : numOf neg ds = none := by
  unfold numOf
  split
  · rfl
  split
  · rw [if_neg (by omega)]
  · rw [if_neg (by omega)]
theorem num_nil (neg : Bool) (l : List UInt8) (f : Nat) : numOf neg (sub l f f) = none := by rw [sub_self]; rfl
theorem num_zero {neg : Bool} {l : List UInt8} {f k : Nat} (h : f < k) (hk : k ≤ l.length) (h0 : (l[f]'(by omega)).toNat = 48) (h1 : f + 1 < k ∨ neg = true) : numOf neg (sub l f k) = none := by
  unfold numOf
  rw [if_pos (.inr ⟨by rw [sub_head h hk]; congr 1; exact UInt8.toNat_inj.1 h0, by rw [sub_length hk]; rcases h1 with h1 | h1; exact .inl (by omega); exact .inr h1⟩)]
theorem num_cond {neg : Bool} {l : List UInt8} {f k : Nat} (h : f < k) (hk : k ≤ l.length) (h0 : ¬ ((l[f]'(by omega)).toNat = 48 ∧ (f + 1 < k ∨ neg = true))) : ¬ (sub l f k = [] ∨ ((sub l f k).head? = some 48 ∧ (1 < (sub l f k).length ∨ neg = true))) := by
  rintro (h' | ⟨h', h''⟩)
  · have := sub_length (i := f) hk; rw [h'] at this; simp at this; omega
  · refine h0 ⟨?_, ?_⟩
    · rw [sub_head h hk] at h'; have := congrArg UInt8.toNat (Option.some.inj h'); simpa using this
    · rw [sub_length hk] at h''; rcases h'' with h'' | h''; exact .inl (by omega); exact .inr h''
theorem num_neg {l : List UInt8} {f k : Nat} (h : f < k) (hk : k ≤ l.length) (h0 : ¬ ((l[f]'(by omega)).toNat = 48 ∧ (f + 1 < k ∨ true = true))) (hv : dval (sub l f k) ≤ 9223372036854775808) : numOf true (sub l f k) = some (-(dval (sub l f k) : Int)) := by
  unfold numOf
  rw [if_neg (num_cond h hk h0), if_pos rfl, if_pos hv]
theorem num_pos {l : List UInt8} {f k : Nat} (h : f < k) (hk : k ≤ l.length) (h0 : ¬ ((l[f]'(by omega)).toNat = 48 ∧ (f + 1 < k ∨ false = true))) (hv : dval (sub l f k) < 9223372036854775808) : numOf false (sub l f k) = some (dval (sub l f k) : Int) := by
  unfold numOf
  rw [if_neg (num_cond h hk h0), if_neg (by simp), if_pos hv]
theorem num_edge {ds : List UInt8} (hv : dval ds = 9223372036854775808) : numOf false ds = none := by
  unfold numOf
  split
  · rfl
  rw [if_neg (by simp), if_neg (by omega)]
end Lx
end Go.Proofs.YtcncmpgababfjaaDoor

/-
  The mathematics of texts that are put together; tokens that rise; numbers alone.
-/
namespace Go.Proofs.YtcncmpgababfjaaDoor
namespace Lx
open Go.Lib

theorem toks_ok (L : List Tok) : toks (.ok L) = L := rfl
theorem place_ok (L : List Tok) : place (.ok L) = 0 := rfl
theorem err_ok (L : List Tok) : err (.ok L) = 0 := rfl
theorem toks_err (z : Nat × Int) : toks (.error z) = [] := rfl
theorem place_err (z : Nat × Int) : place (.error z) = z.1 := rfl
theorem err_err (z : Nat × Int) : err (.error z) = z.2 := rfl

/-! bytes behind a text -/
theorem get_app {l m : List UInt8} {i : Nat} (h : i < l.length) : (l ++ m)[i]? = l[i]? := List.getElem?_append_left h
theorem at_app {l m : List UInt8} {i : Nat} (h : i < l.length) : (l ++ m)[i]'(by rw [List.length_append]; omega) = l[i] := List.getElem_append_left h
theorem at_end {l m : List UInt8} {c : UInt8} {r : List UInt8} (hm : m = c :: r) : (l ++ m)[l.length]'(by subst hm; simp) = c := by subst hm; simp
theorem run_app {p : UInt8 → Bool} {l m : List UInt8} (hm : ∀ c, m.head? = some c → p c = false) : ∀ (k i : Nat), l.length ≤ i + k → i ≤ l.length → run p (l ++ m) i = run p l i
  | 0, i, hk, hi => by
    have e : i = l.length := by omega
    subst e
    rw [run_end (l := l) (Nat.le_refl _)]
    cases m with
    | nil => rw [List.append_nil, run_end (Nat.le_refl _)]
    | cons c r => exact run_stop (by simp) (by rw [at_end rfl]; exact hm c rfl)
  | k + 1, i, hk, hi => by
    rcases Nat.lt_or_ge i l.length with h | h
    · have hl : i < (l ++ m).length := by rw [List.length_append]; omega
      cases hp : p l[i] with
      | true => rw [run_step h hp, run_step hl (by rw [at_app h]; exact hp)]; exact run_app hm k (i + 1) (by omega) (by omega)
      | false => rw [run_stop h hp, run_stop hl (by rw [at_app h]; exact hp)]
    · have e : i = l.length := by omega
      subst e
      rw [run_end (l := l) (Nat.le_refl _)]
      cases m with
      | nil => rw [List.append_nil, run_end (Nat.le_refl _)]
      | cons c r => exact run_stop (by simp) (by rw [at_end rfl]; exact hm c rfl)
/-- a run that ends within a text ends there; one that does not goes on behind it -/
theorem run_pre {p : UInt8 → Bool} {l m : List UInt8} : ∀ (k i : Nat), l.length ≤ i + k → i ≤ l.length → (run p l i < l.length → run p (l ++ m) i = run p l i) ∧ (l.length ≤ run p l i → l.length ≤ run p (l ++ m) i)
  | 0, i, hk, hi => ⟨fun h => by rw [run_end (by omega)] at h; omega, fun _ => by have := le_run p (l ++ m) i; omega⟩
  | k + 1, i, hk, hi => by
    rcases Nat.lt_or_ge i l.length with h | h
    · have hl : i < (l ++ m).length := by rw [List.length_append]; omega
      cases hp : p l[i] with
      | true => rw [run_step h hp, run_step hl (by rw [at_app h]; exact hp)]; exact run_pre k (i + 1) (by omega) (by omega)
      | false =>
        rw [run_stop h hp, run_stop hl (by rw [at_app h]; exact hp)]
        exact ⟨fun _ => rfl, fun h' => h'⟩
    · exact ⟨fun h' => by rw [run_end h] at h'; omega, fun _ => by have := le_run p (l ++ m) i; omega⟩
theorem sub_app {l m : List UInt8} {i j : Nat} (hi : i ≤ l.length) (hj : j ≤ l.length) : sub (l ++ m) i j = sub l i j := by
  unfold sub
  rw [List.drop_append_of_le_length hi, List.take_append_of_le_length (by rw [List.length_drop]; omega)]

/-- what may stand behind a text and change no token of it -/
structure Behind (m : List UInt8) : Prop where
  head : ∀ c, m.head? = some c → inner c = false ∧ c.toNat ≠ 45
  quote : (∀ c, m.head? = some c → plain c = false ∧ c.toNat ≠ 34) ∨ ∀ c ∈ m, c.toNat ≠ 34
theorem digit_inner {c : UInt8} (h : inner c = false) : digit c = false := by
  cases hd : digit c with
  | false => rfl
  | true => simp [inner, hd] at h
theorem isNeg_app {l m : List UInt8} {i : Nat} (h : i < l.length) : isNeg (l ++ m) i = isNeg l i := by unfold isNeg; rw [get_app h]
theorem number_app {l m : List UInt8} {i : Nat} (hb : Behind m) (h : i < l.length) : number (l ++ m) i = number l i := by
  have hf : first (l ++ m) i = first l i := by unfold first; rw [isNeg_app h]
  have hl := first_lt h
  have hr : run digit (l ++ m) (first l i) = run digit l (first l i) := run_app (fun c hc => digit_inner (hb.head c hc).1) l.length _ (by omega) hl
  unfold number
  rw [hf, isNeg_app h, hr, sub_app hl (run_le digit hl)]
theorem quote_app {l m : List UInt8} {i : Nat} (hb : Behind m) (h : i < l.length) : quote (l ++ m) i = quote l i := by
  obtain ⟨h1, h2⟩ := run_pre (p := plain) (l := l) (m := m) l.length (i + 1) (by omega) h
  rcases Nat.lt_or_ge (run plain l (i + 1)) l.length with hr | hr
  · unfold quote
    rw [h1 hr, get_app hr, sub_app h (by omega)]
  · have hn : quote l i = none := by
      unfold quote
      rw [if_neg (by rw [List.getElem?_eq_none hr]; simp)]
    rw [hn]
    unfold quote
    rw [if_neg]
    rcases hb.quote with hq | hq
    · have e : run plain (l ++ m) (i + 1) = l.length := by
        rw [run_app (fun c hc => (hq c hc).1) l.length (i + 1) (by omega) h]
        have := run_le plain (l := l) (i := i + 1) h
        omega
      rw [e]
      cases m with
      | nil => simp
      | cons c r => simpa using (hq c rfl).2
    · intro hc
      rw [List.getElem?_append_right (h2 hr)] at hc
      rw [Option.map_eq_some_iff] at hc
      obtain ⟨c, hc1, hc2⟩ := hc
      exact hq c (List.mem_of_getElem? hc1) hc2
theorem sign_app {l m : List UInt8} {i : Nat} {c : UInt8} (hb : Behind m) (h : i < l.length) : sign (l ++ m) i c = sign l i c := by
  have e : ((l ++ m)[i + 1]?.map (·.toNat) = some 45) ↔ (l[i + 1]?.map (·.toNat) = some 45) := by
    rcases Nat.lt_or_ge (i + 1) l.length with h1 | h1
    · rw [get_app h1]
    · rw [List.getElem?_append_right h1, List.getElem?_eq_none h1, show i + 1 - l.length = 0 by omega]
      cases m with
      | nil => simp
      | cons d r => simpa using (hb.head d rfl).2
  unfold sign
  by_cases hc : c.toNat = 58 ∧ l[i + 1]?.map (·.toNat) = some 45
  · rw [if_pos hc, if_pos ⟨hc.1, e.2 hc.2⟩]
  · rw [if_neg hc, if_neg (fun h' => hc ⟨h'.1, e.1 h'.2⟩)]
theorem word_app {l m : List UInt8} {i : Nat} {k : Int} (hb : Behind m) (h : i < l.length) : word k (l ++ m) i = word k l i := by
  unfold word
  rw [run_app (fun c hc => (hb.head c hc).1) l.length i (by omega) (by omega), sub_app (by omega) (run_le inner (by omega))]
theorem one_app {l m : List UInt8} {i : Nat} (hb : Behind m) (h : i < l.length) : one (l ++ m) i = one l i := by
  rw [one_at h, one_at (l := l ++ m) (by rw [List.length_append]; omega), at_app h]
  unfold oneC
  rw [word_app hb h, word_app hb h, number_app hb h, quote_app hb h, sign_app hb h]
theorem sk_app (m : List UInt8) : ∀ (x : List UInt8) (n : Bool), (sk n x < x.length → sk n (x ++ m) = sk n x) ∧ (x.length ≤ sk n x → ∃ n', sk n (x ++ m) = x.length + sk n' m)
  | [], n => ⟨fun h => by simp [sk] at h, fun _ => ⟨n, by simp⟩⟩
  | c :: r, n => by
    rw [List.cons_append, sk, sk]
    by_cases h : note n c = false ∧ blank c = false
    · rw [if_pos h, if_pos h]
      exact ⟨fun _ => rfl, fun h' => by simp at h'⟩
    · rw [if_neg h, if_neg h]
      obtain ⟨h1, h2⟩ := sk_app m r (note n c)
      refine ⟨fun h' => ?_, fun h' => ?_⟩
      · rw [List.length_cons] at h'; rw [h1 (by omega)]
      · rw [List.length_cons] at h'
        obtain ⟨n', hn⟩ := h2 (by omega)
        exact ⟨n', by rw [hn, List.length_cons]; omega⟩
theorem skip_app {l m : List UInt8} {e : Nat} (he : e ≤ l.length) : (skip l e < l.length → skip (l ++ m) e = skip l e) ∧ (l.length ≤ skip l e → ∃ n, skip (l ++ m) e = l.length + sk n m) := by
  obtain ⟨h1, h2⟩ := sk_app m (l.drop e) false
  unfold skip skipN
  rw [List.drop_append_of_le_length he]
  rw [List.length_drop] at h1 h2
  refine ⟨fun h => by rw [h1 (by omega)], fun h => ?_⟩
  obtain ⟨n, hn⟩ := h2 (by omega)
  exact ⟨n, by rw [hn]; omega⟩

/-! a blank, or a remark, at the end -/
theorem tks_blank {l m : List UInt8} (hb : Behind m) (hs : ∀ n, sk n m = m.length) : ∀ (k e : Nat), l.length ≤ e + k → e ≤ l.length → tks (l ++ m) (skip (l ++ m) e) = tks l (skip l e)
  | k, e, hk, he => by
    obtain ⟨h1, h2⟩ := skip_app (m := m) he
    have hle := skip_le he
    have hge := le_skip l e
    rcases Nat.lt_or_ge (skip l e) l.length with h | h
    · rw [h1 h]
      have hl : skip l e < (l ++ m).length := by rw [List.length_append]; omega
      have ho := one_app hb h
      cases h3 : one l (skip l e) with
      | none => rw [tks_bad h h3, tks_bad hl (by rw [ho, h3])]
      | some r =>
        obtain ⟨t, j⟩ := r
        by_cases h32 : 32 < t.text.length
        · rw [tks_long h h3 h32, tks_long hl (by rw [ho, h3]) h32]
        · have hj := one_gt h h3
          rw [tks_cons h h3 h32, tks_cons hl (by rw [ho, h3]) h32]
          cases k with
          | zero => omega
          | succ k => rw [tks_blank hb hs k j (by omega) hj.2]
    · obtain ⟨n, hn⟩ := h2 h
      rw [tks_end h, hn, hs n, tks_end (by rw [List.length_append]; omega)]
theorem ans_blank {l m : List UInt8} (hb : Behind m) (hs : ∀ n, sk n m = m.length) (h : (l ++ m).length ≤ 4096) : ans (l ++ m) = ans l := by
  have := List.length_append (as := l) (bs := m)
  unfold ans
  rw [if_neg (by omega), if_neg (by omega), tks_blank hb hs l.length 0 (by omega) (Nat.zero_le _)]

/-! one text behind the other -/
def sh (n : Nat) (t : Tok) : Tok := ⟨t.kind, t.text, t.n, n + t.pl⟩
def shR (n : Nat) : Option (Tok × Nat) → Option (Tok × Nat) := Option.map fun r => (sh n r.1, n + r.2)
theorem run_shift (q : UInt8 → Bool) (p b : List UInt8) (i : Nat) : run q (p ++ b) (p.length + i) = p.length + run q b i := by
  unfold run
  rw [List.drop_append, List.drop_of_length_le (by omega), Nat.add_sub_cancel_left, List.nil_append]; omega
theorem sub_shift (p b : List UInt8) (i j : Nat) : sub (p ++ b) (p.length + i) (p.length + j) = sub b i j := by
  unfold sub
  rw [List.drop_append, List.drop_of_length_le (by omega), Nat.add_sub_cancel_left, List.nil_append]
  congr 1; omega
theorem get_shift (p b : List UInt8) (i : Nat) : (p ++ b)[p.length + i]? = b[i]? := by
  rw [List.getElem?_append_right (by omega), Nat.add_sub_cancel_left]
theorem skip_shift (p b : List UInt8) (i : Nat) : skip (p ++ b) (p.length + i) = p.length + skip b i := by
  unfold skip skipN
  rw [List.drop_append, List.drop_of_length_le (by omega), Nat.add_sub_cancel_left, List.nil_append]; omega
theorem isNeg_shift (p b : List UInt8) (i : Nat) : isNeg (p ++ b) (p.length + i) = isNeg b i := by unfold isNeg; rw [get_shift]
theorem first_shift (p b : List UInt8) (i : Nat) : first (p ++ b) (p.length + i) = p.length + first b i := by
  unfold first; rw [isNeg_shift]; split <;> omega
theorem one_shift (p b : List UInt8) (i : Nat) : one (p ++ b) (p.length + i) = shR p.length (one b i) := by
  unfold one
  rw [get_shift]
  cases b[i]? with
  | none => rfl
  | some c =>
    simp only
    unfold oneC
    have hw : ∀ k, word k (p ++ b) (p.length + i) = shR p.length (word k b i) := fun k => by
      unfold word shR
      rw [run_shift, sub_shift]; rfl
    split
    · exact hw 1
    split
    · exact hw 2
    split
    · unfold number shR
      rw [isNeg_shift, first_shift, run_shift, sub_shift, Option.map_map]; rfl
    split
    · unfold quote shR
      rw [show p.length + i + 1 = p.length + (i + 1) by omega, run_shift, get_shift, sub_shift]
      split
      · simp [sh]; omega
      · rfl
    · unfold sign shR
      rw [show p.length + i + 1 = p.length + (i + 1) by omega, get_shift]
      split
      · simp [sh]; omega
      split
      · simp [sh]
      · rfl
theorem tks_shift (p b : List UInt8) : ∀ (k i : Nat) (M : List Tok), b.length ≤ i + k → tks b i = .ok M → tks (p ++ b) (p.length + i) = .ok (M.map (sh p.length))
  | k, i, M, hk, h => by
    rcases Nat.lt_or_ge i b.length with hi | hi
    · have hl : p.length + i < (p ++ b).length := by rw [List.length_append]; omega
      have ho := one_shift p b i
      cases h3 : one b i with
      | none => rw [tks_bad hi h3] at h; cases h
      | some r =>
        obtain ⟨t, j⟩ := r
        by_cases h32 : 32 < t.text.length
        · rw [tks_long hi h3 h32] at h; cases h
        · have hj := one_gt hi h3
          have hs := le_skip b j
          rw [tks_cons hi h3 h32] at h
          cases h4 : tks b (skip b j) with
          | error x => rw [h4] at h; cases h
          | ok R =>
            rw [h4] at h
            cases h
            rw [h3] at ho
            cases k with
            | zero => omega
            | succ k =>
              rw [tks_cons (t := sh p.length t) (e := p.length + j) hl ho h32, skip_shift, tks_shift p b k (skip b j) R (by omega) h4]; rfl
    · rw [tks_end hi] at h
      cases h
      rw [tks_end (by rw [List.length_append]; omega)]; rfl
theorem behind_nl (b : List UInt8) : Behind (10 :: b) :=
  ⟨fun c hc => by simp at hc; subst hc; decide, .inl fun c hc => by simp at hc; subst hc; decide⟩
theorem tks_join {a b : List UInt8} : ∀ (k e : Nat) (L : List Tok), a.length ≤ e + k → e ≤ a.length → tks a (skip a e) = .ok L → tks (a ++ 10 :: b) (skip (a ++ 10 :: b) e) = prep L (tks (a ++ 10 :: b) (a.length + 1 + skip b 0))
  | k, e, L, hk, he, h => by
    obtain ⟨h1, h2⟩ := skip_app (m := 10 :: b) he
    have hge := le_skip a e
    rcases Nat.lt_or_ge (skip a e) a.length with hi | hi
    · rw [h1 hi]
      have hl : skip a e < (a ++ 10 :: b).length := by rw [List.length_append]; omega
      have ho := one_app (behind_nl b) hi
      cases h3 : one a (skip a e) with
      | none => rw [tks_bad hi h3] at h; cases h
      | some r =>
        obtain ⟨t, j⟩ := r
        by_cases h32 : 32 < t.text.length
        · rw [tks_long hi h3 h32] at h; cases h
        · have hj := one_gt hi h3
          rw [tks_cons hi h3 h32] at h
          cases h4 : tks a (skip a j) with
          | error x => rw [h4] at h; cases h
          | ok R =>
            rw [h4] at h
            cases h
            cases k with
            | zero => omega
            | succ k =>
              rw [tks_cons hl (by rw [ho, h3]) h32, tks_join k j R (by omega) hj.2 h4]
              cases tks (a ++ 10 :: b) (a.length + 1 + skip b 0) <;> rfl
    · rw [tks_end hi] at h
      cases h
      obtain ⟨n, hn⟩ := h2 hi
      rw [hn, prep_nil]
      congr 1
      have : sk n (10 :: b) = 1 + sk false b := by rw [sk]; simp [note, blank]
      rw [this]
      unfold skip skipN
      simp; omega
theorem ans_join {a b : List UInt8} {L M : List Tok} (ha : ans a = .ok L) (hb : ans b = .ok M) (h : a.length + 1 + b.length ≤ 4096) : ans (a ++ 10 :: b) = .ok (L ++ M.map (sh (a.length + 1))) := by
  unfold ans at *
  rw [if_neg (by omega)] at ha hb
  rw [if_neg (by rw [List.length_append, List.length_cons]; omega), tks_join a.length 0 L (by omega) (Nat.zero_le _) ha]
  have := tks_shift (a ++ [10]) b b.length (skip b 0) M (by omega) hb
  rw [List.append_assoc, List.singleton_append, List.length_append, List.length_singleton] at this
  rw [this]; rfl

/-! tokens rise -/
theorem tks_inv {l : List UInt8} {i : Nat} {t : Tok} {R : List Tok} (h : tks l i = .ok (t :: R)) : i < l.length ∧ ∃ e, one l i = some (t, e) ∧ tks l (skip l e) = .ok R := by
  rcases Nat.lt_or_ge i l.length with hi | hi
  · refine ⟨hi, ?_⟩
    cases h3 : one l i with
    | none => rw [tks_bad hi h3] at h; cases h
    | some r =>
      obtain ⟨u, j⟩ := r
      by_cases h32 : 32 < u.text.length
      · rw [tks_long hi h3 h32] at h; cases h
      · rw [tks_cons hi h3 h32] at h
        cases h4 : tks l (skip l j) with
        | error x => rw [h4] at h; cases h
        | ok R' => rw [h4] at h; cases h; exact ⟨j, rfl, h4⟩
  · rw [tks_end hi] at h; cases h
theorem tks_pl {l : List UInt8} : ∀ (M : List Tok) (i : Nat), tks l i = .ok M → ∀ t ∈ M, t.pl < l.length
  | [], _, _, _, ht => by cases ht
  | u :: R, i, h, t, ht => by
    obtain ⟨hi, e, ho, hR⟩ := tks_inv h
    rcases List.mem_cons.1 ht with rfl | ht
    · rw [one_pl ho]; exact hi
    · exact tks_pl R _ hR t ht
theorem ans_pl {l : List UInt8} {M : List Tok} (h : ans l = .ok M) : ∀ t ∈ M, t.pl < l.length := by
  unfold ans at h
  split at h
  · cases h
  · exact tks_pl M _ h
theorem tks_nil {l : List UInt8} {i : Nat} (h : tks l i = .ok []) : l.length ≤ i := by
  rcases Nat.lt_or_ge i l.length with hi | hi
  · cases h3 : one l i with
    | none => rw [tks_bad hi h3] at h; cases h
    | some r =>
      obtain ⟨u, j⟩ := r
      by_cases h32 : 32 < u.text.length
      · rw [tks_long hi h3 h32] at h; cases h
      · rw [tks_cons hi h3 h32] at h
        cases h4 : tks l (skip l j) <;> (rw [h4] at h; cases h)
  · exact hi
theorem tks_err {l : List UInt8} : ∀ (k i p : Nat) (er : Int), l.length ≤ i + k → tks l i = .error (p, er) → p ≤ l.length ∧ er ≠ 0 ∧ er ≠ 3
  | k, i, p, er, hk, h => by
    rcases Nat.lt_or_ge i l.length with hi | hi
    · cases h3 : one l i with
      | none => rw [tks_bad hi h3] at h; cases h; exact ⟨by omega, by decide, by decide⟩
      | some r =>
        obtain ⟨u, j⟩ := r
        by_cases h32 : 32 < u.text.length
        · rw [tks_long hi h3 h32] at h; cases h; exact ⟨by omega, by decide, by decide⟩
        · have hj := one_gt hi h3
          have hs := le_skip l j
          rw [tks_cons hi h3 h32] at h
          cases h4 : tks l (skip l j) with
          | ok R => rw [h4] at h; cases h
          | error x =>
            rw [h4] at h
            cases h
            cases k with
            | zero => omega
            | succ k => exact tks_err k (skip l j) p er (by omega) h4
    · rw [tks_end hi] at h; cases h
theorem ans_err {l : List UInt8} {p : Nat} {er : Int} (h : ans l = .error (p, er)) : p ≤ l.length ∧ er ≠ 0 := by
  unfold ans at h
  split at h
  · cases h; exact ⟨Nat.zero_le _, by decide⟩
  · have := tks_err l.length _ p er (by omega) h
    exact ⟨this.1, this.2.1⟩
theorem ans_big {l : List UInt8} : err (ans l) = 3 ↔ 4096 < l.length := by
  unfold ans
  split
  · rename_i h; exact ⟨fun _ => h, fun _ => rfl⟩
  · rename_i h
    refine ⟨fun h' => ?_, fun h' => absurd h' h⟩
    cases h1 : tks l (skip l 0) with
    | ok L => rw [h1] at h'; cases h'
    | error x => obtain ⟨p, er⟩ := x; rw [h1] at h'; exact absurd h' (tks_err l.length _ p er (by omega) h1).2.2

/-! a number alone -/
theorem tw_all {p : UInt8 → Bool} : ∀ (l : List UInt8), (∀ c ∈ l, p c = true) → l.takeWhile p = l
  | [], _ => rfl
  | c :: r, h => by rw [List.takeWhile_cons_of_pos (h c (by simp)), tw_all r (fun x hx => h x (by simp [hx]))]
theorem sub_tail {l : List UInt8} {i : Nat} : sub l i l.length = l.drop i := by
  unfold sub; rw [List.take_of_length_le (by rw [List.length_drop]; omega)]
theorem number_txt {neg : Bool} {ds : List UInt8} (hd : ∀ c ∈ ds, digit c = true) (hne : ds ≠ []) : ans (txt neg ds) = (if 4096 < (txt neg ds).length then .error (0, 3) else match numOf neg ds with | none => .error (0, 70) | some v => .ok [⟨3, [], v, 0⟩]) := by
  obtain ⟨a, q, rfl⟩ := List.exists_cons_of_ne_nil hne
  have ha := digit_le (hd a (by simp))
  have hnd : digit (45 : UInt8) = false := by decide
  unfold ans
  split
  · rfl
  have hlen : 0 < (txt neg (a :: q)).length := by cases neg <;> simp [txt]
  have hneg : isNeg (txt neg (a :: q)) 0 = neg := by
    cases neg with
    | true => rfl
    | false =>
      have h0 : a.toNat ≠ 45 := by omega
      simp [isNeg, txt, h0]
  have hc : (digit ((txt neg (a :: q))[0]'hlen) || decide (((txt neg (a :: q))[0]'hlen).toNat = 45)) = true := by
    cases neg with
    | true => rfl
    | false => simp [txt, hd a (by simp)]
  have hfirst : (txt neg (a :: q)).drop (first (txt neg (a :: q)) 0) = a :: q := by
    unfold first; rw [hneg]
    cases neg <;> rfl
  have hrun : run digit (txt neg (a :: q)) (first (txt neg (a :: q)) 0) = (txt neg (a :: q)).length := by
    unfold run
    rw [hfirst, tw_all _ hd]
    have := congrArg List.length hfirst
    rw [List.length_drop] at this
    have h1 := first_lt hlen
    omega
  have hskip : skip (txt neg (a :: q)) 0 = 0 := by
    refine skip_other hlen ?_ ?_
    · cases neg with
      | true => rfl
      | false => simp [txt, blank]; omega
    · cases neg with
      | true => show (45 : UInt8).toNat ≠ 37; decide
      | false => simp [txt]; omega
  have hone : one (txt neg (a :: q)) 0 = (numOf neg (a :: q)).map fun v => (⟨3, [], v, 0⟩, (txt neg (a :: q)).length) := by
    rw [one_at hlen]
    unfold oneC
    rw [if_neg, if_neg, if_pos hc]
    · unfold number
      rw [hneg, hrun, sub_tail, hfirst]
    · cases neg with
      | true => show ¬ great (45 : UInt8) = true; decide
      | false => simp [txt, great]; omega
    · cases neg with
      | true => show ¬ small (45 : UInt8) = true; decide
      | false => simp [txt, small]; omega
  rw [hskip]
  cases h : numOf neg (a :: q) with
  | none => rw [h] at hone; rw [tks_bad hlen hone]
  | some v =>
    rw [h] at hone
    rw [tks_cons hlen hone (by simp), tks_end (le_skip _ _)]; rfl
theorem num_self {neg : Bool} {u : Nat} {n : Int} (hn : n = if neg = true then -(u : Int) else u) (h1 : neg = true → 1 ≤ u ∧ u ≤ 9223372036854775808) (h2 : neg = false → u < 9223372036854775808) : numOf neg (decDigits u) = some n := by
  unfold numOf
  rw [if_neg, dec_val]
  · cases neg with
    | true => have := h1 rfl; rw [if_pos rfl, if_pos this.2, hn]; rfl
    | false => have := h2 rfl; rw [if_neg (by simp), if_pos this, hn]; rfl
  · rintro (h | ⟨h, h'⟩)
    · exact dec_ne u h
    · have h0 := dec_head h
      subst h0
      rcases h' with h' | h'
      · rw [dec_small (by omega)] at h'; simp at h'
      · have := (h1 h').1; omega
theorem num_none {neg : Bool} {u : Nat} : numOf neg (48 :: decDigits u) = none := by
  unfold numOf
  rw [if_pos]
  refine .inr ⟨rfl, .inl ?_⟩
  have := List.length_pos_iff.2 (dec_ne u)
  rw [List.length_cons]; omega
end Lx
end Go.Proofs.YtcncmpgababfjaaDoor

/-
  The mathematics of layer 8: tokens read as rules; no program in this text.
-/
namespace Go.Proofs.YtcncmpgababfjaaDoor

namespace Ps
open Lx

abbrev Rz (α : Type) := Except (Nat × Int) (α × List Tok)
def bnd {α β : Type} (r : Rz α) (f : α → List Tok → Rz β) : Rz β :=
  match r with
  | .error e => .error e
  | .ok (v, L) => f v L
theorem bnd_err {α β : Type} (e : Nat × Int) (f : α → List Tok → Rz β) : bnd (.error e) f = .error e := rfl
theorem bnd_ok {α β : Type} (v : α) (L : List Tok) (f : α → List Tok → Rz β) : bnd (.ok (v, L)) f = f v L := rfl
theorem bnd_inv {α β : Type} {r : Rz α} {f : α → List Tok → Rz β} {u : β} {M : List Tok} (h : bnd r f = .ok (u, M)) : ∃ v L, r = .ok (v, L) ∧ f v L = .ok (u, M) := by
  cases r with
  | error e => cases h
  | ok x => obtain ⟨v, L⟩ := x; exact ⟨v, L, rfl, h⟩
theorem bnd_bad {α β : Type} {r : Rz α} {f : α → List Tok → Rz β} {e : Nat × Int} (h : bnd r f = .error e) : r = .error e ∨ ∃ v L, r = .ok (v, L) ∧ f v L = .error e := by
  cases r with
  | error e' => cases h; exact .inl rfl
  | ok x => obtain ⟨v, L⟩ := x; exact .inr ⟨v, L, rfl, h⟩

def tz : Tok := ⟨0, [], 0, 0⟩
def hd : List Tok → Tok
  | [] => tz
  | t :: _ => t
def pl (E : Nat) : List Tok → Nat
  | [] => E
  | t :: _ => t.pl
def says : List UInt8 := [115, 97, 121, 115]
def to : List UInt8 := [116, 111]
def at_ : List UInt8 := [97, 116]
def isT (k : Int) (s : List UInt8) (t : Tok) : Bool := (t.kind == k) && (t.text == s)
def kept (s : List UInt8) : Bool := (s == says) || (s == to) || (s == at_)
def mayW (t : Tok) : Bool := (t.kind == 1) && !kept t.text
def mayT (t : Tok) : Bool := (t.kind == 2) || (t.kind == 3) || ((t.kind == 4) && !(t.text == [])) || mayW t
def tm (t : Tok) : Tm := if t.kind = 2 then ⟨t.text, k0⟩ else if t.kind = 3 then ⟨[], ⟨true, t.n, []⟩⟩ else ⟨[], ⟨false, 0, t.text⟩⟩
def bad (E : Nat) (L : List Tok) : Nat × Int := (pl E L, 80)
def many (E : Nat) (L : List Tok) : Nat × Int := (pl E L, if mayT (hd L) = true then 81 else 80)
def need (E : Nat) (k : Int) (s : List UInt8) (L : List Tok) : Rz Unit := if isT k s (hd L) = true then .ok ((), L.tail) else .error (bad E L)
def term (E : Nat) (L : List Tok) : Rz Tm := if mayT (hd L) = true then .ok (tm (hd L), L.tail) else .error (bad E L)
def word (E : Nat) (L : List Tok) : Rz (List UInt8) := if mayW (hd L) = true then .ok ((hd L).text, L.tail) else .error (bad E L)
def args (E : Nat) : Nat → List Tok → Rz (List Tm)
  | 0, L => .error (many E L)
  | n + 1, L => bnd (term E L) fun t L1 => if isT 5 [44] (hd L1) = true then bnd (args E n L1.tail) fun ts L2 => .ok (t :: ts, L2) else .ok ([t], L1)
def atom (E : Nat) (L : List Tok) : Rz (List UInt8 × List Tm) :=
  bnd (word E L) fun p L1 => bnd (need E 5 [40] L1) fun _ L2 => if isT 5 [41] (hd L2) = true then .ok ((p, []), L2.tail) else
    bnd (args E 4 L2) fun ts L3 => bnd (need E 5 [41] L3) fun _ L4 => .ok ((p, ts), L4)
def opt (E : Nat) (s : List UInt8) (L : List Tok) : Rz Tm := if isT 1 s (hd L) = true then term E L.tail else .ok (t0, L)
def said (L : List Tok) : Bool := !mayW (hd L) || isT 1 says (hd L.tail)
def by_ (E : Nat) (L : List Tok) : Rz Tm := if said L = true then bnd (term E L) fun t L1 => bnd (need E 1 says L1) fun _ L2 => .ok (t, L2) else .ok (t0, L)
def lit (E : Nat) (L : List Tok) : Rz Lt := bnd (by_ E L) fun b L1 => bnd (atom E L1) fun p L2 => bnd (opt E at_ L2) fun a L3 => .ok (⟨b, p.1, p.2, a⟩, L3)
def body (E : Nat) : Nat → List Tok → Rz (List Lt)
  | 0, L => .error (many E L)
  | n + 1, L => bnd (lit E L) fun t L1 => if isT 5 [44] (hd L1) = true then bnd (body E n L1.tail) fun ts L2 => .ok (t :: ts, L2) else .ok ([t], L1)
def rule (E : Nat) (L : List Tok) : Rz Ru :=
  bnd (term E L) fun h L1 => bnd (need E 5 [58] L1) fun _ L2 => bnd (atom E L2) fun p L3 => bnd (opt E to L3) fun t L4 => bnd (need E 5 [58, 45] L4) fun _ L5 =>
    bnd (body E 4 L5) fun b L6 => bnd (need E 5 [46] L6) fun _ L7 => .ok (⟨h, p.1, p.2, t, b⟩, L7)
abbrev Rs := Except (Nat × Int) (List Ru)
def rcons (r : Ru) : Rs → Rs
  | .ok l => .ok (r :: l)
  | .error e => .error e
def rthen (x : Rz Ru) (f : List Tok → Rs) : Rs :=
  match x with
  | .error e => .error e
  | .ok (r, L) => rcons r (f L)
def rules (E : Nat) : Nat → List Tok → Rs
  | 0, [] => .ok []
  | 0, t :: L => .error (many E (t :: L))
  | _ + 1, [] => .ok []
  | n + 1, t :: L => rthen (rule E (t :: L)) (rules E n)
def prog (l : List UInt8) : Rs :=
  match ans l with
  | .error e => .error e
  | .ok L => rules l.length 16 L

/-! what Program answers -/
def rs : Rs → List Ru
  | .ok l => l
  | .error _ => []
def place : Rs → Nat
  | .ok _ => 0
  | .error x => x.1
def err : Rs → Int
  | .ok _ => 0
  | .error x => x.2

theorem rules_nil (E n : Nat) : rules E n [] = .ok [] := by cases n <;> rfl
theorem rules_zero {E : Nat} {L : List Tok} (h : L ≠ []) : rules E 0 L = .error (many E L) := by
  cases L with
  | nil => exact absurd rfl h
  | cons t L => rfl
theorem rules_succ {E n : Nat} {L : List Tok} (h : L ≠ []) : rules E (n + 1) L = rthen (rule E L) (rules E n) := by
  cases L with
  | nil => exact absurd rfl h
  | cons t L => rfl
theorem tail_app {L : List Tok} (M : List Tok) (h : L ≠ []) : (L ++ M).tail = L.tail ++ M := by
  cases L with
  | nil => exact absurd rfl h
  | cons t L => rfl
theorem hd_app {L : List Tok} (M : List Tok) (h : L ≠ []) : hd (L ++ M) = hd L := by
  cases L with
  | nil => exact absurd rfl h
  | cons t L => rfl
theorem hd_ne {k : Int} {s : List UInt8} {L : List Tok} (hk : k ≠ 0) (h : isT k s (hd L) = true) : L ≠ [] := by
  intro e; subst e
  simp only [isT, hd, tz, Bool.and_eq_true, beq_iff_eq] at h
  exact hk h.1.symm
theorem mayT_ne {L : List Tok} (h : mayT (hd L) = true) : L ≠ [] := by
  intro e; subst e; exact absurd h (by decide)
theorem mayW_ne {L : List Tok} (h : mayW (hd L) = true) : L ≠ [] := by
  intro e; subst e; exact absurd h (by decide)
theorem mayW_T {t : Tok} (h : mayW t = true) : mayT t = true := by unfold mayT; rw [h]; simp

/-! all that is read is a beginning, and something is read -/
theorem need_inv {E : Nat} {k : Int} {s : List UInt8} {L L1 : List Tok} {u : Unit} (hk : k ≠ 0) (h : need E k s L = .ok (u, L1)) : ∃ t, L = t :: L1 ∧ isT k s t = true := by
  unfold need at h
  split at h
  · rename_i hi
    cases L with
    | nil => exact absurd rfl (hd_ne hk hi)
    | cons t L => cases h; exact ⟨t, rfl, hi⟩
  · cases h
theorem term_inv {E : Nat} {L L1 : List Tok} {v : Tm} (h : term E L = .ok (v, L1)) : ∃ t, L = t :: L1 ∧ mayT t = true ∧ v = tm t := by
  unfold term at h
  split at h
  · rename_i hi
    cases L with
    | nil => exact absurd rfl (mayT_ne hi)
    | cons t L => cases h; exact ⟨t, rfl, hi, rfl⟩
  · cases h
theorem word_inv {E : Nat} {L L1 : List Tok} {v : List UInt8} (h : word E L = .ok (v, L1)) : ∃ t, L = t :: L1 ∧ mayW t = true ∧ v = t.text := by
  unfold word at h
  split at h
  · rename_i hi
    cases L with
    | nil => exact absurd rfl (mayW_ne hi)
    | cons t L => cases h; exact ⟨t, rfl, hi, rfl⟩
  · cases h
def Pre (L L1 : List Tok) : Prop := ∃ A, L = A ++ L1
theorem Pre.refl (L : List Tok) : Pre L L := ⟨[], rfl⟩
theorem Pre.trans {A B C : List Tok} (h : Pre A B) (k : Pre B C) : Pre A C := by
  obtain ⟨x, rfl⟩ := h; obtain ⟨y, rfl⟩ := k; exact ⟨x ++ y, by simp⟩
theorem Pre.cons (t : Tok) (L : List Tok) : Pre (t :: L) L := ⟨[t], rfl⟩
theorem Pre.mem {L L1 : List Tok} (h : Pre L L1) {t : Tok} (ht : t ∈ L1) : t ∈ L := by
  obtain ⟨x, rfl⟩ := h; exact List.mem_append_right _ ht
theorem Pre.tail (L : List Tok) : Pre L L.tail := by
  cases L with
  | nil => exact Pre.refl _
  | cons t L => exact Pre.cons t L
theorem need_pre {E : Nat} {k : Int} {s : List UInt8} {L L1 : List Tok} {u : Unit} (hk : k ≠ 0) (h : need E k s L = .ok (u, L1)) : Pre L L1 := by
  obtain ⟨t, rfl, _⟩ := need_inv hk h; exact Pre.cons t L1
theorem term_pre {E : Nat} {L L1 : List Tok} {v : Tm} (h : term E L = .ok (v, L1)) : Pre L L1 := by
  obtain ⟨t, rfl, _⟩ := term_inv h; exact Pre.cons t L1
theorem word_pre {E : Nat} {L L1 : List Tok} {v : List UInt8} (h : word E L = .ok (v, L1)) : Pre L L1 := by
  obtain ⟨t, rfl, _⟩ := word_inv h; exact Pre.cons t L1
theorem args_pre {E : Nat} : ∀ {n : Nat} {L L1 : List Tok} {v : List Tm}, args E n L = .ok (v, L1) → Pre L L1
  | 0, L, L1, v, h => by cases h
  | n + 1, L, L1, v, h => by
    obtain ⟨t, L2, h1, h2⟩ := bnd_inv h
    split at h2
    · obtain ⟨ts, L3, h3, h4⟩ := bnd_inv h2
      cases h4
      exact (term_pre h1).trans ((Pre.tail L2).trans (args_pre h3))
    · cases h2; exact term_pre h1
theorem atom_pre {E : Nat} {L L1 : List Tok} {v : List UInt8 × List Tm} (h : atom E L = .ok (v, L1)) : Pre L L1 := by
  obtain ⟨p, L2, h1, h⟩ := bnd_inv h
  obtain ⟨_, L3, h2, h⟩ := bnd_inv h
  split at h
  · cases h; exact (word_pre h1).trans ((need_pre (by decide) h2).trans (Pre.tail _))
  · obtain ⟨ts, L4, h3, h⟩ := bnd_inv h
    obtain ⟨_, L5, h4, h⟩ := bnd_inv h
    cases h
    exact (word_pre h1).trans ((need_pre (by decide) h2).trans ((args_pre h3).trans (need_pre (by decide) h4)))
theorem opt_pre {E : Nat} {s : List UInt8} {L L1 : List Tok} {v : Tm} (h : opt E s L = .ok (v, L1)) : Pre L L1 := by
  unfold opt at h
  split at h
  · exact (Pre.tail L).trans (term_pre h)
  · cases h; exact Pre.refl _
theorem by_pre {E : Nat} {L L1 : List Tok} {v : Tm} (h : by_ E L = .ok (v, L1)) : Pre L L1 := by
  unfold by_ at h
  split at h
  · obtain ⟨p, L2, h1, h⟩ := bnd_inv h
    obtain ⟨_, L3, h2, h⟩ := bnd_inv h
    cases h
    exact (term_pre h1).trans (need_pre (by decide) h2)
  · cases h; exact Pre.refl _
theorem lit_pre {E : Nat} {L L1 : List Tok} {v : Lt} (h : lit E L = .ok (v, L1)) : Pre L L1 := by
  obtain ⟨b, L2, h1, h⟩ := bnd_inv h
  obtain ⟨p, L3, h2, h⟩ := bnd_inv h
  obtain ⟨a, L4, h3, h⟩ := bnd_inv h
  cases h
  exact (by_pre h1).trans ((atom_pre h2).trans (opt_pre h3))
theorem body_pre {E : Nat} : ∀ {n : Nat} {L L1 : List Tok} {v : List Lt}, body E n L = .ok (v, L1) → Pre L L1
  | 0, L, L1, v, h => by cases h
  | n + 1, L, L1, v, h => by
    obtain ⟨t, L2, h1, h2⟩ := bnd_inv h
    split at h2
    · obtain ⟨ts, L3, h3, h4⟩ := bnd_inv h2
      cases h4
      exact (lit_pre h1).trans ((Pre.tail L2).trans (body_pre h3))
    · cases h2; exact lit_pre h1
theorem rule_inv {E : Nat} {L L1 : List Tok} {r : Ru} (h : rule E L = .ok (r, L1)) : ∃ h0 L2 L3 p L4 t L5 L6 b L7, term E L = .ok (h0, L2) ∧ need E 5 [58] L2 = .ok ((), L3) ∧ atom E L3 = .ok (p, L4) ∧ opt E to L4 = .ok (t, L5) ∧ need E 5 [58, 45] L5 = .ok ((), L6) ∧ body E 4 L6 = .ok (b, L7) ∧ need E 5 [46] L7 = .ok ((), L1) ∧ r = ⟨h0, p.1, p.2, t, b⟩ := by
  obtain ⟨h0, L2, h1, h⟩ := bnd_inv h
  obtain ⟨_, L3, h2, h⟩ := bnd_inv h
  obtain ⟨p, L4, h3, h⟩ := bnd_inv h
  obtain ⟨t, L5, h4, h⟩ := bnd_inv h
  obtain ⟨_, L6, h5, h⟩ := bnd_inv h
  obtain ⟨b, L7, h6, h⟩ := bnd_inv h
  obtain ⟨_, L8, h7, h⟩ := bnd_inv h
  cases h
  exact ⟨h0, L2, L3, p, L4, t, L5, L6, b, L7, h1, h2, h3, h4, h5, h6, h7, rfl⟩
theorem rule_mk {E : Nat} {L L1 L2 L3 L4 L5 L6 L7 : List Tok} {h0 t : Tm} {p : List UInt8 × List Tm} {b : List Lt} (h1 : term E L = .ok (h0, L2)) (h2 : need E 5 [58] L2 = .ok ((), L3)) (h3 : atom E L3 = .ok (p, L4)) (h4 : opt E to L4 = .ok (t, L5)) (h5 : need E 5 [58, 45] L5 = .ok ((), L6)) (h6 : body E 4 L6 = .ok (b, L7)) (h7 : need E 5 [46] L7 = .ok ((), L1)) : rule E L = .ok (⟨h0, p.1, p.2, t, b⟩, L1) := by
  unfold rule
  rw [h1, bnd_ok, h2, bnd_ok, h3, bnd_ok, h4, bnd_ok, h5, bnd_ok, h6, bnd_ok, h7, bnd_ok]
theorem rule_pre {E : Nat} {L L1 : List Tok} {r : Ru} (h : rule E L = .ok (r, L1)) : Pre L L1 := by
  obtain ⟨h0, L2, L3, p, L4, t, L5, L6, b, L7, h1, h2, h3, h4, h5, h6, h7, _⟩ := rule_inv h
  exact (term_pre h1).trans ((need_pre (by decide) h2).trans ((atom_pre h3).trans ((opt_pre h4).trans ((need_pre (by decide) h5).trans ((body_pre h6).trans (need_pre (by decide) h7))))))
theorem rule_begins {E : Nat} {L L1 : List Tok} {r : Ru} (h : rule E L = .ok (r, L1)) : mayT (hd L) = true := by
  obtain ⟨h0, L2, L3, p, L4, t, L5, L6, b, L7, h1, _⟩ := rule_inv h
  obtain ⟨t, rfl, ht, _⟩ := term_inv h1
  exact ht

/-! what is wrong is told at a token, or at the end -/
def Told (E : Nat) (L : List Tok) (e : Nat × Int) : Prop := (e.1 = E ∨ ∃ t ∈ L, t.pl = e.1) ∧ (e.2 = 80 ∨ e.2 = 81)
theorem Told.pre {E : Nat} {L L1 : List Tok} {e : Nat × Int} (h : Told E L1 e) (p : Pre L L1) : Told E L e := by
  obtain ⟨h1 | ⟨t, ht, h1⟩, h2⟩ := h
  · exact ⟨.inl h1, h2⟩
  · exact ⟨.inr ⟨t, p.mem ht, h1⟩, h2⟩
theorem told_bad (E : Nat) (L : List Tok) : Told E L (bad E L) := by
  cases L with
  | nil => exact ⟨.inl rfl, .inl rfl⟩
  | cons t L => exact ⟨.inr ⟨t, by simp, rfl⟩, .inl rfl⟩
theorem told_many (E : Nat) (L : List Tok) : Told E L (many E L) := by
  refine ⟨?_, ?_⟩
  · cases L with
    | nil => exact .inl rfl
    | cons t L => exact .inr ⟨t, by simp, rfl⟩
  · unfold many; split
    · exact .inr rfl
    · exact .inl rfl
theorem need_told {E : Nat} {k : Int} {s : List UInt8} {L : List Tok} {e : Nat × Int} (h : need E k s L = .error e) : Told E L e := by
  unfold need at h
  split at h
  · cases h
  · cases h; exact told_bad E L
theorem term_told {E : Nat} {L : List Tok} {e : Nat × Int} (h : term E L = .error e) : Told E L e := by
  unfold term at h
  split at h
  · cases h
  · cases h; exact told_bad E L
theorem word_told {E : Nat} {L : List Tok} {e : Nat × Int} (h : word E L = .error e) : Told E L e := by
  unfold word at h
  split at h
  · cases h
  · cases h; exact told_bad E L
theorem args_told {E : Nat} : ∀ {n : Nat} {L : List Tok} {e : Nat × Int}, args E n L = .error e → Told E L e
  | 0, L, e, h => by cases h; exact told_many E L
  | n + 1, L, e, h => by
    rcases bnd_bad h with h1 | ⟨t, L2, h1, h2⟩
    · exact term_told h1
    · split at h2
      · rcases bnd_bad h2 with h3 | ⟨ts, L3, h3, h4⟩
        · exact (args_told h3).pre ((term_pre h1).trans (Pre.tail L2))
        · cases h4
      · cases h2
theorem atom_told {E : Nat} {L : List Tok} {e : Nat × Int} (h : atom E L = .error e) : Told E L e := by
  rcases bnd_bad h with h1 | ⟨p, L2, h1, h⟩
  · exact word_told h1
  have q1 := word_pre h1
  rcases bnd_bad h with h2 | ⟨_, L3, h2, h⟩
  · exact (need_told h2).pre q1
  have q2 := q1.trans (need_pre (by decide) h2)
  split at h
  · cases h
  rcases bnd_bad h with h3 | ⟨ts, L4, h3, h⟩
  · exact (args_told h3).pre q2
  rcases bnd_bad h with h4 | ⟨_, L5, h4, h⟩
  · exact (need_told h4).pre (q2.trans (args_pre h3))
  cases h
theorem opt_told {E : Nat} {s : List UInt8} {L : List Tok} {e : Nat × Int} (h : opt E s L = .error e) : Told E L e := by
  unfold opt at h
  split at h
  · exact (term_told h).pre (Pre.tail L)
  · cases h
theorem by_told {E : Nat} {L : List Tok} {e : Nat × Int} (h : by_ E L = .error e) : Told E L e := by
  unfold by_ at h
  split at h
  · rcases bnd_bad h with h1 | ⟨p, L2, h1, h⟩
    · exact term_told h1
    rcases bnd_bad h with h2 | ⟨_, L3, h2, h⟩
    · exact (need_told h2).pre (term_pre h1)
    cases h
  · cases h
theorem lit_told {E : Nat} {L : List Tok} {e : Nat × Int} (h : lit E L = .error e) : Told E L e := by
  rcases bnd_bad h with h1 | ⟨b, L2, h1, h⟩
  · exact by_told h1
  have q1 := by_pre h1
  rcases bnd_bad h with h2 | ⟨p, L3, h2, h⟩
  · exact (atom_told h2).pre q1
  rcases bnd_bad h with h3 | ⟨a, L4, h3, h⟩
  · exact (opt_told h3).pre (q1.trans (atom_pre h2))
  cases h
theorem body_told {E : Nat} : ∀ {n : Nat} {L : List Tok} {e : Nat × Int}, body E n L = .error e → Told E L e
  | 0, L, e, h => by cases h; exact told_many E L
  | n + 1, L, e, h => by
    rcases bnd_bad h with h1 | ⟨t, L2, h1, h2⟩
    · exact lit_told h1
    · split at h2
      · rcases bnd_bad h2 with h3 | ⟨ts, L3, h3, h4⟩
        · exact (body_told h3).pre ((lit_pre h1).trans (Pre.tail L2))
        · cases h4
      · cases h2
theorem rule_told {E : Nat} {L : List Tok} {e : Nat × Int} (h : rule E L = .error e) : Told E L e := by
  rcases bnd_bad h with h1 | ⟨h0, L2, h1, h⟩
  · exact term_told h1
  have q1 := term_pre h1
  rcases bnd_bad h with h2 | ⟨_, L3, h2, h⟩
  · exact (need_told h2).pre q1
  have q2 := q1.trans (need_pre (by decide) h2)
  rcases bnd_bad h with h3 | ⟨p, L4, h3, h⟩
  · exact (atom_told h3).pre q2
  have q3 := q2.trans (atom_pre h3)
  rcases bnd_bad h with h4 | ⟨t, L5, h4, h⟩
  · exact (opt_told h4).pre q3
  have q4 := q3.trans (opt_pre h4)
  rcases bnd_bad h with h5 | ⟨_, L6, h5, h⟩
  · exact (need_told h5).pre q4
  have q5 := q4.trans (need_pre (by decide) h5)
  rcases bnd_bad h with h6 | ⟨b, L7, h6, h⟩
  · exact (body_told h6).pre q5
  rcases bnd_bad h with h7 | ⟨_, L8, h7, h⟩
  · exact (need_told h7).pre (q5.trans (body_pre h6))
  cases h
theorem rules_told {E : Nat} : ∀ {n : Nat} {L : List Tok} {e : Nat × Int}, rules E n L = .error e → Told E L e
  | 0, [], e, h => by cases h
  | 0, t :: L, e, h => by cases h; exact told_many E _
  | n + 1, [], e, h => by cases h
  | n + 1, t :: L, e, h => by
    rw [rules] at h
    unfold rthen at h
    split at h
    · rename_i h1; cases h; exact rule_told h1
    · rename_i r L1 h1
      cases h2 : rules E n L1 with
      | ok l => rw [h2] at h; cases h
      | error x => rw [h2] at h; cases h; exact (rules_told h2).pre (rule_pre h1)
theorem rules_few {E : Nat} : ∀ {n : Nat} {L : List Tok} {l : List Ru}, rules E n L = .ok l → l.length ≤ n
  | 0, [], l, h => by cases h; exact Nat.le_refl _
  | 0, t :: L, l, h => by cases h
  | n + 1, [], l, h => by cases h; exact Nat.zero_le _
  | n + 1, t :: L, l, h => by
    rw [rules] at h
    unfold rthen at h
    split at h
    · cases h
    · rename_i r L1 h1
      cases h2 : rules E n L1 with
      | ok l' =>
        rw [h2] at h; cases h
        have := rules_few h2
        simp only [List.length_cons]; omega
      | error x => rw [h2] at h; cases h
theorem prog_told {l : List UInt8} {L : List Tok} {p : Nat} {e : Int} (ha : ans l = .ok L) (h : prog l = .error (p, e)) : (p = l.length ∨ ∃ t ∈ L, t.pl = p) ∧ (e = 80 ∨ e = 81) := by
  unfold prog at h; rw [ha] at h
  exact rules_told h
theorem prog_few {l : List UInt8} {r : List Ru} (h : prog l = .ok r) : r.length ≤ 16 := by
  unfold prog at h
  split at h
  · cases h
  · exact rules_few h

end Ps
end Go.Proofs.YtcncmpgababfjaaDoor
