/-
  The mathematics of layer 10: how many variables a rule has at most. No program in this text.
-/
import Derived.ProofKit
import Derived.Test.YtcncmpgababfjaaDoorQMc
import Derived.Test.YtcncmpgababfjaaDoorQSn
namespace Go.Proofs.YtcncmpgababfjaaDoor
namespace Ck
/-- a rule whose variables lie within reach, of which there are few -/
structure Vok (r : Ru) : Prop where
  home : r.home.v.length ≤ maxLen
  body : ∀ y ∈ r.body, y.by_.v.length ≤ maxLen ∧ (∀ t ∈ y.args, t.v.length ≤ maxLen) ∧ y.at_.v.length ≤ maxLen
  few : r.body.length ≤ 300
  each : ∀ y ∈ r.body, y.args.length ≤ 300
theorem wv_len (L : List Tx) (t : Tm) : (wv L t).length ≤ L.length + 1 := by
  unfold wv; split
  · omega
  · simp
theorem fold_len : ∀ (ts : List Tm) (L : List Tx), (ts.foldl wv L).length ≤ L.length + ts.length
  | [], L => by simp
  | t :: r, L => by
    have h1 := wv_len L t
    have h2 := fold_len r (wv L t)
    rw [List.foldl_cons, List.length_cons]; omega
theorem wl_len (L : List Tx) (y : Lt) : (wl L y).length ≤ L.length + y.args.length + 2 := by
  unfold wl
  have h1 := wv_len L y.by_
  have h2 := fold_len y.args (wv L y.by_)
  have h3 := wv_len (y.args.foldl wv (wv L y.by_)) y.at_
  omega
theorem bnd_len {r : Ru} (h : Vok r) : ∀ k : Nat, (bnd r k).length ≤ 1 + 302 * k
  | 0 => by
    have := wv_len [] r.home
    simp only [bnd, List.take_zero, List.foldl_nil, List.length_nil] at this ⊢; omega
  | k + 1 => by
    have ih := bnd_len h k
    by_cases hk : k < r.body.length
    · rw [bnd_succ hk]
      have h1 := wl_len (bnd r k) r.body[k]
      have h2 := h.each _ (List.getElem_mem hk)
      omega
    · rw [bnd_all (by omega), ← bnd_all (k := k) (by omega)]; omega
theorem bnd_min (r : Ru) (k : Nat) : bnd r (min k r.body.length) = bnd r k := by
  rcases Nat.le_total k r.body.length with h | h
  · rw [Nat.min_eq_left h]
  · rw [Nat.min_eq_right h, bnd_all h, bnd_all (Nat.le_refl _)]
theorem bnd_all_len {r : Ru} (h : Vok r) (k : Nat) : (bnd r k).length ≤ 100000 := by
  rw [← bnd_min]
  have h1 := bnd_len h (min k r.body.length)
  have h2 := h.few
  have : min k r.body.length ≤ 300 := Nat.le_trans (Nat.min_le_right ..) h2
  omega
end Ck
end Go.Proofs.YtcncmpgababfjaaDoor

/-
  The mathematics of layer 10: a rule's variables, which programs may be run, and what is wrong first. No program in this text.
-/
namespace Go.Proofs.YtcncmpgababfjaaDoor
namespace Ck

def num (t : Tm) : Bool := t.v.isEmpty && t.k.num
/-- the first literal of which something holds; its number is told -/
def first (f : Nat → Lt → Bool) : Nat → List Lt → Option Int
  | _, [] => none
  | i, y :: r => if f i y = true then some (i : Int) else first f (i + 1) r
def places (r : Ru) : Option Int := if (num r.home || num r.to_) = true then some (-1) else first (fun _ y => num y.by_ || num y.at_) 0 r.body
abbrev Seen := List (Tx × Nat)
def odd (s : Seen) (p : Tx) (n : Nat) : Seen × Bool := match s.find? (fun x => x.1 == p) with | some x => (s, x.2 != n) | none => (s ++ [(p, n)], false)
def aritL : Seen → Nat → List Lt → Seen × Option Int
  | s, _, [] => (s, none)
  | s, i, y :: r => if (odd s y.pred y.args.length).2 = true then ((odd s y.pred y.args.length).1, some (i : Int)) else aritL (odd s y.pred y.args.length).1 (i + 1) r
def arit (s : Seen) (r : Ru) : Seen × Option Int := if (odd s r.pred r.args.length).2 = true then ((odd s r.pred r.args.length).1, some (-1)) else aritL (odd s r.pred r.args.length).1 0 r.body
def isFree (r : Ru) (i : Nat) (y : Lt) : Bool := !y.at_.v.isEmpty && !(bnd r i).contains y.at_.v
def free (r : Ru) : Option Int := first (isFree r) 0 r.body
def outV (l : List Tx) (t : Tm) : Bool := !t.v.isEmpty && !l.contains t.v
def opn (r : Ru) : Bool := outV (vars r) r.to_ || r.args.any (outV (vars r))
/-- of one rule: what is wrong first, or what was seen -/
def one (s : Seen) (r : Ru) : Except (Int × Int) Seen :=
  if (Sh.ruleS r).isSome = false then .error (100, -1) else
  match places r with
  | some k => .error (101, k)
  | none => match (arit s r).2 with
    | some k => .error (102, k)
    | none => match free r with
      | some k => .error (103, k)
      | none => if opn r = true then .error (104, -1) else .ok (arit s r).1
def go : Nat → Seen → List Ru → Int × Int × Int
  | _, _, [] => (0, -1, -1)
  | i, s, r :: l => match one s r with
    | .error x => (x.1, (i : Int), x.2)
    | .ok s' => go (i + 1) s' l
def prog (l : List Ru) : Int × Int × Int := if 16 < l.length then (81, -1, -1) else go 0 [] l

/-! what is seen -/
def Fn (s : Seen) : Prop := ∀ x ∈ s, ∀ y ∈ s, x.1 = y.1 → x.2 = y.2
theorem find_some {s : Seen} {p : Tx} {x : Tx × Nat} (h : s.find? (fun x => x.1 == p) = some x) : x ∈ s ∧ x.1 = p := ⟨List.mem_of_find?_eq_some h, by simpa using List.find?_some h⟩
theorem find_none {s : Seen} {p : Tx} (h : s.find? (fun x => x.1 == p) = none) : ∀ x ∈ s, x.1 ≠ p := fun x hx he => by
  have := List.find?_eq_none.1 h x hx
  simp [he] at this
/-- not odd: what is seen is a function still, has the pair, and nothing but it and what was there -/
theorem odd_ok {s : Seen} {p : Tx} {n : Nat} (hf : Fn s) (h : (odd s p n).2 = false) : Fn (odd s p n).1 ∧ (p, n) ∈ (odd s p n).1 ∧ (∀ x ∈ s, x ∈ (odd s p n).1) ∧ ∀ x ∈ (odd s p n).1, x ∈ s ∨ x = (p, n) := by
  unfold odd at *
  cases hx : s.find? (fun x => x.1 == p) with
  | some x =>
    rw [hx] at h
    simp only at h ⊢
    obtain ⟨h1, h2⟩ := find_some hx
    have h3 : x.2 = n := by simpa using h
    refine ⟨hf, ?_, fun _ h => h, fun _ h => .inl h⟩
    have : x = (p, n) := by rw [← h2, ← h3]
    rw [← this]; exact h1
  | none =>
    simp only
    have hn := find_none hx
    refine ⟨fun a ha b hb he => ?_, by simp, fun x hx => by simp [hx], fun x hx => by simpa using hx⟩
    rcases List.mem_append.1 ha with ha | ha <;> rcases List.mem_append.1 hb with hb | hb
    · exact hf a ha b hb he
    · rw [List.mem_singleton] at hb; subst hb; exact absurd he (hn a ha)
    · rw [List.mem_singleton] at ha; subst ha; exact absurd he.symm (hn b hb)
    · rw [List.mem_singleton] at ha hb; rw [ha, hb]
theorem odd_fit {s : Seen} {p : Tx} {n : Nat} (h : ∀ x ∈ s, x.1 = p → x.2 = n) : (odd s p n).2 = false := by
  unfold odd
  cases hx : s.find? (fun x => x.1 == p) with
  | some x =>
    obtain ⟨h1, h2⟩ := find_some hx
    simp [h x h1 h2]
  | none => rfl

/-- the predicates of a rule with how many arguments they have -/
def pairsL (l : List Lt) : Seen := l.map fun y => (y.pred, y.args.length)
def pairs (r : Ru) : Seen := (r.pred, r.args.length) :: pairsL r.body
/-- what is seen fits a set of pairs -/
structure Fits (s : Seen) (L : Seen) : Prop where
  fn : Fn L
  sub : ∀ x ∈ s, x ∈ L
theorem aritL_ok : ∀ {s : Seen} {i : Nat} {l : List Lt}, Fn s → (aritL s i l).2 = none → Fn (aritL s i l).1 ∧ (∀ x ∈ s, x ∈ (aritL s i l).1) ∧ (∀ x ∈ pairsL l, x ∈ (aritL s i l).1)
  | s, i, [], hf, _ => ⟨hf, fun _ h => h, fun x h => by simp [pairsL] at h⟩
  | s, i, y :: r, hf, h => by
    rw [aritL] at h ⊢
    split at h
    · cases h
    · rename_i h0
      rw [if_neg h0]
      have h1 := odd_ok hf (by simpa using h0)
      have h2 := aritL_ok h1.1 h
      refine ⟨h2.1, fun x hx => h2.2.1 x (h1.2.2.1 x hx), fun x hx => ?_⟩
      rcases List.mem_cons.1 hx with rfl | hx
      · exact h2.2.1 _ h1.2.1
      · exact h2.2.2 x hx
theorem arit_ok {s : Seen} {r : Ru} (hf : Fn s) (h : (arit s r).2 = none) : Fn (arit s r).1 ∧ (∀ x ∈ s, x ∈ (arit s r).1) ∧ ∀ x ∈ pairs r, x ∈ (arit s r).1 := by
  unfold arit at *
  split at h
  · cases h
  · rename_i h0
    rw [if_neg h0]
    have h1 := odd_ok hf (by simpa using h0)
    have h2 := aritL_ok h1.1 h
    refine ⟨h2.1, fun x hx => h2.2.1 x (h1.2.2.1 x hx), fun x hx => ?_⟩
    rcases List.mem_cons.1 hx with rfl | hx
    · exact h2.2.1 _ h1.2.1
    · exact h2.2.2 x hx
theorem odd_fits {s L : Seen} {p : Tx} {n : Nat} (hs : Fits s L) (hp : (p, n) ∈ L) : (odd s p n).2 = false ∧ Fits (odd s p n).1 L := by
  have h0 := odd_fit (s := s) (p := p) (n := n) fun x hx he => hs.fn x (hs.sub x hx) (p, n) hp he
  have hf : Fn s := fun x hx y hy => hs.fn x (hs.sub x hx) y (hs.sub y hy)
  have h1 := odd_ok hf h0
  exact ⟨h0, hs.fn, fun x hx => (h1.2.2.2 x hx).elim (hs.sub x) (fun h => by rw [h]; exact hp)⟩
theorem aritL_fits : ∀ {s L : Seen} {i : Nat} {l : List Lt}, Fits s L → (∀ x ∈ pairsL l, x ∈ L) → (aritL s i l).2 = none ∧ Fits (aritL s i l).1 L
  | s, L, i, [], hs, _ => ⟨rfl, hs⟩
  | s, L, i, y :: r, hs, hp => by
    have h1 := odd_fits hs (hp _ (List.mem_cons_self ..))
    rw [aritL, if_neg (by rw [h1.1]; decide)]
    exact aritL_fits h1.2 fun x hx => hp x (List.mem_cons_of_mem _ hx)
theorem arit_fits {s L : Seen} {r : Ru} (hs : Fits s L) (hp : ∀ x ∈ pairs r, x ∈ L) : (arit s r).2 = none ∧ Fits (arit s r).1 L := by
  have h1 := odd_fits hs (hp _ (List.mem_cons_self ..))
  unfold arit
  rw [if_neg (by rw [h1.1]; decide)]
  exact aritL_fits h1.2 fun x hx => hp x (List.mem_cons_of_mem _ hx)

/-- a rule in which nothing is wrong but perhaps how many arguments its predicates have -/
structure Well (r : Ru) : Prop where
  shape : (Sh.ruleS r).isSome = true
  places : places r = none
  free : free r = none
  opn : opn r = false
theorem one_ok {s s' : Seen} {r : Ru} (h : one s r = .ok s') : Well r ∧ (arit s r).2 = none ∧ s' = (arit s r).1 := by
  unfold one at h
  split at h
  · cases h
  · rename_i h1
    split at h
    · cases h
    · rename_i h2
      split at h
      · cases h
      · rename_i h3
        split at h
        · cases h
        · rename_i h4
          split at h
          · cases h
          · rename_i h5
            cases h
            exact ⟨⟨Bool.of_not_eq_false h1, h2, h4, by simpa using h5⟩, h3, rfl⟩
theorem one_well {s : Seen} {r : Ru} (h : Well r) (ha : (arit s r).2 = none) : one s r = .ok (arit s r).1 := by
  unfold one
  rw [if_neg (by rw [h.shape]; decide), h.places]
  simp only [ha, h.free]
  rw [if_neg (by rw [h.opn]; decide)]
theorem one_err {s : Seen} {r : Ru} {x : Int × Int} (h : one s r = .error x) : x.1 ≠ 0 := by
  unfold one at h
  split at h
  · cases h; simp
  · split at h
    · cases h; simp
    · split at h
      · cases h; simp
      · split at h
        · cases h; simp
        · split at h
          · cases h; simp
          · cases h
theorem go_ok : ∀ {i : Nat} {s : Seen} {l : List Ru}, Fn s → (go i s l).1 = 0 → (∀ r ∈ l, Well r) ∧ ∃ L, Fits s L ∧ ∀ r ∈ l, ∀ x ∈ pairs r, x ∈ L
  | i, s, [], hf, _ => ⟨fun r h => by simp at h, s, ⟨hf, fun _ h => h⟩, fun r h => by simp at h⟩
  | i, s, r :: l, hf, h => by
    rw [go] at h
    cases ho : one s r with
    | error x => rw [ho] at h; exact absurd h (one_err ho)
    | ok s' =>
      rw [ho] at h
      obtain ⟨hw, ha, rfl⟩ := one_ok ho
      have h1 := arit_ok hf ha
      obtain ⟨h2, L, h3, h4⟩ := go_ok h1.1 h
      refine ⟨fun u hu => ?_, L, ⟨h3.fn, fun x hx => h3.sub x (h1.2.1 x hx)⟩, fun u hu x hx => ?_⟩
      · rcases List.mem_cons.1 hu with rfl | hu
        · exact hw
        · exact h2 u hu
      · rcases List.mem_cons.1 hu with rfl | hu
        · exact h3.sub x (h1.2.2 x hx)
        · exact h4 u hu x hx
theorem go_fits : ∀ {i : Nat} {s L : Seen} {l : List Ru}, Fits s L → (∀ r ∈ l, Well r) → (∀ r ∈ l, ∀ x ∈ pairs r, x ∈ L) → go i s l = (0, -1, -1)
  | i, s, L, [], _, _, _ => rfl
  | i, s, L, r :: l, hs, hw, hp => by
    have h1 := arit_fits hs (hp r (List.mem_cons_self ..))
    rw [go, one_well (hw r (List.mem_cons_self ..)) h1.1]
    exact go_fits h1.2 (fun u hu => hw u (List.mem_cons_of_mem _ hu)) fun u hu => hp u (List.mem_cons_of_mem _ hu)
theorem prog_ok {l : List Ru} (h : (prog l).1 = 0) : l.length ≤ 16 ∧ (∀ r ∈ l, Well r) ∧ ∃ L, Fits [] L ∧ ∀ r ∈ l, ∀ x ∈ pairs r, x ∈ L := by
  unfold prog at h
  split at h
  · cases h
  · rename_i h16
    exact ⟨by omega, go_ok (fun x hx => by simp at hx) h⟩
/-- P10.4: rules of a program that may be run, some left out, may be run -/
theorem prog_some {l m : List Ru} (h : (prog l).1 = 0) (hl : m.length ≤ l.length) (hm : ∀ r ∈ m, r ∈ l) : prog m = (0, -1, -1) := by
  obtain ⟨h1, h2, L, h3, h4⟩ := prog_ok h
  unfold prog
  rw [if_neg (by omega)]
  exact go_fits h3 (fun r hr => h2 r (hm r hr)) fun r hr => h4 r (hm r hr)

theorem first_none {f : Nat → Lt → Bool} : ∀ {i : Nat} {l : List Lt}, first f i l = none → ∀ k (h : k < l.length), f (i + k) l[k] = false
  | i, [], _, k, h => by simp at h
  | i, y :: r, hn, k, h => by
    rw [first] at hn
    split at hn
    · cases hn
    · rename_i h0
      match k with
      | 0 => simpa using h0
      | k + 1 =>
        have := first_none hn k (by simpa using h)
        rw [show i + 1 + k = i + (k + 1) by omega] at this
        simpa using this
theorem well_at {r : Ru} (h : Well r) {k : Nat} (hk : k < r.body.length) (hv : r.body[k].at_.v ≠ []) : r.body[k].at_.v ∈ bnd r k := by
  have := first_none h.free k hk
  rw [Nat.zero_add] at this
  unfold isFree at this
  simp only [Bool.and_eq_false_iff, Bool.not_eq_false'] at this
  rcases this with h1 | h1
  · exact absurd (by simpa using h1) hv
  · simpa using h1
theorem well_arg {r : Ru} (h : Well r) {t : Tm} (ht : t ∈ r.args) (hv : t.v ≠ []) : t.v ∈ vars r := by
  have := h.opn
  unfold opn at this
  rw [Bool.or_eq_false_iff, List.any_eq_false] at this
  have h1 := this.2 t ht
  unfold outV at h1
  simp only [Bool.and_eq_true, Bool.not_eq_true', not_and, Bool.not_eq_false] at h1
  have := h1 (by simpa using hv)
  simpa using this
end Ck
end Go.Proofs.YtcncmpgababfjaaDoor

/-
  The mathematics of layer 10: a rule's places searched one by one, the head as a literal. No program in this text.
-/
namespace Go.Proofs.YtcncmpgababfjaaDoor
namespace Ck

abbrev Fd := Seen → Int → Lt → Bool × Seen
def srL (f : Fd) : Seen → Nat → List Lt → Seen × Option Int
  | s, _, [] => (s, none)
  | s, i, y :: r => if (f s (i : Int) y).1 = true then ((f s (i : Int) y).2, some (i : Int)) else srL f (f s (i : Int) y).2 (i + 1) r
def hdL (r : Ru) : Lt := ⟨r.home, r.pred, r.args, r.to_⟩
def srch (f : Fd) (s : Seen) (r : Ru) : Seen × Option Int :=
  if (f s (-1) (hdL r)).1 = true then ((f s (-1) (hdL r)).2, some (-1)) else srL f (f s (-1) (hdL r)).2 0 r.body

def fN : Fd := fun s _ y => (y.by_.k.num || y.at_.k.num, s)
def fA : Fd := fun s _ y => ((odd s y.pred y.args.length).2, (odd s y.pred y.args.length).1)
def fF (r : Ru) : Fd := fun s k y => ((k != -1) && outV (bnd r k.toNat) y.at_, s)
def fR (r : Ru) : Fd := fun s k y => ((k == -1) && (outV (vars r) y.at_ || y.args.any (outV (vars r))), s)

theorem srL_keep {f : Fd} {g : Nat → Lt → Bool} {s : Seen} : ∀ {i : Nat} {l : List Lt}, (∀ k : Nat, ∀ y ∈ l, f s (k : Int) y = (g k y, s)) → srL f s i l = (s, first g i l)
  | i, [], _ => rfl
  | i, y :: r, h => by
    rw [srL, first, h i y (List.mem_cons_self ..)]
    simp only
    by_cases hg : g i y = true
    · rw [if_pos hg, if_pos hg]
    · rw [if_neg hg, if_neg hg]
      exact srL_keep fun k z hz => h k z (List.mem_cons_of_mem _ hz)
theorem first_false {g : Nat → Lt → Bool} (h : ∀ k y, g k y = false) : ∀ {i : Nat} {l : List Lt}, first g i l = none
  | i, [] => rfl
  | i, y :: r => by rw [first, if_neg (by rw [h]; decide)]; exact first_false h
theorem termS_num {t : Tm} (h : Sh.canT t = true) : t.k.num = num t := by
  unfold num
  unfold Sh.canT Sh.termS at h
  split at h
  · rename_i hv
    split at h
    · rename_i hz
      simp only [Sh.zk, Bool.and_eq_true, Bool.not_eq_true'] at hz
      rw [hz.1.1.1]; simp
    · cases h
  · rename_i hv
    have : t.v = [] := by simpa using hv
    rw [this]; simp
theorem maybeS_num {t : Tm} (h : Sh.canM t = true) : t.k.num = num t := by
  unfold Sh.canM at h
  rw [Bool.or_eq_true] at h
  rcases h with h | h
  · simp only [Sh.noneT, Sh.zk, Bool.and_eq_true, Bool.not_eq_true'] at h
    unfold num
    rw [h.2.1.1]; simp
  · exact termS_num h
theorem srch_N {s : Seen} {r : Ru} (h : (Sh.ruleS r).isSome = true) : srch fN s r = (s, places r) := by
  rw [Sh.rule_some] at h
  simp only [Sh.canR, Bool.and_eq_true, List.all_eq_true] at h
  obtain ⟨⟨⟨⟨⟨h1, h2⟩, h3⟩, _⟩, _⟩, h4⟩ := h
  unfold srch places
  rw [show fN s (-1) (hdL r) = ((num r.home || num r.to_), s) by unfold fN hdL; rw [termS_num h1, maybeS_num h3]]
  simp only
  split
  · rfl
  · refine srL_keep fun k y hy => ?_
    have := h4 y hy
    simp only [Sh.canL, Bool.and_eq_true] at this
    unfold fN
    rw [maybeS_num this.1.1, maybeS_num this.2]
theorem srL_A : ∀ {s : Seen} {i : Nat} {l : List Lt}, srL fA s i l = aritL s i l
  | s, i, [] => rfl
  | s, i, y :: r => by
    rw [srL, aritL]
    unfold fA
    simp only
    split
    · rfl
    · exact srL_A
theorem srch_A {s : Seen} {r : Ru} : srch fA s r = arit s r := by
  unfold srch arit
  rw [show fA s (-1) (hdL r) = ((odd s r.pred r.args.length).2, (odd s r.pred r.args.length).1) from rfl]
  simp only
  split
  · rfl
  · exact srL_A
theorem srch_F {s : Seen} {r : Ru} : srch (fF r) s r = (s, free r) := by
  unfold srch free
  rw [show fF r s (-1) (hdL r) = (false, s) from rfl]
  simp only
  rw [if_neg (by decide)]
  refine srL_keep fun k y _ => ?_
  unfold fF isFree outV
  rw [show (((k : Int) != -1) = true) by rw [bne_iff_ne]; omega, Bool.true_and, Int.toNat_natCast]
theorem srch_R {s : Seen} {r : Ru} : srch (fR r) s r = (s, if opn r = true then some (-1) else none) := by
  unfold srch
  rw [show fR r s (-1) (hdL r) = (opn r, s) by unfold fR opn hdL; simp]
  simp only
  split
  · rfl
  · rw [srL_keep (g := fun _ _ => false) fun k y _ => ?_, first_false fun _ _ => rfl]
    unfold fR
    rw [show (((k : Int) == -1) = false) by rw [beq_eq_false_iff_ne]; omega, Bool.false_and]
/-- of one rule, by four searches -/
theorem one_srch (s : Seen) (r : Ru) : one s r =
    if (Sh.ruleS r).isSome = false then .error (100, -1) else
    match (srch fN s r).2 with
    | some k => .error (101, k)
    | none => match (srch fA s r).2 with
      | some k => .error (102, k)
      | none => match (srch (fF r) (srch fA s r).1 r).2 with
        | some k => .error (103, k)
        | none => match (srch (fR r) (srch fA s r).1 r).2 with
          | some k => .error (104, k)
          | none => .ok (srch fA s r).1 := by
  unfold one
  split
  · rfl
  · rename_i h
    rw [srch_N (Bool.of_not_eq_false h), srch_A, srch_F, srch_R]
    cases places r with
    | some k => rfl
    | none =>
      cases (arit s r).2 with
      | some k => rfl
      | none =>
        cases free r with
        | some k => rfl
        | none => simp only; split <;> simp_all
end Ck
end Go.Proofs.YtcncmpgababfjaaDoor

/-
  The mathematics of layer 10: a rule that can be shown. No program in this text.
-/
namespace Go.Proofs.YtcncmpgababfjaaDoor
namespace Ck
/-- what can be shown has small variables -/
theorem can_small {t : Tm} (h : Sh.canT t = true) : t.v.length ≤ 32 := by
  unfold Sh.canT Sh.termS at h
  split at h
  · split at h
    · rename_i hz
      simp only [Bool.and_eq_true] at hz
      have := hz.2
      simp only [Sh.namedB, Bool.and_eq_true, decide_eq_true_eq] at this
      exact this.1.1.2
    · cases h
  · rename_i hv
    have : t.v = [] := by simpa using hv
    rw [this]; simp
theorem canM_small {t : Tm} (h : Sh.canM t = true) : t.v.length ≤ 32 := by
  unfold Sh.canM at h
  rw [Bool.or_eq_true] at h
  rcases h with h | h
  · simp only [Sh.noneT, Bool.and_eq_true, List.isEmpty_iff] at h
    rw [h.1]; simp
  · exact can_small h
theorem word_small {p : Tx} (h : Sh.wordB p = true) : p.length ≤ 32 := by
  simp only [Sh.wordB, Sh.namedB, Bool.and_eq_true, decide_eq_true_eq] at h
  exact h.1.1.1.2
/-- an atom with a short name and few arguments -/
structure Small (y : Lt) : Prop where
  pred : y.pred.length ≤ 32
  args : y.args.length ≤ 4
structure Shown (r : Ru) : Prop where
  ok : Vok r
  head : Small (hdL r)
  body : ∀ y ∈ r.body, Small y
  few : r.body.length ≤ 4
theorem shown {r : Ru} (h : (Sh.ruleS r).isSome = true) : Shown r := by
  rw [Sh.rule_some] at h
  simp only [Sh.canR, Bool.and_eq_true, List.all_eq_true, decide_eq_true_eq] at h
  obtain ⟨⟨⟨⟨⟨h1, h2⟩, h3⟩, _⟩, h5⟩, h4⟩ := h
  have hm : (32 : Nat) ≤ maxLen := by decide
  have ha : ∀ {p : Tx} {ts : List Tm}, Sh.canA p ts = true → p.length ≤ 32 ∧ ts.length ≤ 4 ∧ ∀ t ∈ ts, t.v.length ≤ 32 := fun h => by
    simp only [Sh.canA, Bool.and_eq_true, List.all_eq_true, decide_eq_true_eq] at h
    exact ⟨word_small h.1.1, h.1.2, fun t ht => can_small (h.2 t ht)⟩
  have hl : ∀ y ∈ r.body, y.by_.v.length ≤ 32 ∧ (y.pred.length ≤ 32 ∧ y.args.length ≤ 4 ∧ ∀ t ∈ y.args, t.v.length ≤ 32) ∧ y.at_.v.length ≤ 32 := fun y hy => by
    have := h4 y hy
    simp only [Sh.canL, Bool.and_eq_true] at this
    exact ⟨canM_small this.1.1, ha this.1.2, canM_small this.2⟩
  refine ⟨⟨Nat.le_trans (can_small h1) hm, fun y hy => ?_, by omega, fun y hy => ?_⟩, ⟨(ha h2).1, (ha h2).2.1⟩, fun y hy => ⟨(hl y hy).2.1.1, (hl y hy).2.1.2.1⟩, h5⟩
  · obtain ⟨a, b, c⟩ := hl y hy
    exact ⟨Nat.le_trans a hm, fun t ht => Nat.le_trans (b.2.2 t ht) hm, Nat.le_trans c hm⟩
  · have := (hl y hy).2.1.2.1; omega
end Ck
end Go.Proofs.YtcncmpgababfjaaDoor
