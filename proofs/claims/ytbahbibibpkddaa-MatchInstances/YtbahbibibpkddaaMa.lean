/-
  The mathematics of layer 11: values of terms, literals matched with facts, heads and bodies of rules, what follows. No program in this text.
-/
import Derived.Test.YtbahbibibpkddaaKt
namespace Go.Proofs.Ytbahbibibpkddaa
namespace Mt

abbrev Tx := List UInt8
/-- bindings, in the order in which they were made -/
abbrev Env := List (Tx × K)
def eqK (a b : K) : Bool := (a.num == b.num) && ((a.n == b.n) && (a.s == b.s))
theorem eqK_iff (a b : K) : eqK a b = true ↔ a = b := by
  obtain ⟨x, y, z⟩ := a; obtain ⟨x', y', z'⟩ := b
  simp [eqK]
theorem eqK_self (a : K) : eqK a a = true := (eqK_iff a a).2 rfl
theorem eqK_no {a b : K} (h : a ≠ b) : eqK a b = false := by
  rw [Bool.eq_false_iff]; exact fun h' => h ((eqK_iff a b).1 h')
/-- a term that is none -/
def nul (t : Tm) : Bool := t.v.isEmpty && (!t.k.num && decide (t.k.n = 0) && t.k.s.isEmpty)
def get (v : Tx) (e : Env) : Option K := (e.find? (fun b => b.1 == v)).map (·.2)
def val (t : Tm) (e : Env) : Option K := if nul t = true then none else if t.v = [] then some t.k else get t.v e
def uni (t : Tm) (c : K) (e : Env) : Option Env :=
  match val t e with
  | some v => if eqK v c = true then some e else none
  | none => if nul t = true then none else some (e ++ [(t.v, c)])
def nm (s : Tx) : K := ⟨false, 0, s⟩
def unis : List Tm → List K → Env → Option Env
  | [], [], e => some e
  | t :: ts, c :: cs, e => (uni t c e).bind fun e1 => unis ts cs e1
  | _, _, _ => none
def by1 (l : Lt) (f : F) (e : Env) : Option Env := if nul l.by_ = true then (if f.by_ = f.at_ then some e else none) else uni l.by_ (nm f.by_) e
def place (home : Tm) (t : Tm) : Tm := if nul t = true then home else t
def lit (home : Tm) (l : Lt) (f : F) (e : Env) : Option Env :=
  if l.pred = f.pred ∧ l.args.length = f.ks.length then (uni (place home l.at_) (nm f.at_) e).bind fun e1 => (by1 l f e1).bind fun e2 => unis l.args f.ks e2 else none
def name (t : Tm) (e : Env) : Option Tx := (val t e).bind fun c => if eqK c (nm c.s) = true then some c.s else none
def vals (e : Env) : List Tm → Option (List K)
  | [] => some []
  | t :: ts => (val t e).bind fun c => (vals e ts).map fun cs => c :: cs
/-- the fact of an atom, by its place and by who says it -/
def fact (at_ by_ : Tm) (pred : Tx) (args : List Tm) (e : Env) : Option F := (name at_ e).bind fun a => (name by_ e).bind fun b => (vals e args).map fun ks => ⟨a, b, pred, ks⟩
def head (r : Ru) (e : Env) : Option F := fact (place r.home r.to_) r.home r.pred r.args e
def bodyF (home : Tm) (l : Lt) (e : Env) : Option F := fact (place home l.at_) (place (place home l.at_) l.by_) l.pred l.args e
def body (home : Tm) (e : Env) : List Lt → Option (List F)
  | [] => some []
  | l :: ls => (bodyF home l e).bind fun f => (body home e ls).map fun fs => f :: fs
def lits (home : Tm) : List Lt → List F → Env → Option Env
  | [], [], e => some e
  | l :: ls, f :: fs, e => (lit home l f e).bind fun e1 => lits home ls fs e1
  | _, _, _ => none
/-- what Follows tells -/
def Fol (r : Ru) (h : F) (b : List F) : Prop := ∃ e1 e2, uni r.home (nm h.by_) [] = some e1 ∧ lits r.home r.body b e1 = some e2 ∧ head r e2 = some h

/-! bindings that grow -/
theorem get_ext {v : Tx} {e : Env} {c : K} (h : get v e = some c) (m : Env) : get v (e ++ m) = some c := by
  unfold get at *
  rw [List.find?_append]
  cases hx : e.find? (fun b => b.1 == v) with
  | none => rw [hx] at h; cases h
  | some b => rw [hx] at h; exact h
theorem val_ext {t : Tm} {e : Env} {c : K} (h : val t e = some c) (m : Env) : val t (e ++ m) = some c := by
  unfold val at *
  split at h
  · cases h
  · rename_i h1
    rw [if_neg h1]
    split at h
    · rename_i h2; rw [if_pos h2]; exact h
    · rename_i h2; rw [if_neg h2]; exact get_ext h m
theorem get_new {v : Tx} {e : Env} {c : K} (h : get v e = none) : get v (e ++ [(v, c)]) = some c := by
  unfold get at *
  rw [List.find?_append]
  cases hx : e.find? (fun b => b.1 == v) with
  | some b => rw [hx] at h; cases h
  | none => simp
/-- what is bound already -/
theorem uni_fix {t : Tm} {c : K} {e : Env} (h : val t e = some c) : uni t c e = some e := by
  unfold uni; rw [h]; simp only; rw [if_pos (eqK_self c)]
theorem uni_val {t : Tm} {c : K} {e e' : Env} (h : uni t c e = some e') : val t e' = some c ∧ ∃ m, e' = e ++ m := by
  unfold uni at h
  cases hv : val t e with
  | some v =>
    rw [hv] at h
    simp only at h
    split at h
    · rename_i hk; cases h
      exact ⟨by rw [hv, (eqK_iff v c).1 hk], [], by simp⟩
    · cases h
  | none =>
    rw [hv] at h
    simp only at h
    split at h
    · cases h
    · rename_i hn
      cases h
      refine ⟨?_, _, rfl⟩
      unfold val at hv ⊢
      rw [if_neg hn] at hv ⊢
      split at hv
      · cases hv
      · rename_i h2; rw [if_neg h2]; exact get_new hv
theorem uni_only {t : Tm} {c d : K} {e e' : Env} (h : val t e = some c) (hu : uni t d e = some e') : c = d ∧ e' = e := by
  unfold uni at hu; rw [h] at hu; simp only at hu
  split at hu
  · rename_i hk; cases hu; exact ⟨(eqK_iff c d).1 hk, rfl⟩
  · cases hu
theorem nm_inj {a b : Tx} (h : nm a = nm b) : a = b := by
  unfold nm at h; injection h

theorem unis_val : ∀ {ts : List Tm} {cs : List K} {e e' : Env}, unis ts cs e = some e' → (∃ m, e' = e ++ m) ∧ ts.length = cs.length ∧ ∀ i (h1 : i < ts.length) (h2 : i < cs.length), val ts[i] e' = some cs[i]
  | [], [], e, e', h => by cases h; exact ⟨⟨[], by simp⟩, rfl, fun i h => by simp at h⟩
  | t :: ts, c :: cs, e, e', h => by
    rw [unis] at h
    obtain ⟨e1, h1, h2⟩ := Option.bind_eq_some_iff.1 h
    obtain ⟨hv, m, rfl⟩ := uni_val h1
    obtain ⟨⟨m', rfl⟩, hl, hi⟩ := unis_val h2
    refine ⟨⟨m ++ m', by simp⟩, by simp [hl], fun i q1 q2 => ?_⟩
    match i with
    | 0 => exact val_ext hv m'
    | i + 1 => exact hi i (by simpa using q1) (by simpa using q2)
  | [], c :: cs, e, e', h => by cases h
  | t :: ts, [], e, e', h => by cases h
theorem unis_fix : ∀ {ts : List Tm} {cs : List K} {e : Env}, ts.length = cs.length → (∀ i (h1 : i < ts.length) (h2 : i < cs.length), val ts[i] e = some cs[i]) → unis ts cs e = some e
  | [], [], e, _, _ => rfl
  | t :: ts, c :: cs, e, hl, h => by
    have h0 : val t e = some c := h 0 (by simp) (by simp)
    rw [unis, uni_fix h0]
    exact unis_fix (by simpa using hl) fun i q1 q2 => h (i + 1) (by simpa using q1) (by simpa using q2)
  | [], c :: cs, e, hl, _ => by simp at hl
  | t :: ts, [], e, hl, _ => by simp at hl
theorem unis_only : ∀ {ts : List Tm} {cs ds : List K} {e e' : Env}, (∀ i (h1 : i < ts.length) (h2 : i < cs.length), val ts[i] e = some cs[i]) → ts.length = cs.length → unis ts ds e = some e' → cs = ds
  | [], [], [], e, e', _, _, _ => rfl
  | t :: ts, c :: cs, d :: ds, e, e', h, hl, hu => by
    rw [unis] at hu
    obtain ⟨e1, h1, h2⟩ := Option.bind_eq_some_iff.1 hu
    have h0 : val t e = some c := h 0 (by simp) (by simp)
    obtain ⟨rfl, rfl⟩ := uni_only h0 h1
    rw [unis_only (fun i q1 q2 => h (i + 1) (by simpa using q1) (by simpa using q2)) (by simpa using hl) h2]
  | [], [], d :: ds, e, e', _, _, hu => by cases hu
  | t :: ts, c :: cs, [], e, e', _, _, hu => by cases hu
  | [], c :: cs, _, e, e', _, hl, _ => by simp at hl
  | t :: ts, [], _, e, e', _, hl, _ => by simp at hl

/-- what a literal tells of a fact, all of it bound -/
structure Has (home : Tm) (l : Lt) (f : F) (e : Env) : Prop where
  pred : l.pred = f.pred
  len : l.args.length = f.ks.length
  at_ : val (place home l.at_) e = some (nm f.at_)
  by_ : if nul l.by_ = true then f.by_ = f.at_ else val l.by_ e = some (nm f.by_)
  args : ∀ i (h1 : i < l.args.length) (h2 : i < f.ks.length), val l.args[i] e = some f.ks[i]
theorem lit_has {home : Tm} {l : Lt} {f : F} {e e' : Env} (h : lit home l f e = some e') : (∃ m, e' = e ++ m) ∧ Has home l f e' := by
  unfold lit at h
  split at h
  · rename_i hp
    obtain ⟨e1, h1, h⟩ := Option.bind_eq_some_iff.1 h
    obtain ⟨e2, h2, h3⟩ := Option.bind_eq_some_iff.1 h
    obtain ⟨v1, m1, rfl⟩ := uni_val h1
    obtain ⟨⟨m3, rfl⟩, _, v3⟩ := unis_val h3
    unfold by1 at h2
    split at h2
    · rename_i hn
      split at h2
      · rename_i hb
        cases h2
        exact ⟨⟨m1 ++ m3, by simp⟩, hp.1, hp.2, val_ext v1 m3, by rw [if_pos hn]; exact hb, v3⟩
      · cases h2
    · rename_i hn
      obtain ⟨v2, m2, rfl⟩ := uni_val h2
      exact ⟨⟨m1 ++ m2 ++ m3, by simp⟩, hp.1, hp.2, by rw [List.append_assoc]; exact val_ext v1 (m2 ++ m3), by rw [if_neg hn]; exact val_ext v2 m3, v3⟩
  · cases h
theorem has_lit {home : Tm} {l : Lt} {f : F} {e : Env} (h : Has home l f e) : lit home l f e = some e := by
  unfold lit
  rw [if_pos ⟨h.pred, h.len⟩, uni_fix h.at_]
  simp only [Option.bind_some]
  have hb := h.by_
  unfold by1
  split
  · rename_i hn
    rw [if_pos hn] at hb
    rw [if_pos hb]
    simp only [Option.bind_some]
    exact unis_fix h.len h.args
  · rename_i hn
    rw [if_neg hn] at hb
    rw [uni_fix hb]
    simp only [Option.bind_some]
    exact unis_fix h.len h.args
/-- P11.5: it matches the fact again, unchanged -/
theorem lit_again {home : Tm} {l : Lt} {f : F} {e e' : Env} (h : lit home l f e = some e') : lit home l f e' = some e' := has_lit (lit_has h).2
/-- another fact does not match by it -/
theorem lit_only {home : Tm} {l : Lt} {f g : F} {e e' : Env} (h : Has home l f e) (hg : lit home l g e = some e') : f = g := by
  unfold lit at hg
  split at hg
  · rename_i hp
    obtain ⟨e1, h1, hg⟩ := Option.bind_eq_some_iff.1 hg
    obtain ⟨e2, h2, h3⟩ := Option.bind_eq_some_iff.1 hg
    obtain ⟨ha, rfl⟩ := uni_only h.at_ h1
    have ha := nm_inj ha
    have hb := h.by_
    have hby : f.by_ = g.by_ ∧ e2 = e1 := by
      unfold by1 at h2
      split at h2
      · rename_i hn
        rw [if_pos hn] at hb
        split at h2
        · rename_i hq; cases h2; exact ⟨by rw [hb, hq, ha], rfl⟩
        · cases h2
      · rename_i hn
        rw [if_neg hn] at hb
        obtain ⟨hq, rfl⟩ := uni_only hb h2
        exact ⟨nm_inj hq, rfl⟩
    obtain ⟨hby, rfl⟩ := hby
    have hk := unis_only h.args h.len h3
    have hpr := h.pred.symm.trans hp.1
    obtain ⟨f1, f2, f3, f4⟩ := f; obtain ⟨g1, g2, g3, g4⟩ := g
    simp only at ha hby hk hpr
    subst ha hby hk hpr
    rfl
  · cases hg
end Mt
end Go.Proofs.Ytbahbibibpkddaa
