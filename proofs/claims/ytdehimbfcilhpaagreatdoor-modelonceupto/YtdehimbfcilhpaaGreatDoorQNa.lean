/-
  Constants, terms, literals, rules, facts: what every layer speaks of. No memory, no program.
-/
import Derived.KernelRfl
import Derived.Lib.Bytealg
import Derived.Lib.Small
import Derived.Laws.Strings
namespace Go.Proofs.YtdehimbfcilhpaaGreatDoor

/-- a constant, a term, a literal, a rule, a fact -/
structure K where
  num : Bool
  n : Int
  s : List UInt8
structure Tm where
  v : List UInt8
  k : K
structure Lt where
  by_ : Tm
  pred : List UInt8
  args : List Tm
  at_ : Tm
structure Ru where
  home : Tm
  pred : List UInt8
  args : List Tm
  to_ : Tm
  body : List Lt
structure F where
  at_ : List UInt8
  by_ : List UInt8
  pred : List UInt8
  ks : List K
def k0 : K := ⟨false, 0, []⟩
def t0 : Tm := ⟨[], k0⟩
end Go.Proofs.YtdehimbfcilhpaaGreatDoor

/-
  The mathematics of layer 11: values of terms, literals matched with facts, heads and bodies of rules, what follows. No program in this text.
-/
namespace Go.Proofs.YtdehimbfcilhpaaGreatDoor
namespace Mt

abbrev Tx := List UInt8
/-- bindings, in the order in which they were made -/
abbrev Env := List (Tx × K)
def eqK (a b : K) : Bool := (a.num == b.num) && ((a.n == b.n) && (a.s == b.s))
theorem eqK_iff (a b : K) : eqK a b = true ↔ a = b := by
  obtain ⟨x, y, z⟩ := a; obtain ⟨x', y', z'⟩ := b
  simp [eqK]
theorem eqK_self (a : K) : eqK a a = true := (eqK_iff a a).2 rfl
theorem eqK_no {a b : K} (h : a ≠ b) : eqK a b = false := by
  rw [Bool.eq_false_iff]; exact fun h' => h ((eqK_iff a b).1 h')
/-- a term that is none -/
def nul (t : Tm) : Bool := t.v.isEmpty && (!t.k.num && decide (t.k.n = 0) && t.k.s.isEmpty)
def get (v : Tx) (e : Env) : Option K := (e.find? (fun b => b.1 == v)).map (·.2)
def val (t : Tm) (e : Env) : Option K := if nul t = true then none else if t.v = [] then some t.k else get t.v e
def uni (t : Tm) (c : K) (e : Env) : Option Env :=
  match val t e with
  | some v => if eqK v c = true then some e else none
  | none => if nul t = true then none else some (e ++ [(t.v, c)])
def nm (s : Tx) : K := ⟨false, 0, s⟩
def unis : List Tm → List K → Env → Option Env
  | [], [], e => some e
  | t :: ts, c :: cs, e => (uni t c e).bind fun e1 => unis ts cs e1
  | _, _, _ => none
def by1 (l : Lt) (f : F) (e : Env) : Option Env := if nul l.by_ = true then (if f.by_ = f.at_ then some e else none) else uni l.by_ (nm f.by_) e
def place (home : Tm) (t : Tm) : Tm := if nul t = true then home else t
def lit (home : Tm) (l : Lt) (f : F) (e : Env) : Option Env :=
  if l.pred = f.pred ∧ l.args.length = f.ks.length then (uni (place home l.at_) (nm f.at_) e).bind fun e1 => (by1 l f e1).bind fun e2 => unis l.args f.ks e2 else none
def name (t : Tm) (e : Env) : Option Tx := (val t e).bind fun c => if eqK c (nm c.s) = true then some c.s else none
def vals (e : Env) : List Tm → Option (List K)
  | [] => some []
  | t :: ts => (val t e).bind fun c => (vals e ts).map fun cs => c :: cs
/-- the fact of an atom, by its place and by who says it -/
def fact (at_ by_ : Tm) (pred : Tx) (args : List Tm) (e : Env) : Option F := (name at_ e).bind fun a => (name by_ e).bind fun b => (vals e args).map fun ks => ⟨a, b, pred, ks⟩
def head (r : Ru) (e : Env) : Option F := fact (place r.home r.to_) r.home r.pred r.args e
def bodyF (home : Tm) (l : Lt) (e : Env) : Option F := fact (place home l.at_) (place (place home l.at_) l.by_) l.pred l.args e
def body (home : Tm) (e : Env) : List Lt → Option (List F)
  | [] => some []
  | l :: ls => (bodyF home l e).bind fun f => (body home e ls).map fun fs => f :: fs
def lits (home : Tm) : List Lt → List F → Env → Option Env
  | [], [], e => some e
  | l :: ls, f :: fs, e => (lit home l f e).bind fun e1 => lits home ls fs e1
  | _, _, _ => none
/-- what Follows tells -/
def Fol (r : Ru) (h : F) (b : List F) : Prop := ∃ e1 e2, uni r.home (nm h.by_) [] = some e1 ∧ lits r.home r.body b e1 = some e2 ∧ head r e2 = some h

/-! bindings that grow -/
theorem get_ext {v : Tx} {e : Env} {c : K} (h : get v e = some c) (m : Env) : get v (e ++ m) = some c := by
  unfold get at *
  rw [List.find?_append]
  cases hx : e.find? (fun b => b.1 == v) with
  | none => rw [hx] at h; cases h
  | some b => rw [hx] at h; exact h
theorem val_ext {t : Tm} {e : Env} {c : K} (h : val t e = some c) (m : Env) : val t (e ++ m) = some c := by
  unfold val at *
  split at h
  · cases h
  · rename_i h1
    rw [if_neg h1]
    split at h
    · rename_i h2; rw [if_pos h2]; exact h
    · rename_i h2; rw [if_neg h2]; exact get_ext h m
theorem get_new {v : Tx} {e : Env} {c : K} (h : get v e = none) : get v (e ++ [(v, c)]) = some c := by
  unfold get at *
  rw [List.find?_append]
  cases hx : e.find? (fun b => b.1 == v) with
  | some b => rw [hx] at h; cases h
  | none => simp
/-- what is bound already -/
theorem uni_fix {t : Tm} {c : K} {e : Env} (h : val t e = some c) : uni t c e = some e := by
  unfold uni; rw [h]; simp only; rw [if_pos (eqK_self c)]
theorem uni_val {t : Tm} {c : K} {e e' : Env} (h : uni t c e = some e') : val t e' = some c ∧ ∃ m, e' = e ++ m := by
  unfold uni at h
  cases hv : val t e with
  | some v =>
    rw [hv] at h
    simp only at h
    split at h
    · rename_i hk; cases h
      exact ⟨by rw [hv, (eqK_iff v c).1 hk], [], by simp⟩
    · cases h
  | none =>
    rw [hv] at h
    simp only at h
    split at h
    · cases h
    · rename_i hn
      cases h
      refine ⟨?_, _, rfl⟩
      unfold val at hv ⊢
      rw [if_neg hn] at hv ⊢
      split at hv
      · cases hv
      · rename_i h2; rw [if_neg h2]; exact get_new hv
theorem uni_only {t : Tm} {c d : K} {e e' : Env} (h : val t e = some c) (hu : uni t d e = some e') : c = d ∧ e' = e := by
  unfold uni at hu; rw [h] at hu; simp only at hu
  split at hu
  · rename_i hk; cases hu; exact ⟨(eqK_iff c d).1 hk, rfl⟩
  · cases hu
theorem nm_inj {a b : Tx} (h : nm a = nm b) : a = b := by
  unfold nm at h; injection h

theorem unis_val : ∀ {ts : List Tm} {cs : List K} {e e' : Env}, unis ts cs e = some e' → (∃ m, e' = e ++ m) ∧ ts.length = cs.length ∧ ∀ i (h1 : i < ts.length) (h2 : i < cs.length), val ts[i] e' = some cs[i]
  | [], [], e, e', h => by cases h; exact ⟨⟨[], by simp⟩, rfl, fun i h => by simp at h⟩
  | t :: ts, c :: cs, e, e', h => by
    rw [unis] at h
    obtain ⟨e1, h1, h2⟩ := Option.bind_eq_some_iff.1 h
    obtain ⟨hv, m, rfl⟩ := uni_val h1
    obtain ⟨⟨m', rfl⟩, hl, hi⟩ := unis_val h2
    refine ⟨⟨m ++ m', by simp⟩, by simp [hl], fun i q1 q2 => ?_⟩
    match i with
    | 0 => exact val_ext hv m'
    | i + 1 => exact hi i (by simpa using q1) (by simpa using q2)
  | [], c :: cs, e, e', h => by cases h
  | t :: ts, [], e, e', h => by cases h
theorem unis_fix : ∀ {ts : List Tm} {cs : List K} {e : Env}, ts.length = cs.length → (∀ i (h1 : i < ts.length) (h2 : i < cs.length), val ts[i] e = some cs[i]) → unis ts cs e = some e
  | [], [], e, _, _ => rfl
  | t :: ts, c :: cs, e, hl, h => by
    have h0 : val t e = some c := h 0 (by simp) (by simp)
    rw [unis, uni_fix h0]
    exact unis_fix (by simpa using hl) fun i q1 q2 => h (i + 1) (by simpa using q1) (by simpa using q2)
  | [], c :: cs, e, hl, _ => by simp at hl
  | t :: ts, [], e, hl, _ => by simp at hl
theorem unis_only : ∀ {ts : List Tm} {cs ds : List K} {e e' : Env}, (∀ i (h1 : i < ts.length) (h2 : i < cs.length), val ts[i] e = some cs[i]) → ts.length = cs.length → unis ts ds e = some e' → cs = ds
  | [], [], [], e, e', _, _, _ => rfl
  | t :: ts, c :: cs, d :: ds, e, e', h, hl, hu => by
    rw [unis] at hu
    obtain ⟨e1, h1, h2⟩ := Option.bind_eq_some_iff.1 hu
    have h0 : val t e = some c := h 0 (by simp) (by simp)
    obtain ⟨rfl, rfl⟩ := uni_only h0 h1
    rw [unis_only (fun i q1 q2 => h (i + 1) (by simpa using q1) (by simpa using q2)) (by simpa using hl) h2]
  | [], [], d :: ds, e, e', _, _, hu => by cases hu
  | t :: ts, c :: cs, [], e, e', _, _, hu => by cases hu
  | [], c :: cs, _, e, e', _, hl, _ => by simp at hl
  | t :: ts, [], _, e, e', _, hl, _ => by simp at hl

/-- what a literal tells of a fact, all of it bound -/
structure Has (home : Tm) (l : Lt) (f : F) (e : Env) : Prop where
  pred : l.pred = f.pred
  len : l.args.length = f.ks.length
  at_ : val (place home l.at_) e = some (nm f.at_)
  by_ : if nul l.by_ = true then f.by_ = f.at_ else val l.by_ e = some (nm f.by_)
  args : ∀ i (h1 : i < l.args.length) (h2 : i < f.ks.length), val l.args[i] e = some f.ks[i]
theorem lit_has {home : Tm} {l : Lt} {f : F} {e e' : Env} (h : lit home l f e = some e') : (∃ m, e' = e ++ m) ∧ Has home l f e' := by
  unfold lit at h
  split at h
  · rename_i hp
    obtain ⟨e1, h1, h⟩ := Option.bind_eq_some_iff.1 h
    obtain ⟨e2, h2, h3⟩ := Option.bind_eq_some_iff.1 h
    obtain ⟨v1, m1, rfl⟩ := uni_val h1
    obtain ⟨⟨m3, rfl⟩, _, v3⟩ := unis_val h3
    unfold by1 at h2
    split at h2
    · rename_i hn
      split at h2
      · rename_i hb
        cases h2
        exact ⟨⟨m1 ++ m3, by simp⟩, hp.1, hp.2, val_ext v1 m3, by rw [if_pos hn]; exact hb, v3⟩
      · cases h2
    · rename_i hn
      obtain ⟨v2, m2, rfl⟩ := uni_val h2
      exact ⟨⟨m1 ++ m2 ++ m3, by simp⟩, hp.1, hp.2, by rw [List.append_assoc]; exact val_ext v1 (m2 ++ m3), by rw [if_neg hn]; exact val_ext v2 m3, v3⟩
  · cases h
theorem has_lit {home : Tm} {l : Lt} {f : F} {e : Env} (h : Has home l f e) : lit home l f e = some e := by
  unfold lit
  rw [if_pos ⟨h.pred, h.len⟩, uni_fix h.at_]
  simp only [Option.bind_some]
  have hb := h.by_
  unfold by1
  split
  · rename_i hn
    rw [if_pos hn] at hb
    rw [if_pos hb]
    simp only [Option.bind_some]
    exact unis_fix h.len h.args
  · rename_i hn
    rw [if_neg hn] at hb
    rw [uni_fix hb]
    simp only [Option.bind_some]
    exact unis_fix h.len h.args
/-- P11.5: it matches the fact again, unchanged -/
theorem lit_again {home : Tm} {l : Lt} {f : F} {e e' : Env} (h : lit home l f e = some e') : lit home l f e' = some e' := has_lit (lit_has h).2
/-- another fact does not match by it -/
theorem lit_only {home : Tm} {l : Lt} {f g : F} {e e' : Env} (h : Has home l f e) (hg : lit home l g e = some e') : f = g := by
  unfold lit at hg
  split at hg
  · rename_i hp
    obtain ⟨e1, h1, hg⟩ := Option.bind_eq_some_iff.1 hg
    obtain ⟨e2, h2, h3⟩ := Option.bind_eq_some_iff.1 hg
    obtain ⟨ha, rfl⟩ := uni_only h.at_ h1
    have ha := nm_inj ha
    have hb := h.by_
    have hby : f.by_ = g.by_ ∧ e2 = e1 := by
      unfold by1 at h2
      split at h2
      · rename_i hn
        rw [if_pos hn] at hb
        split at h2
        · rename_i hq; cases h2; exact ⟨by rw [hb, hq, ha], rfl⟩
        · cases h2
      · rename_i hn
        rw [if_neg hn] at hb
        obtain ⟨hq, rfl⟩ := uni_only hb h2
        exact ⟨nm_inj hq, rfl⟩
    obtain ⟨hby, rfl⟩ := hby
    have hk := unis_only h.args h.len h3
    have hpr := h.pred.symm.trans hp.1
    obtain ⟨f1, f2, f3, f4⟩ := f; obtain ⟨g1, g2, g3, g4⟩ := g
    simp only at ha hby hk hpr
    subst ha hby hk hpr
    rfl
  · cases hg
end Mt
end Go.Proofs.YtdehimbfcilhpaaGreatDoor

/-
  The mathematics of layer 11: a rule's instances follow. No program in this text.
-/
namespace Go.Proofs.YtdehimbfcilhpaaGreatDoor
namespace Mt

/-- bindings that say nothing else than others do -/
def Sub (e d : Env) : Prop := ∀ v c, get v e = some c → get v d = some c
theorem Sub.nil (d : Env) : Sub [] d := fun v c h => by simp [get] at h
theorem get_app {v u : Tx} {e : Env} {c k : K} (h : get v (e ++ [(u, k)]) = some c) : get v e = some c ∨ (v = u ∧ c = k) := by
  unfold get at *
  rw [List.find?_append] at h
  cases hx : e.find? (fun b => b.1 == v) with
  | some b => rw [hx] at h; exact .inl h
  | none =>
    rw [hx] at h
    by_cases hu : u = v
    · subst hu
      simp at h
      exact .inr ⟨rfl, h.symm⟩
    · have hb : (u == v) = false := by simpa using hu
      simp [hb] at h
theorem val_sub {t : Tm} {e d : Env} {c : K} (hs : Sub e d) (h : val t e = some c) : val t d = some c := by
  unfold val at *
  split at h
  · cases h
  · rename_i h1
    rw [if_neg h1]
    split at h
    · rename_i h2; rw [if_pos h2]; exact h
    · rename_i h2; rw [if_neg h2]; exact hs _ _ h
/-- a term that has a value: it is made that one, and the bindings say nothing else -/
theorem uni_sub {t : Tm} {e d : Env} {c : K} (hs : Sub e d) (h : val t d = some c) : ∃ e', uni t c e = some e' ∧ Sub e' d := by
  cases hv : val t e with
  | some v =>
    have := val_sub hs hv
    rw [h] at this
    cases this
    exact ⟨e, uni_fix hv, hs⟩
  | none =>
    have hn : nul t = false := by
      unfold val at h
      split at h
      · cases h
      · rename_i h1; simpa using h1
    have hg : get t.v d = some c := by
      unfold val at h hv
      rw [if_neg (by rw [hn]; decide)] at h hv
      split at h
      · rename_i h2; rw [if_pos h2] at hv; cases hv
      · exact h
    refine ⟨e ++ [(t.v, c)], ?_, fun v k hk => ?_⟩
    · unfold uni; rw [hv]; simp only; rw [if_neg (by rw [hn]; decide)]
    · rcases get_app hk with h1 | ⟨rfl, rfl⟩
      · exact hs _ _ h1
      · exact hg
theorem name_val {t : Tm} {e : Env} {a : Tx} (h : name t e = some a) : val t e = some (nm a) := by
  unfold name at h
  obtain ⟨c, h1, h2⟩ := Option.bind_eq_some_iff.1 h
  split at h2
  · rename_i hk
    cases h2
    rw [h1, ← (eqK_iff _ _).1 hk]
  · cases h2
theorem val_name {t : Tm} {e : Env} {a : Tx} (h : val t e = some (nm a)) : name t e = some a := by
  unfold name
  rw [h]
  simp only [Option.bind_some]
  exact if_pos (eqK_self _)
theorem vals_val {e : Env} : ∀ {ts : List Tm} {ks : List K}, vals e ts = some ks → ts.length = ks.length ∧ ∀ i (h1 : i < ts.length) (h2 : i < ks.length), val ts[i] e = some ks[i]
  | [], ks, h => by cases h; exact ⟨rfl, fun i h => by simp at h⟩
  | t :: ts, ks, h => by
    rw [vals] at h
    obtain ⟨c, h1, h2⟩ := Option.bind_eq_some_iff.1 h
    obtain ⟨cs, h3, rfl⟩ := Option.map_eq_some_iff.1 h2
    obtain ⟨hl, hi⟩ := vals_val h3
    refine ⟨by simp [hl], fun i q1 q2 => ?_⟩
    match i with
    | 0 => exact h1
    | i + 1 => exact hi i (by simpa using q1) (by simpa using q2)
theorem val_vals {e : Env} : ∀ {ts : List Tm} {ks : List K}, ts.length = ks.length → (∀ i (h1 : i < ts.length) (h2 : i < ks.length), val ts[i] e = some ks[i]) → vals e ts = some ks
  | [], [], _, _ => rfl
  | t :: ts, c :: cs, hl, h => by
    have h0 : val t e = some c := h 0 (by simp) (by simp)
    rw [vals, h0]
    simp only [Option.bind_some]
    rw [val_vals (by simpa using hl) fun i q1 q2 => h (i + 1) (by simpa using q1) (by simpa using q2)]
    rfl
  | [], c :: cs, hl, _ => by simp at hl
  | t :: ts, [], hl, _ => by simp at hl
theorem unis_sub {d : Env} : ∀ {ts : List Tm} {cs : List K} {e : Env}, Sub e d → ts.length = cs.length → (∀ i (h1 : i < ts.length) (h2 : i < cs.length), val ts[i] d = some cs[i]) → ∃ e', unis ts cs e = some e' ∧ Sub e' d
  | [], [], e, hs, _, _ => ⟨e, rfl, hs⟩
  | t :: ts, c :: cs, e, hs, hl, h => by
    have h0 : val t d = some c := h 0 (by simp) (by simp)
    obtain ⟨e1, h1, hs1⟩ := uni_sub hs h0
    obtain ⟨e2, h2, hs2⟩ := unis_sub hs1 (by simpa using hl) fun i q1 q2 => h (i + 1) (by simpa using q1) (by simpa using q2)
    exact ⟨e2, by rw [unis, h1]; exact h2, hs2⟩
  | [], c :: cs, e, _, hl, _ => by simp at hl
  | t :: ts, [], e, _, hl, _ => by simp at hl
theorem fact_parts {a b : Tm} {p : Tx} {ts : List Tm} {e : Env} {f : F} (h : fact a b p ts e = some f) : val a e = some (nm f.at_) ∧ val b e = some (nm f.by_) ∧ f.pred = p ∧ vals e ts = some f.ks := by
  unfold fact at h
  obtain ⟨x, h1, h⟩ := Option.bind_eq_some_iff.1 h
  obtain ⟨y, h2, h⟩ := Option.bind_eq_some_iff.1 h
  obtain ⟨ks, h3, rfl⟩ := Option.map_eq_some_iff.1 h
  exact ⟨name_val h1, name_val h2, rfl, h3⟩
theorem parts_fact {a b : Tm} {p : Tx} {ts : List Tm} {e : Env} {f : F} (h1 : val a e = some (nm f.at_)) (h2 : val b e = some (nm f.by_)) (h3 : f.pred = p) (h4 : vals e ts = some f.ks) : fact a b p ts e = some f := by
  unfold fact
  rw [val_name h1, val_name h2, h4]
  subst h3
  rfl
/-- a literal's own fact matches it -/
theorem lit_sub {home : Tm} {l : Lt} {f : F} {e d : Env} (hs : Sub e d) (h : bodyF home l d = some f) : ∃ e', lit home l f e = some e' ∧ Sub e' d := by
  obtain ⟨h1, h2, h3, h4⟩ := fact_parts h
  obtain ⟨hl, hi⟩ := vals_val h4
  obtain ⟨e1, u1, s1⟩ := uni_sub hs h1
  have hb : ∃ e2, by1 l f e1 = some e2 ∧ Sub e2 d := by
    unfold by1
    by_cases hn : nul l.by_ = true
    · rw [if_pos hn]
      unfold place at h2
      rw [if_pos hn] at h2
      rw [show (if nul l.at_ = true then home else l.at_) = place home l.at_ from rfl, h1] at h2
      have := nm_inj (Option.some.inj h2)
      exact ⟨e1, by rw [if_pos this.symm], s1⟩
    · rw [if_neg hn]
      unfold place at h2
      rw [if_neg hn] at h2
      exact uni_sub s1 h2
  obtain ⟨e2, u2, s2⟩ := hb
  obtain ⟨e3, u3, s3⟩ := unis_sub s2 hl hi
  refine ⟨e3, ?_, s3⟩
  unfold lit
  rw [if_pos ⟨h3.symm, hl⟩, u1]
  simp only [Option.bind_some]
  rw [u2]
  simp only [Option.bind_some]
  exact u3
theorem body_len {home : Tm} {d : Env} : ∀ {ls : List Lt} {fs : List F}, body home d ls = some fs → ls.length = fs.length
  | [], fs, h => by cases h; rfl
  | l :: ls, fs, h => by
    rw [body] at h
    obtain ⟨f, h1, h2⟩ := Option.bind_eq_some_iff.1 h
    obtain ⟨gs, h3, rfl⟩ := Option.map_eq_some_iff.1 h2
    simp [body_len h3]
/-- a body's own facts match its literals; all that is in it is bound -/
theorem lits_sub {home : Tm} {d : Env} : ∀ {ls : List Lt} {fs : List F} {e : Env}, Sub e d → body home d ls = some fs → ∃ e', lits home ls fs e = some e' ∧ Sub e' d ∧ (∃ m, e' = e ++ m) ∧ ∀ l ∈ ls, ∃ f, Has home l f e'
  | [], fs, e, hs, h => by cases h; exact ⟨e, rfl, hs, ⟨[], by simp⟩, fun l hl => by simp at hl⟩
  | l :: ls, fs, e, hs, h => by
    rw [body] at h
    obtain ⟨f, h1, h2⟩ := Option.bind_eq_some_iff.1 h
    obtain ⟨gs, h3, rfl⟩ := Option.map_eq_some_iff.1 h2
    obtain ⟨e1, u1, s1⟩ := lit_sub hs h1
    obtain ⟨⟨m1, rfl⟩, hh⟩ := lit_has u1
    obtain ⟨e2, u2, s2, ⟨m2, rfl⟩, hall⟩ := lits_sub s1 h3
    refine ⟨_, by rw [lits, u1]; exact u2, s2, ⟨m1 ++ m2, by simp⟩, fun y hy => ?_⟩
    rcases List.mem_cons.1 hy with rfl | hy
    · refine ⟨f, hh.pred, hh.len, val_ext hh.at_ m2, ?_, fun i q1 q2 => val_ext (hh.args i q1 q2) m2⟩
      have hb := hh.by_
      split
      · rename_i hn; rw [if_pos hn] at hb; exact hb
      · rename_i hn; rw [if_neg hn] at hb; exact val_ext hb m2
    · exact hall y hy
/-- a variable is one of a rule's: of its home, or of a literal's -/
def Of (r : Ru) (v : Tx) : Prop := v = r.home.v ∨ ∃ y ∈ r.body, v = y.by_.v ∨ (∃ t ∈ y.args, v = t.v) ∨ v = y.at_.v
theorem val_get {t : Tm} {e : Env} {c : K} (hv : t.v ≠ []) (h : val t e = some c) : get t.v e = some c := by
  unfold val at h
  split at h
  · cases h
  · exact h
theorem nul_v {t : Tm} (h : t.v ≠ []) : nul t = false := by
  unfold nul
  cases ht : t.v with
  | nil => exact absurd ht h
  | cons a b => rfl
/-- THE STAGE'S THEOREM: where a rule's head and body have values, the head follows from the body -/
theorem instances {r : Ru} {d : Env} {h : F} {b : List F} (hh : head r d = some h) (hb : body r.home d r.body = some b) (ho : ∀ t, (t ∈ r.args ∨ t = r.to_) → t.v ≠ [] → Of r t.v) : Fol r h b := by
  obtain ⟨h1, h2, h3, h4⟩ := fact_parts hh
  obtain ⟨e1, u1, s1⟩ := uni_sub (Sub.nil d) h2
  have v1 := (uni_val u1).1
  obtain ⟨e2, u2, s2, ⟨m, rfl⟩, hall⟩ := lits_sub s1 hb
  refine ⟨e1, _, u1, u2, ?_⟩
  have hbound : ∀ v, v ≠ [] → Of r v → ∃ c, get v (e1 ++ m) = some c := fun v hv hof => by
    rcases hof with rfl | ⟨y, hy, hof⟩
    · exact ⟨_, get_ext (val_get hv v1) m⟩
    · obtain ⟨f, hf⟩ := hall y hy
      rcases hof with rfl | ⟨t, ht, rfl⟩ | rfl
      · have := hf.by_
        rw [if_neg (by rw [nul_v hv]; decide)] at this
        exact ⟨_, val_get hv this⟩
      · obtain ⟨i, hi, rfl⟩ := List.getElem_of_mem ht
        have hi2 : i < f.ks.length := by have := hf.len; omega
        exact ⟨_, val_get hv (hf.args i hi hi2)⟩
      · have := hf.at_
        unfold place at this
        rw [if_neg (by rw [nul_v hv]; decide)] at this
        exact ⟨_, val_get hv this⟩
  have hval : ∀ t c, (t.v ≠ [] → Of r t.v) → val t d = some c → val t (e1 ++ m) = some c := fun t c hof hc => by
    by_cases hv : t.v = []
    · unfold val at hc ⊢
      split at hc
      · cases hc
      · rename_i hn
        rw [if_neg hn, if_pos hv] at *
        exact hc
    · obtain ⟨k, hk⟩ := hbound _ hv (hof hv)
      have h5 := s2 _ _ hk
      rw [val_get hv hc] at h5
      cases h5
      unfold val
      rw [if_neg (by rw [nul_v hv]; decide), if_neg hv]
      exact hk
  obtain ⟨hl, hi⟩ := vals_val h4
  refine parts_fact ?_ (val_ext v1 m) h3 (val_vals hl fun i q1 q2 => hval _ _ (ho _ (.inl (List.getElem_mem q1))) (hi i q1 q2))
  unfold place at h1 ⊢
  split
  · rename_i hn
    rw [if_pos hn] at h1
    exact hval _ _ (fun _ => .inl rfl) h1
  · rename_i hn
    rw [if_neg hn] at h1
    exact hval _ _ (ho _ (.inr rfl)) h1
/-- with another predicate in place of one it does not follow -/
theorem lits_pred {home : Tm} : ∀ {ls : List Lt} {fs : List F} {e e' : Env}, lits home ls fs e = some e' → ls.length = fs.length ∧ ∀ i (h1 : i < ls.length) (h2 : i < fs.length), ls[i].pred = fs[i].pred
  | [], [], e, e', _ => ⟨rfl, fun i h => by simp at h⟩
  | l :: ls, f :: fs, e, e', h => by
    rw [lits] at h
    obtain ⟨e1, h1, h2⟩ := Option.bind_eq_some_iff.1 h
    obtain ⟨hl, hi⟩ := lits_pred h2
    refine ⟨by simp [hl], fun i q1 q2 => ?_⟩
    match i with
    | 0 => exact (lit_has h1).2.pred
    | i + 1 => exact hi i (by simpa using q1) (by simpa using q2)
  | [], f :: fs, e, e', h => by cases h
  | l :: ls, [], e, e', h => by cases h
theorem body_pred {home : Tm} {d : Env} : ∀ {ls : List Lt} {fs : List F}, body home d ls = some fs → ∀ i (h1 : i < ls.length) (h2 : i < fs.length), ls[i].pred = fs[i].pred
  | [], fs, h => fun i h1 => by simp at h1
  | l :: ls, fs, h => by
    rw [body] at h
    obtain ⟨f, h1, h2⟩ := Option.bind_eq_some_iff.1 h
    obtain ⟨gs, h3, rfl⟩ := Option.map_eq_some_iff.1 h2
    intro i q1 q2
    match i with
    | 0 => exact (fact_parts h1).2.2.1.symm
    | i + 1 => exact body_pred h3 i (by simpa using q1) (by simpa using q2)
theorem not_fol_pred {r : Ru} {d : Env} {h : F} {b b' : List F} {k : Nat} (hb : body r.home d r.body = some b) (hk : k < b.length) (hl : b'.length = b.length) (hp : (b'[k]'(by omega)).pred ≠ b[k].pred) : ¬ Fol r h b' := fun ⟨_, _, _, h2, _⟩ => by
  obtain ⟨h3, h4⟩ := lits_pred h2
  have h5 := body_len hb
  have h6 := h4 k (by omega) (by omega)
  have h7 := body_pred hb k (by omega) hk
  exact hp (h6.symm.trans h7)
theorem not_fol_len {r : Ru} {h : F} {b' : List F} (hl : b'.length ≠ r.body.length) : ¬ Fol r h b' := fun ⟨_, _, _, h2, _⟩ => hl (lits_pred h2).1.symm
end Mt
end Go.Proofs.YtdehimbfcilhpaaGreatDoor

/-
  The mathematics of layer 10: a rule's variables. No program in this text.
-/
namespace Go.Proofs.YtdehimbfcilhpaaGreatDoor
namespace Ck

abbrev Tx := List UInt8
/-- variables, and one more, if it is one -/
def wv (l : List Tx) (t : Tm) : List Tx := if t.v = [] ∨ t.v ∈ l then l else l ++ [t.v]
def wl (l : List Tx) (y : Lt) : List Tx := wv (y.args.foldl wv (wv l y.by_)) y.at_
def bnd (r : Ru) (k : Nat) : List Tx := (r.body.take k).foldl wl (wv [] r.home)
def vars (r : Ru) : List Tx := bnd r r.body.length

/-! what is bound -/
theorem wv_pre (l : List Tx) (t : Tm) : ∃ m, wv l t = l ++ m := by
  unfold wv; split
  · exact ⟨[], by simp⟩
  · exact ⟨_, rfl⟩
theorem fold_pre : ∀ (ts : List Tm) (l : List Tx), ∃ m, ts.foldl wv l = l ++ m
  | [], l => ⟨[], by simp⟩
  | t :: r, l => by
    obtain ⟨m, hm⟩ := wv_pre l t
    obtain ⟨n, hn⟩ := fold_pre r (wv l t)
    exact ⟨m ++ n, by rw [List.foldl_cons, hn, hm, List.append_assoc]⟩
theorem wl_pre (l : List Tx) (y : Lt) : ∃ m, wl l y = l ++ m := by
  obtain ⟨a, ha⟩ := wv_pre l y.by_
  obtain ⟨b, hb⟩ := fold_pre y.args (wv l y.by_)
  obtain ⟨c, hc⟩ := wv_pre (y.args.foldl wv (wv l y.by_)) y.at_
  exact ⟨a ++ (b ++ c), by unfold wl; rw [hc, hb, ha]; simp⟩
theorem bnd_succ {r : Ru} {k : Nat} (hk : k < r.body.length) : bnd r (k + 1) = wl (bnd r k) r.body[k] := by
  unfold bnd
  rw [List.take_succ_eq_append_getElem hk, List.foldl_append]; rfl
theorem bnd_pre {r : Ru} {k : Nat} (hk : k < r.body.length) : ∃ m, bnd r (k + 1) = bnd r k ++ m := by
  rw [bnd_succ hk]; exact wl_pre _ _
theorem bnd_all {r : Ru} {k : Nat} (hk : r.body.length ≤ k) : bnd r k = vars r := by
  unfold vars bnd
  rw [List.take_of_length_le hk, List.take_of_length_le (Nat.le_refl _)]
end Ck
end Go.Proofs.YtdehimbfcilhpaaGreatDoor

/-
  The mathematics of layer 11, as its functions go: step by step; how much is bound; which variables a rule has.
-/
namespace Go.Proofs.YtdehimbfcilhpaaGreatDoor
namespace Mt

/-! the way of the program's literal -/
def at1 (home : Tm) (l : Lt) : Tm := place home l.at_
def by2 (home : Tm) (l : Lt) : Tm := place (at1 home l) l.by_
theorem by1_eq {home : Tm} {l : Lt} {f : F} {e e1 : Env} (h : uni (at1 home l) (nm f.at_) e = some e1) : by1 l f e1 = uni (by2 home l) (nm f.by_) e1 := by
  unfold by1 by2 place
  split
  · have hv := (uni_val h).1
    unfold uni
    rw [hv]
    simp only
    by_cases hq : f.by_ = f.at_
    · rw [if_pos hq, hq, if_pos (eqK_self _)]
    · rw [if_neg hq, if_neg]
      intro hk
      exact hq (nm_inj ((eqK_iff _ _).1 hk)).symm
  · rfl
theorem lit_no {home : Tm} {l : Lt} {f : F} {e : Env} (h : ¬ (l.pred = f.pred ∧ l.args.length = f.ks.length)) : lit home l f e = none := by
  unfold lit; rw [if_neg h]
theorem lit_yes {home : Tm} {l : Lt} {f : F} {e : Env} (h1 : l.pred = f.pred) (h2 : l.args.length = f.ks.length) : lit home l f e = (uni (at1 home l) (nm f.at_) e).bind fun e1 => (by1 l f e1).bind fun e2 => unis l.args f.ks e2 := by
  unfold lit; rw [if_pos ⟨h1, h2⟩]; rfl
theorem lit_one_no {home : Tm} {l : Lt} {f : F} {e : Env} (h1 : l.pred = f.pred) (h2 : l.args.length = f.ks.length) (h : uni (at1 home l) (nm f.at_) e = none) : lit home l f e = none := by
  rw [lit_yes h1 h2, h]; rfl
theorem lit_one {home : Tm} {l : Lt} {f : F} {e e1 : Env} (h1 : l.pred = f.pred) (h2 : l.args.length = f.ks.length) (h : uni (at1 home l) (nm f.at_) e = some e1) : lit home l f e = (uni (by2 home l) (nm f.by_) e1).bind fun e2 => unis l.args f.ks e2 := by
  rw [lit_yes h1 h2, h]
  show (by1 l f e1).bind _ = _
  rw [by1_eq h]
theorem lit_oneR {home : Tm} {l : Lt} {f : F} {e e1 : Env} (h1 : l.pred = f.pred) (h2 : l.args.length = f.ks.length) (h : uni (at1 home l) (nm f.at_) e = some e1) : lit home l f e = (by1 l f e1).bind fun e2 => unis l.args f.ks e2 := by
  rw [lit_yes h1 h2, h]; rfl

theorem unis_step {ts : List Tm} {cs : List K} {e : Env} {i : Nat} (h1 : i < ts.length) (h2 : i < cs.length) : unis (ts.drop i) (cs.drop i) e = (uni ts[i] cs[i] e).bind fun e1 => unis (ts.drop (i + 1)) (cs.drop (i + 1)) e1 := by
  rw [List.drop_eq_getElem_cons h1, List.drop_eq_getElem_cons h2, unis]
theorem unis_done {ts : List Tm} {cs : List K} {e : Env} {i : Nat} (h1 : ts.length ≤ i) (h2 : cs.length ≤ i) : unis (ts.drop i) (cs.drop i) e = some e := by
  rw [List.drop_of_length_le h1, List.drop_of_length_le h2, unis]
theorem lits_step {home : Tm} {ts : List Lt} {cs : List F} {e : Env} {i : Nat} (h1 : i < ts.length) (h2 : i < cs.length) : lits home (ts.drop i) (cs.drop i) e = (lit home ts[i] cs[i] e).bind fun e1 => lits home (ts.drop (i + 1)) (cs.drop (i + 1)) e1 := by
  rw [List.drop_eq_getElem_cons h1, List.drop_eq_getElem_cons h2, lits]
theorem lits_done {home : Tm} {ts : List Lt} {cs : List F} {e : Env} {i : Nat} (h1 : ts.length ≤ i) (h2 : cs.length ≤ i) : lits home (ts.drop i) (cs.drop i) e = some e := by
  rw [List.drop_of_length_le h1, List.drop_of_length_le h2, lits]
theorem vals_step {ts : List Tm} {e : Env} {i : Nat} (h1 : i < ts.length) : vals e (ts.drop i) = (val ts[i] e).bind fun c => (vals e (ts.drop (i + 1))).map fun cs => c :: cs := by
  rw [List.drop_eq_getElem_cons h1, vals]
theorem vals_done {ts : List Tm} {e : Env} {i : Nat} (h1 : ts.length ≤ i) : vals e (ts.drop i) = some [] := by
  rw [List.drop_of_length_le h1, vals]
theorem body_step {home : Tm} {ts : List Lt} {e : Env} {i : Nat} (h1 : i < ts.length) : body home e (ts.drop i) = (bodyF home ts[i] e).bind fun f => (body home e (ts.drop (i + 1))).map fun fs => f :: fs := by
  rw [List.drop_eq_getElem_cons h1, body]
theorem body_done {home : Tm} {ts : List Lt} {e : Env} {i : Nat} (h1 : ts.length ≤ i) : body home e (ts.drop i) = some [] := by
  rw [List.drop_of_length_le h1, body]
/-- one more of what was gathered -/
theorem gather {α : Type} {x : Option (List α)} {y : Option (List α)} {acc : List α} {c : α} (h : x = (y.map fun cs => c :: cs).map fun cs => acc ++ cs) : x = y.map fun cs => (acc ++ [c]) ++ cs := by
  rw [h]; cases y <;> simp
theorem gathered {α : Type} {x : Option (List α)} {acc : List α} (h : x = (some []).map fun cs => acc ++ cs) : x = some acc := by
  rw [h]; simp

/-! how much is bound -/
theorem uni_len {t : Tm} {c : K} {e e' : Env} (h : uni t c e = some e') : e'.length ≤ e.length + 1 := by
  unfold uni at h
  split at h
  · split at h
    · cases h; omega
    · cases h
  · split at h
    · cases h
    · cases h; simp
theorem unis_len : ∀ {ts : List Tm} {cs : List K} {e e' : Env}, unis ts cs e = some e' → e'.length ≤ e.length + ts.length
  | [], [], e, e', h => by cases h; simp
  | t :: ts, c :: cs, e, e', h => by
    rw [unis] at h
    obtain ⟨e1, h1, h2⟩ := Option.bind_eq_some_iff.1 h
    have := uni_len h1
    have := unis_len h2
    rw [List.length_cons]; omega
  | [], c :: cs, e, e', h => by cases h
  | t :: ts, [], e, e', h => by cases h
theorem lit_len {home : Tm} {l : Lt} {f : F} {e e' : Env} (h : lit home l f e = some e') : e'.length ≤ e.length + (l.args.length + 2) := by
  by_cases hc : l.pred = f.pred ∧ l.args.length = f.ks.length
  · rw [lit_yes hc.1 hc.2] at h
    obtain ⟨e1, h1, h⟩ := Option.bind_eq_some_iff.1 h
    obtain ⟨e2, h2, h⟩ := Option.bind_eq_some_iff.1 h
    have := uni_len h1
    have := unis_len h
    have : e2.length ≤ e1.length + 1 := by
      rw [by1_eq h1] at h2
      exact uni_len h2
    omega
  · rw [lit_no hc] at h; cases h

/-! what Follows tells -/
def eqKs : List K → List K → Bool
  | [], [] => true
  | k :: r, l :: s => eqK k l && eqKs r s
  | _, _ => false
theorem eqKs_iff : ∀ a b : List K, eqKs a b = true ↔ a = b
  | [], [] => by simp [eqKs]
  | k :: r, l :: s => by simp [eqKs, eqK_iff, eqKs_iff r s]
  | [], _ :: _ => by simp [eqKs]
  | _ :: _, [] => by simp [eqKs]
def eqF (a b : F) : Bool := (a.at_ == b.at_) && ((a.by_ == b.by_) && ((a.pred == b.pred) && eqKs a.ks b.ks))
theorem eqF_iff (a b : F) : eqF a b = true ↔ a = b := by
  obtain ⟨x, y, z, u⟩ := a; obtain ⟨x', y', z', u'⟩ := b
  simp [eqF, eqKs_iff]
def fol (r : Ru) (h : F) (b : List F) : Bool :=
  match (uni r.home (nm h.by_) []).bind fun e1 => (lits r.home r.body b e1).bind fun e2 => head r e2 with
  | none => false
  | some f => eqF f h
theorem fol_iff (r : Ru) (h : F) (b : List F) : fol r h b = true ↔ Fol r h b := by
  unfold fol
  constructor
  · intro hf
    split at hf
    · cases hf
    · rename_i f hx
      obtain ⟨e1, h1, h4⟩ := Option.bind_eq_some_iff.1 hx
      obtain ⟨e2, h2, h3⟩ := Option.bind_eq_some_iff.1 h4
      have hfh := (eqF_iff f h).1 hf
      rw [hfh] at h3
      exact ⟨e1, e2, h1, h2, h3⟩
  · rintro ⟨e1, e2, h1, h2, h3⟩
    rw [h1]
    simp only [Option.bind_some]
    rw [h2]
    simp only [Option.bind_some]
    rw [h3]
    exact (eqF_iff h h).2 rfl
theorem fol_no {r : Ru} {h : F} {b : List F} (hn : ((uni r.home (nm h.by_) []).bind fun e1 => (lits r.home r.body b e1).bind fun e2 => head r e2) = none) : fol r h b = false := by
  rw [Bool.eq_false_iff]
  intro hf
  obtain ⟨e1, e2, h1, h2, h3⟩ := (fol_iff r h b).1 hf
  rw [h1] at hn
  simp only [Option.bind_some] at hn
  rw [h2] at hn
  simp only [Option.bind_some] at hn
  rw [h3] at hn
  cases hn
theorem fol_some {r : Ru} {h f : F} {b : List F} (hs : ((uni r.home (nm h.by_) []).bind fun e1 => (lits r.home r.body b e1).bind fun e2 => head r e2) = some f) (d : Bool) (hd : d = true ↔ f = h) : fol r h b = d := by
  rw [Bool.eq_iff_iff, hd, fol_iff]
  obtain ⟨e1, h1, hx⟩ := Option.bind_eq_some_iff.1 hs
  obtain ⟨e2, h2, hx⟩ := Option.bind_eq_some_iff.1 hx
  constructor
  · rintro ⟨e1', e2', g1, g2, g3⟩
    rw [h1] at g1; cases g1
    rw [h2] at g2; cases g2
    rw [hx] at g3; cases g3; rfl
  · rintro rfl
    exact ⟨e1, e2, h1, h2, hx⟩
theorem fol_len {r : Ru} {h : F} {b : List F} (hl : r.body.length ≠ b.length) : fol r h b = false := by
  rw [Bool.eq_false_iff]
  intro hf
  exact not_fol_len (fun h => hl h.symm) ((fol_iff r h b).1 hf)

/-! a rule's variables -/
theorem mem_wv {l : List Tx} {t : Tm} {x : Tx} (h : x ∈ Ck.wv l t) : x ∈ l ∨ x = t.v := by
  unfold Ck.wv at h
  split at h
  · exact .inl h
  · rcases List.mem_append.1 h with h | h
    · exact .inl h
    · exact .inr (List.mem_singleton.1 h)
theorem mem_fold : ∀ {ts : List Tm} {l : List Tx} {x : Tx}, x ∈ ts.foldl Ck.wv l → x ∈ l ∨ ∃ t ∈ ts, x = t.v
  | [], l, x, h => .inl h
  | t :: ts, l, x, h => by
    rw [List.foldl_cons] at h
    rcases mem_fold h with h | ⟨u, hu, rfl⟩
    · rcases mem_wv h with h | rfl
      · exact .inl h
      · exact .inr ⟨t, List.mem_cons_self .., rfl⟩
    · exact .inr ⟨u, List.mem_cons_of_mem _ hu, rfl⟩
theorem mem_wl {l : List Tx} {y : Lt} {x : Tx} (h : x ∈ Ck.wl l y) : x ∈ l ∨ (x = y.by_.v ∨ (∃ t ∈ y.args, x = t.v) ∨ x = y.at_.v) := by
  unfold Ck.wl at h
  rcases mem_wv h with h | h
  · rcases mem_fold h with h | h
    · rcases mem_wv h with h | h
      · exact .inl h
      · exact .inr (.inl h)
    · exact .inr (.inr (.inl h))
  · exact .inr (.inr (.inr h))
theorem mem_wls : ∀ {ys : List Lt} {l : List Tx} {x : Tx}, x ∈ ys.foldl Ck.wl l → x ∈ l ∨ ∃ y ∈ ys, (x = y.by_.v ∨ (∃ t ∈ y.args, x = t.v) ∨ x = y.at_.v)
  | [], l, x, h => .inl h
  | y :: ys, l, x, h => by
    rw [List.foldl_cons] at h
    rcases mem_wls h with h | ⟨z, hz, h⟩
    · rcases mem_wl h with h | h
      · exact .inl h
      · exact .inr ⟨y, List.mem_cons_self .., h⟩
    · exact .inr ⟨z, List.mem_cons_of_mem _ hz, h⟩
theorem mem_vars {r : Ru} {x : Tx} (h : x ∈ Ck.vars r) : Of r x := by
  unfold Ck.vars Ck.bnd at h
  rw [List.take_length] at h
  rcases mem_wls h with h | h
  · rcases mem_wv h with h | h
    · cases h
    · exact .inl h
  · exact .inr h
/-- has a head a variable of its own? -/
def ownV (N : List Tx) (t : Tm) : Bool := !t.v.isEmpty && !decide (t.v ∈ N)
def opn (r : Ru) : Bool := ownV (Ck.vars r) r.to_ || r.args.any (ownV (Ck.vars r))
theorem ownV_no {N : List Tx} {t : Tm} (h : ownV N t = false) (hv : t.v ≠ []) : t.v ∈ N := by
  unfold ownV at h
  have : t.v.isEmpty = false := by simpa using hv
  rw [this] at h
  simpa using h
theorem opn_no {r : Ru} (h : opn r = false) : ∀ t, (t ∈ r.args ∨ t = r.to_) → t.v ≠ [] → Of r t.v := by
  unfold opn at h
  rw [Bool.or_eq_false_iff] at h
  intro t ht hv
  apply mem_vars
  rcases ht with ht | rfl
  · exact ownV_no (Bool.eq_false_iff.2 fun hx => by rw [List.any_eq_true.2 ⟨t, ht, hx⟩] at h; cases h.2) hv
  · exact ownV_no h.1 hv
theorem inst {r : Ru} {d : Env} {h : F} {b : List F} (hh : head r d = some h) (hb : body r.home d r.body = some b) (ho : opn r = false) : fol r h b = true := (fol_iff r h b).2 (instances hh hb (opn_no ho))
theorem fol_other {r : Ru} {d : Env} {h : F} {b b' : List F} {k : Nat} (hb : body r.home d r.body = some b) (hk : k < b.length) (hl : b'.length = b.length) (hp : (b'[k]'(by omega)).pred ≠ b[k].pred) : fol r h b' = false := by
  rw [Bool.eq_false_iff]
  intro hf
  exact not_fol_pred hb hk hl hp ((fol_iff r h b').1 hf)
end Mt
end Go.Proofs.YtdehimbfcilhpaaGreatDoor

/-
  The mathematics of layer 4: constants, facts, their order (told by numbers), lists in order each once. No memory, no program.
-/
namespace Go.Proofs.YtdehimbfcilhpaaGreatDoor
open Go

/-- an order told by numbers; two that are not one may be as good as each other -/
structure Pre {α : Type} (c : α → α → Int) : Prop where
  anti : ∀ x y, c x y = - c y x
  trans : ∀ x y z, c x y ≤ 0 → c y z ≤ 0 → c x z ≤ 0
  low : ∀ x y, -1 ≤ c x y
  high : ∀ x y, c x y ≤ 1

def lex2 (a b : Int) : Int := if a = 0 then b else a
theorem lex2_zero {a b : Int} : lex2 a b = 0 ↔ a = 0 ∧ b = 0 := by
  unfold lex2; split <;> omega

theorem Pre.refl {α : Type} {c : α → α → Int} (h : Pre c) (x : α) : c x x = 0 := by have := h.anti x x; omega
theorem Pre.lt_of_lt_of_le {α : Type} {c : α → α → Int} (h : Pre c) {x y z : α} (h1 : c x y < 0) (h2 : c y z ≤ 0) : c x z < 0 := by
  have := h.trans x y z (by omega) h2
  rcases Int.lt_or_eq_of_le this with h3 | h3
  · exact h3
  · have := h.anti x z
    have := h.trans y z x h2 (by omega)
    have := h.anti x y
    omega
theorem Pre.lt_of_le_of_lt {α : Type} {c : α → α → Int} (h : Pre c) {x y z : α} (h1 : c x y ≤ 0) (h2 : c y z < 0) : c x z < 0 := by
  have := h.trans x y z h1 (by omega)
  rcases Int.lt_or_eq_of_le this with h3 | h3
  · exact h3
  · have := h.anti x z
    have := h.trans z x y (by omega) h1
    have := h.anti y z
    omega
theorem Pre.on {α β : Type} {c : α → α → Int} (h : Pre c) (p : β → α) : Pre fun x y => c (p x) (p y) :=
  ⟨fun _ _ => h.anti _ _, fun _ _ _ => h.trans _ _ _, fun _ _ => h.low _ _, fun _ _ => h.high _ _⟩
theorem Pre.lex {α : Type} {c d : α → α → Int} (h : Pre c) (k : Pre d) : Pre fun x y => lex2 (c x y) (d x y) where
  anti x y := by
    have := h.anti x y; have := k.anti x y
    unfold lex2; split <;> split <;> omega
  low x y := by
    have := h.low x y; have := k.low x y
    unfold lex2; split <;> omega
  high x y := by
    have := h.high x y; have := k.high x y
    unfold lex2; split <;> omega
  trans x y z h1 h2 := by
    have a1 := h.anti x y; have a2 := h.anti y z; have a3 := h.anti x z
    have t1 := h.trans x y z; have t2 := h.trans z x y; have t3 := h.trans y z x; have t4 := k.trans x y z
    revert h1 h2
    simp only [lex2]
    intro h1 h2
    split at h1 <;> split at h2 <;> split <;> omega

def cL {α : Type} (c : α → α → Int) : List α → List α → Int
  | [], [] => 0
  | [], _ :: _ => -1
  | _ :: _, [] => 1
  | x :: xs, y :: ys => lex2 (c x y) (cL c xs ys)

theorem Pre.list {α : Type} {c : α → α → Int} (h : Pre c) : Pre (cL c) where
  anti x y := by
    induction x generalizing y with
    | nil => cases y <;> simp [cL]
    | cons a x ih =>
      cases y with
      | nil => simp [cL]
      | cons b y =>
        have := h.anti a b; have := ih y
        simp only [cL, lex2]; split <;> split <;> omega
  low x y := by
    induction x generalizing y with
    | nil => cases y <;> simp [cL]
    | cons a x ih =>
      cases y with
      | nil => simp [cL]
      | cons b y =>
        have := h.low a b; have := ih y
        simp only [cL, lex2]; split <;> omega
  high x y := by
    induction x generalizing y with
    | nil => cases y <;> simp [cL]
    | cons a x ih =>
      cases y with
      | nil => simp [cL]
      | cons b y =>
        have := h.high a b; have := ih y
        simp only [cL, lex2]; split <;> omega
  trans x y z := by
    induction x generalizing y z with
    | nil => cases y <;> cases z <;> simp [cL]
    | cons a x ih =>
      cases y with
      | nil => cases z <;> simp [cL]
      | cons b y =>
        cases z with
        | nil => simp [cL]
        | cons d z =>
          have t0 := ih y z
          have a1 := h.anti a b; have a2 := h.anti b d; have a3 := h.anti a d
          have t1 := h.trans a b d; have t2 := h.trans d a b; have t3 := h.trans b d a
          simp only [cL, lex2]
          intro h1 h2
          split at h1 <;> split at h2 <;> split <;> omega
theorem cL_zero {α : Type} {c : α → α → Int} (h : ∀ x y, c x y = 0 ↔ x = y) (x y : List α) : cL c x y = 0 ↔ x = y := by
  induction x generalizing y with
  | nil => cases y <;> simp [cL]
  | cons a x ih =>
    cases y with
    | nil => simp [cL]
    | cons b y => simp only [cL, lex2_zero, h, ih, List.cons.injEq]

/-- what a walk along both lists says -/
theorem cL_at {α : Type} (c : α → α → Int) (x y : List α) : ∀ k, k ≤ x.length → k ≤ y.length → (∀ j (hx : j < x.length) (hy : j < y.length), j < k → c x[j] y[j] = 0) → cL c x y = cL c (x.drop k) (y.drop k) := by
  intro k
  induction k generalizing x y with
  | zero => intro _ _ _; simp
  | succ k ih =>
    intro hx hy h
    cases x with
    | nil => simp at hx
    | cons a x =>
      cases y with
      | nil => simp at hy
      | cons b y =>
        have h0 := h 0 (by simp) (by simp) (by omega)
        simp only [List.getElem_cons_zero] at h0
        simp only [cL, lex2, h0, if_true, List.drop_succ_cons]
        exact ih x y (by simpa using hx) (by simpa using hy) fun j hjx hjy hj => by
          have := h (j + 1) (by simp; omega) (by simp; omega) (by omega)
          simpa using this
theorem cL_hit {α : Type} (c : α → α → Int) (x y : List α) (k : Nat) (hx : k < x.length) (hy : k < y.length) (h : ∀ j (hx : j < x.length) (hy : j < y.length), j < k → c x[j] y[j] = 0) (hn : c x[k] y[k] ≠ 0) : cL c x y = c x[k] y[k] := by
  rw [cL_at c x y k (by omega) (by omega) h, List.drop_eq_getElem_cons hx, List.drop_eq_getElem_cons hy]
  simp only [cL, lex2, if_neg hn]
theorem cL_long {α : Type} (c : α → α → Int) (x y : List α) (hl : y.length < x.length) (h : ∀ j (hx : j < x.length) (hy : j < y.length), c x[j] y[j] = 0) : cL c x y = 1 := by
  rw [cL_at c x y y.length (by omega) (by omega) fun j a b _ => h j a b, List.drop_eq_getElem_cons hl, List.drop_length]
  simp [cL]
theorem cL_short {α : Type} (c : α → α → Int) (x y : List α) (hl : x.length < y.length) (h : ∀ j (hx : j < x.length) (hy : j < y.length), c x[j] y[j] = 0) : cL c x y = -1 := by
  rw [cL_at c x y x.length (by omega) (by omega) fun j a b _ => h j a b, List.drop_eq_getElem_cons hl, List.drop_length]
  simp [cL]
theorem cL_even {α : Type} (c : α → α → Int) (x y : List α) (hl : x.length = y.length) (h : ∀ j (hx : j < x.length) (hy : j < y.length), c x[j] y[j] = 0) : cL c x y = 0 := by
  rw [cL_at c x y x.length (by omega) (by omega) fun j a b _ => h j a b, List.drop_length, hl, List.drop_length]
  simp [cL]

/-! texts -/
def cB (a b : UInt8) : Int := if a < b then -1 else if b < a then 1 else 0
theorem pre_cB : Pre cB where
  anti x y := by
    simp only [cB, UInt8.lt_iff_toNat_lt]
    split <;> split <;> omega
  trans x y z h1 h2 := by
    simp only [cB, UInt8.lt_iff_toNat_lt] at *
    split at h1 <;> split at h2 <;> split <;> omega
  low x y := by simp only [cB]; split <;> (try split) <;> omega
  high x y := by simp only [cB]; split <;> (try split) <;> omega
theorem cB_zero (x y : UInt8) : cB x y = 0 ↔ x = y := by
  simp only [cB, UInt8.lt_iff_toNat_lt, ← UInt8.toNat_inj]
  split <;> (try split) <;> omega

theorem compareBytes_cL : ∀ a b : List UInt8, Lib.compareBytes a b = cL cB a b
  | [], [] => rfl
  | [], _ :: _ => rfl
  | _ :: _, [] => rfl
  | a :: as, b :: bs => by
    have := compareBytes_cL as bs
    simp only [Lib.compareBytes, cL, lex2, cB, UInt8.lt_iff_toNat_lt, this]
    split <;> (try split) <;> (try split) <;> omega

abbrev cT (a b : List UInt8) : Int := Lib.compareBytes a b
theorem pre_cT : Pre cT := by
  have : cT = cL cB := by funext a b; exact compareBytes_cL a b
  rw [this]; exact pre_cB.list
theorem cT_zero (a b : List UInt8) : cT a b = 0 ↔ a = b := by
  rw [show cT a b = cL cB a b from compareBytes_cL a b]; exact cL_zero cB_zero a b
theorem bytesLess_cT : ∀ a b : List UInt8, Op.bytesLess a b = decide (cT a b < 0)
  | [], [] => rfl
  | [], _ :: _ => rfl
  | _ :: _, [] => rfl
  | a :: as, b :: bs => by
    have := bytesLess_cT as bs
    simp only [Op.bytesLess, cT, Lib.compareBytes] at *
    rw [this]
    by_cases h1 : a < b
    · simp [h1]
    · by_cases h2 : b < a
      · have : (a == b) = false := by
          simp only [beq_eq_false_iff_ne, ne_eq, ← UInt8.toNat_inj]; rw [UInt8.lt_iff_toNat_lt] at h2; omega
        simp [h1, h2, this]
      · have : (a == b) = true := by
          simp only [beq_iff_eq, ← UInt8.toNat_inj]; rw [UInt8.lt_iff_toNat_lt] at h1 h2; omega
        simp [h1, h2, this]

/-! constants and facts -/

def cNum (x y : Bool) : Int := if x = y then 0 else if x then -1 else 1
theorem pre_cNum : Pre cNum where
  anti x y := by cases x <;> cases y <;> decide
  trans x y z := by cases x <;> cases y <;> cases z <;> decide
  low x y := by cases x <;> cases y <;> decide
  high x y := by cases x <;> cases y <;> decide
theorem pre_cInt : Pre Lib.compareInt where
  anti x y := by unfold Lib.compareInt; repeat' split
                 all_goals omega
  trans x y z := by unfold Lib.compareInt; repeat' split
                    all_goals omega
  low x y := by unfold Lib.compareInt; split <;> (try split) <;> omega
  high x y := by unfold Lib.compareInt; split <;> (try split) <;> omega

def cK (x y : K) : Int := lex2 (cNum x.num y.num) (lex2 (Lib.compareInt x.n y.n) (cT x.s y.s))
theorem pre_cK : Pre cK := (pre_cNum.on K.num).lex ((pre_cInt.on K.n).lex (pre_cT.on K.s))
theorem cK_zero (x y : K) : cK x y = 0 ↔ x = y := by
  obtain ⟨a, b, c⟩ := x; obtain ⟨a', b', c'⟩ := y
  simp only [cK, lex2_zero, cT_zero, K.mk.injEq]
  have h1 : cNum a a' = 0 ↔ a = a' := by cases a <;> cases a' <;> decide
  have h2 : Lib.compareInt b b' = 0 ↔ b = b' := by unfold Lib.compareInt; split <;> (try split) <;> omega
  rw [h1, h2]

def cF (x y : F) : Int := lex2 (cT x.at_ y.at_) (lex2 (cT x.by_ y.by_) (lex2 (cT x.pred y.pred) (cL cK x.ks y.ks)))
theorem pre_cF : Pre cF := (pre_cT.on F.at_).lex ((pre_cT.on F.by_).lex ((pre_cT.on F.pred).lex (pre_cK.list.on F.ks)))
theorem cF_zero (x y : F) : cF x y = 0 ↔ x = y := by
  obtain ⟨a, b, c, d⟩ := x; obtain ⟨a', b', c', d'⟩ := y
  simp only [cF, lex2_zero, cT_zero, cL_zero cK_zero, F.mk.injEq]
theorem cF_self (x : F) : cF x x = 0 := pre_cF.refl x

/-! lists in order, each once -/
abbrev SS (l : List F) : Prop := l.Pairwise fun x y => cF x y < 0

theorem SS.uniq : ∀ {l m : List F}, SS l → SS m → (∀ x, x ∈ l ↔ x ∈ m) → l = m
  | [], [], _, _, _ => rfl
  | [], b :: m, _, _, h => by have := (h b).2 (by simp); simp at this
  | a :: l, [], _, _, h => by have := (h a).1 (by simp); simp at this
  | a :: l, b :: m, h1, h2, h => by
    obtain ⟨ha, hl⟩ := List.pairwise_cons.1 h1
    obtain ⟨hb, hm⟩ := List.pairwise_cons.1 h2
    have hab : a = b := by
      have h3 := (h a).1 (by simp)
      have h4 := (h b).2 (by simp)
      rcases List.mem_cons.1 h3 with h3 | h3
      · exact h3
      · rcases List.mem_cons.1 h4 with h4 | h4
        · exact h4.symm
        · have := ha b h4; have := hb a h3; have := pre_cF.anti a b; omega
    subst hab
    congr 1
    refine SS.uniq hl hm fun x => ⟨fun hx => ?_, fun hx => ?_⟩
    · rcases List.mem_cons.1 ((h x).1 (List.mem_cons_of_mem _ hx)) with rfl | h5
      · have := ha x hx; have := cF_self x; omega
      · exact h5
    · rcases List.mem_cons.1 ((h x).2 (List.mem_cons_of_mem _ hx)) with rfl | h5
      · have := hb x hx; have := cF_self x; omega
      · exact h5

/-- a list in order with a fact more -/
def ins : List F → F → List F
  | [], f => [f]
  | y :: ys, f => if cF y f < 0 then y :: ins ys f else if cF y f = 0 then y :: ys else f :: y :: ys
theorem mem_ins (l : List F) (f x : F) : x ∈ ins l f ↔ x ∈ l ∨ x = f := by
  induction l with
  | nil => simp [ins]
  | cons y ys ih =>
    simp only [ins]
    split
    · simp only [List.mem_cons, ih, or_assoc]
    · split
      · rename_i h; rw [cF_zero] at h; subst h
        simp only [List.mem_cons]
        constructor
        · intro h; exact .inl h
        · rintro (h | h)
          · exact h
          · exact .inl h
      · simp only [List.mem_cons]
        constructor
        · rintro (h | h | h) <;> simp [h]
        · rintro ((h | h) | h) <;> simp [h]
theorem SS_ins {l : List F} (h : SS l) (f : F) : SS (ins l f) := by
  induction l with
  | nil => simp [ins]
  | cons y ys ih =>
    obtain ⟨hy, hys⟩ := List.pairwise_cons.1 h
    simp only [ins]
    split
    · rename_i hlt
      refine List.pairwise_cons.2 ⟨fun x hx => ?_, ih hys⟩
      rcases (mem_ins ys f x).1 hx with h1 | rfl
      · exact hy x h1
      · exact hlt
    · split
      · exact h
      · rename_i h1 h2
        have hf : cF f y < 0 := by have := pre_cF.anti f y; omega
        refine List.pairwise_cons.2 ⟨fun x hx => ?_, h⟩
        rcases List.mem_cons.1 hx with rfl | hx
        · exact hf
        · exact pre_cF.lt_of_lt_of_le hf (Int.le_of_lt (hy x hx))
theorem ins_at (f : F) : ∀ (l : List F) (k : Nat), k ≤ l.length → (∀ j (hj : j < l.length), j < k → cF l[j] f < 0) → (∀ hk : k < l.length, ¬ cF l[k] f < 0) →
    ins l f = if h : k < l.length then (if cF l[k] f = 0 then l else l.take k ++ f :: l.drop k) else l.take k ++ f :: l.drop k
  | [], k, hk, _, _ => by simp [ins]
  | y :: ys, 0, _, _, h => by
    have := h (by simp)
    simp only [List.getElem_cons_zero] at this
    simp [ins, this]
  | y :: ys, k + 1, hk, h1, h2 => by
    have h0 := h1 0 (by simp) (by omega)
    simp only [List.getElem_cons_zero] at h0
    have := ins_at f ys k (by simpa using hk) (fun j hj hjk => h1 (j + 1) (by simpa using hj) (by omega)) (fun hk' => h2 (by simpa using hk'))
    simp only [ins, if_pos h0, this, List.length_cons, Nat.add_lt_add_iff_right, List.getElem_cons_succ]
    split
    · split <;> simp
    · simp

def sortF (l : List F) : List F := l.foldl ins []
theorem foldl_ins (l : List F) : ∀ m : List F, SS m → SS (l.foldl ins m) ∧ ∀ x, x ∈ l.foldl ins m ↔ x ∈ m ∨ x ∈ l := by
  induction l with
  | nil => intro m hm; simp [hm]
  | cons a l ih =>
    intro m hm
    obtain ⟨h1, h2⟩ := ih (ins m a) (SS_ins hm a)
    refine ⟨h1, fun x => ?_⟩
    rw [List.foldl_cons, h2, mem_ins, List.mem_cons, or_assoc]
theorem sortF_SS (l : List F) : SS (sortF l) := (foldl_ins l [] List.Pairwise.nil).1
theorem mem_sortF (l : List F) (x : F) : x ∈ sortF l ↔ x ∈ l := by
  have := (foldl_ins l [] List.Pairwise.nil).2 x
  simpa [sortF] using this
theorem sortF_of {l m : List F} (h : SS m) (hm : ∀ x, x ∈ m ↔ x ∈ l) : m = sortF l := h.uniq (sortF_SS l) fun x => by rw [hm, mem_sortF]
theorem sortF_eq_iff (l m : List F) : sortF l = sortF m ↔ ∀ x, x ∈ l ↔ x ∈ m := by
  constructor
  · intro h x
    rw [← mem_sortF l, h, mem_sortF]
  · intro h
    exact (sortF_SS l).uniq (sortF_SS m) fun x => by rw [mem_sortF, mem_sortF, h]

/-- what is in one list and not in another one -/
def hasF (b : List F) (x : F) : Bool := b.any fun y => decide (cF x y = 0)
theorem hasF_iff (b : List F) (x : F) : hasF b x = true ↔ x ∈ b := by
  simp only [hasF, List.any_eq_true, decide_eq_true_eq, cF_zero]
  constructor
  · rintro ⟨y, hy, rfl⟩; exact hy
  · exact fun h => ⟨x, h, rfl⟩
def minusF (a b : List F) : List F := (sortF a).filter fun x => !hasF b x
theorem mem_minusF (a b : List F) (x : F) : x ∈ minusF a b ↔ x ∈ a ∧ x ∉ b := by simp [minusF, mem_sortF, ← hasF_iff b x]
theorem minusF_SS (a b : List F) : SS (minusF a b) := (sortF_SS a).filter _

/-! neighbours that are the same: what is kept of the first k -/
def kept {α : Type} (c : α → α → Int) (l : List α) : Nat → List α
  | 0 => []
  | k + 1 => match l[k]? with
    | none => kept c l k
    | some x => match k with
      | 0 => [x]
      | j + 1 => match l[j]? with
        | none => kept c l k
        | some y => if c x y = 0 then kept c l k else kept c l k ++ [x]
theorem kept_one {α : Type} (c : α → α → Int) (l : List α) (h : 0 < l.length) : kept c l 1 = [l[0]] := by simp [kept, h]
theorem kept_dup {α : Type} (c : α → α → Int) (l : List α) (k : Nat) (h0 : 0 < k) (h : k < l.length) (he : c l[k] l[k - 1] = 0) : kept c l (k + 1) = kept c l k := by
  obtain ⟨j, rfl⟩ : ∃ j, k = j + 1 := ⟨k - 1, by omega⟩
  rw [kept]
  simp only [List.getElem?_eq_getElem h, List.getElem?_eq_getElem (show j < l.length by omega)]
  rw [if_pos (by simpa using he)]
theorem kept_new {α : Type} (c : α → α → Int) (l : List α) (k : Nat) (h0 : 0 < k) (h : k < l.length) (he : c l[k] l[k - 1] ≠ 0) : kept c l (k + 1) = kept c l k ++ [l[k]] := by
  obtain ⟨j, rfl⟩ : ∃ j, k = j + 1 := ⟨k - 1, by omega⟩
  rw [kept]
  simp only [List.getElem?_eq_getElem h, List.getElem?_eq_getElem (show j < l.length by omega)]
  rw [if_neg (by simpa using he)]
theorem kept_len {α : Type} (c : α → α → Int) (l : List α) : ∀ k, k ≤ l.length → (kept c l k).length ≤ k
  | 0, _ => by simp [kept]
  | 1, h => by rw [kept_one c l (by omega)]; simp
  | k + 2, h => by
    have := kept_len c l (k + 1) (by omega)
    by_cases he : c l[k + 1] (l[k + 1 - 1]'(by omega)) = 0
    · rw [kept_dup c l (k + 1) (by omega) (by omega) he]; omega
    · rw [kept_new c l (k + 1) (by omega) (by omega) he]; simp; omega
theorem kept_all {α : Type} (c : α → α → Int) (l : List α) : ∀ k, k ≤ l.length → (∀ j (h : j < l.length), 0 < j → j < k → c l[j] (l[j - 1]'(by omega)) ≠ 0) → kept c l k = l.take k
  | 0, _, _ => by simp [kept]
  | 1, h, _ => by rw [kept_one c l (by omega), List.take_one, List.head?_eq_getElem?, List.getElem?_eq_getElem (by omega)]; rfl
  | k + 2, h, hn => by
    rw [kept_new c l (k + 1) (by omega) (by omega) (hn (k + 1) (by omega) (by omega) (by omega)), kept_all c l (k + 1) (by omega) fun j hj h0 hk => hn j hj h0 (by omega)]
    exact (List.take_succ_eq_append_getElem (by omega)).symm

theorem kept_mem {α : Type} (c : α → α → Int) (l : List α) : ∀ k, k ≤ l.length → ∀ x ∈ kept c l k, x ∈ l.take k
  | 0, _ => by simp [kept]
  | 1, h => by
    rw [kept_one c l (by omega)]; intro x hx
    rw [List.mem_singleton] at hx; subst hx
    exact List.mem_take_iff_getElem.2 ⟨0, by omega, rfl⟩
  | k + 2, h => by
    have ih := kept_mem c l (k + 1) (by omega)
    have up : ∀ x ∈ l.take (k + 1), x ∈ l.take (k + 2) := fun x hx => (List.take_prefix_take_left (Nat.le_succ (k + 1))).subset hx
    by_cases he : c l[k + 1] (l[k + 1 - 1]'(by omega)) = 0
    · rw [kept_dup c l (k + 1) (by omega) (by omega) he]; exact fun x hx => up x (ih x hx)
    · rw [kept_new c l (k + 1) (by omega) (by omega) he]
      intro x hx
      rcases List.mem_append.1 hx with hx | hx
      · exact up x (ih x hx)
      · rw [List.mem_singleton] at hx; subst hx
        exact List.mem_take_iff_getElem.2 ⟨k + 1, by omega, rfl⟩

/-- of a list in order: what is kept is in order, each once; nothing is lost -/
theorem kept_sorted {α : Type} (c : α → α → Int) (hc : Pre c) (l : List α) (hs : ∀ i j (hi : i < l.length) (hj : j < l.length), i < j → c l[i] l[j] ≤ 0) : ∀ k, k ≤ l.length →
    (kept c l k).Pairwise (fun x y => c x y < 0) ∧ ∀ j (hj : j < l.length), j < k → ∃ x ∈ kept c l k, c x l[j] = 0
  | 0, _ => by simp [kept]
  | 1, h => by
    rw [kept_one c l (by omega)]
    refine ⟨by simp, fun j hj hk => ⟨l[0], by simp, ?_⟩⟩
    have : j = 0 := by omega
    subst this; exact hc.refl _
  | k + 2, h => by
    obtain ⟨h1, h2⟩ := kept_sorted c hc l hs (k + 1) (by omega)
    by_cases he : c l[k + 1] (l[k + 1 - 1]'(by omega)) = 0
    · rw [kept_dup c l (k + 1) (by omega) (by omega) he]
      refine ⟨h1, fun j hj hk => ?_⟩
      by_cases hjk : j < k + 1
      · exact h2 j hj hjk
      · have : j = k + 1 := by omega
        subst this
        obtain ⟨x, hx, hx0⟩ := h2 k (by omega) (by omega)
        refine ⟨x, hx, ?_⟩
        simp only [Nat.add_sub_cancel] at he
        have a1 := hc.anti x l[k]; have a2 := hc.anti l[k + 1] l[k]; have a3 := hc.anti x l[k + 1]
        have := hc.trans x l[k] l[k + 1] (by omega) (by omega)
        have := hc.trans l[k + 1] l[k] x (by omega) (by omega)
        omega
    · rw [kept_new c l (k + 1) (by omega) (by omega) he]
      have hlt : c l[k] l[k + 1] < 0 := by
        have := hs k (k + 1) (by omega) (by omega) (by omega)
        have := hc.anti l[k + 1] l[k]
        simp only [Nat.add_sub_cancel] at he
        omega
      refine ⟨List.pairwise_append.2 ⟨h1, by simp, fun x hx y hy => ?_⟩, fun j hj hk => ?_⟩
      · rw [List.mem_singleton] at hy; subst hy
        obtain ⟨i, hi, rfl⟩ := List.mem_take_iff_getElem.1 (kept_mem c l (k + 1) (by omega) x hx)
        by_cases hik : i = k
        · subst hik; exact hlt
        · exact hc.lt_of_le_of_lt (hs i k (by omega) (by omega) (by omega)) hlt
      · by_cases hjk : j < k + 1
        · obtain ⟨x, hx, hx0⟩ := h2 j hj hjk
          exact ⟨x, List.mem_append_left _ hx, hx0⟩
        · have : j = k + 1 := by omega
          subst this
          exact ⟨l[k + 1], by simp, hc.refl _⟩


end Go.Proofs.YtdehimbfcilhpaaGreatDoor

/-
  The mathematics of layer 12: what follows at once, the least model. No program in this text.
-/
namespace Go.Proofs.YtdehimbfcilhpaaGreatDoor
namespace Ml
open Mt (Tx Env uni lit lits head nm val)

/-- who runs rules, whose place there is -/
structure Wd where
  homes : List Tx
  names : List Tx
/-- f is the head of an instance of a rule of l, its body among m -/
def Ins (w : Wd) (l : List Ru) (m : List F) (f : F) : Prop :=
  ∃ r ∈ l, ∃ h ∈ w.homes, ∃ e, uni r.home (nm h) [] = some e ∧ ∃ fs, (∀ x ∈ fs, x ∈ m) ∧ ∃ e2, lits r.home r.body fs e = some e2 ∧ head r e2 = some f ∧ f.at_ ∈ w.names
/-- bindings by which literals are among facts, one behind the other -/
def envs (home : Tm) (m : List F) : List Lt → Env → List Env
  | [], e => [e]
  | l :: ls, e => m.flatMap fun f => match lit home l f e with
    | none => []
    | some e1 => envs home m ls e1
theorem mem_envs {home : Tm} {m : List F} : ∀ {ls : List Lt} {e e2 : Env}, e2 ∈ envs home m ls e ↔ ∃ fs, (∀ x ∈ fs, x ∈ m) ∧ lits home ls fs e = some e2
  | [], e, e2 => by
    rw [envs, List.mem_singleton]
    constructor
    · rintro rfl; exact ⟨[], (fun _ h => by cases h), rfl⟩
    · rintro ⟨fs, _, h⟩
      cases fs with
      | nil => rw [lits] at h; cases h; rfl
      | cons f fs => cases h
  | l :: ls, e, e2 => by
    rw [envs, List.mem_flatMap]
    constructor
    · rintro ⟨f, hf, h⟩
      cases hl : lit home l f e with
      | none => rw [hl] at h; cases h
      | some e1 =>
        rw [hl] at h
        obtain ⟨fs, h1, h2⟩ := mem_envs.1 h
        refine ⟨f :: fs, fun x hx => ?_, ?_⟩
        · rcases List.mem_cons.1 hx with rfl | hx
          · exact hf
          · exact h1 x hx
        · rw [lits, hl]; exact h2
    · rintro ⟨fs, h1, h2⟩
      cases fs with
      | nil => cases h2
      | cons f fs =>
        rw [lits] at h2
        obtain ⟨e1, hl, h3⟩ := Option.bind_eq_some_iff.1 h2
        refine ⟨f, h1 f (List.mem_cons_self ..), ?_⟩
        rw [hl]
        exact mem_envs.2 ⟨fs, fun x hx => h1 x (List.mem_cons_of_mem _ hx), h3⟩
/-- a rule's head, where its place is one of the names -/
def hd (w : Wd) (r : Ru) (e : Env) : List F := match head r e with
  | none => []
  | some f => if f.at_ ∈ w.names then [f] else []
theorem mem_hd {w : Wd} {r : Ru} {e : Env} {f : F} : f ∈ hd w r e ↔ head r e = some f ∧ f.at_ ∈ w.names := by
  unfold hd
  cases h : head r e with
  | none => simp
  | some g =>
    simp only [Option.some.injEq]
    split
    · rename_i hg
      rw [List.mem_singleton]
      constructor
      · rintro rfl; exact ⟨rfl, hg⟩
      · rintro ⟨rfl, _⟩; rfl
    · rename_i hg
      constructor
      · intro h; cases h
      · rintro ⟨rfl, h2⟩; exact absurd h2 hg
def heads (w : Wd) (r : Ru) (m : List F) (h : Tx) : List F := match uni r.home (nm h) [] with
  | none => []
  | some e => (envs r.home m r.body e).flatMap (hd w r)
def onceL (w : Wd) (l : List Ru) (m : List F) : List F := l.flatMap fun r => w.homes.flatMap fun h => heads w r m h
theorem mem_onceL {w : Wd} {l : List Ru} {m : List F} {f : F} : f ∈ onceL w l m ↔ Ins w l m f := by
  unfold onceL Ins
  simp only [List.mem_flatMap]
  constructor
  · rintro ⟨r, hr, h, hh, hf⟩
    unfold heads at hf
    cases hu : uni r.home (nm h) [] with
    | none => rw [hu] at hf; cases hf
    | some e =>
      rw [hu] at hf
      obtain ⟨e2, he2, hf⟩ := List.mem_flatMap.1 hf
      obtain ⟨fs, h1, h2⟩ := mem_envs.1 he2
      obtain ⟨h3, h4⟩ := mem_hd.1 hf
      exact ⟨r, hr, h, hh, e, hu, fs, h1, e2, h2, h3, h4⟩
  · rintro ⟨r, hr, h, hh, e, hu, fs, h1, e2, h2, h3, h4⟩
    refine ⟨r, hr, h, hh, ?_⟩
    unfold heads
    rw [hu]
    exact List.mem_flatMap.2 ⟨e2, mem_envs.2 ⟨fs, h1, h2⟩, mem_hd.2 ⟨h3, h4⟩⟩
/-- Once: all that follows at once, in order, each once -/
def once (w : Wd) (l : List Ru) (m : List F) : List F := sortF (onceL w l m)
theorem mem_once {w : Wd} {l : List Ru} {m : List F} {f : F} : f ∈ once w l m ↔ Ins w l m f := by
  unfold once; rw [mem_sortF, mem_onceL]
theorem once_SS (w : Wd) (l : List Ru) (m : List F) : SS (once w l m) := sortF_SS _
theorem Ins.mono {w : Wd} {l l' : List Ru} {m m' : List F} {f : F} (h : Ins w l m f) (hl : ∀ r ∈ l, r ∈ l') (hm : ∀ x ∈ m, x ∈ m') : Ins w l' m' f := by
  obtain ⟨r, hr, h, hh, e, hu, fs, h1, h2⟩ := h
  exact ⟨r, hl r hr, h, hh, e, hu, fs, fun x hx => hm x (h1 x hx), h2⟩
/-- worlds with the same homes and the same names -/
theorem Ins.world {w w' : Wd} {l : List Ru} {m : List F} {f : F} (h : Ins w l m f) (hh : ∀ x ∈ w.homes, x ∈ w'.homes) (hn : ∀ x ∈ w.names, x ∈ w'.names) : Ins w' l m f := by
  obtain ⟨r, hr, h, hx, e, hu, fs, h1, e2, h2, h3, h4⟩ := h
  exact ⟨r, hr, h, hh h hx, e, hu, fs, h1, e2, h2, h3, hn _ h4⟩
def Closed (w : Wd) (l : List Ru) (m : List F) : Prop := ∀ f, Ins w l m f → f ∈ m
def closedB (w : Wd) (l : List Ru) (m : List F) : Bool := (once w l m).all fun f => hasF m f
theorem closedB_iff (w : Wd) (l : List Ru) (m : List F) : closedB w l m = true ↔ Closed w l m := by
  unfold closedB Closed
  rw [List.all_eq_true]
  simp only [hasF_iff, mem_once]
theorem closed_same {w : Wd} {l l' : List Ru} {m m' : List F} (h : Closed w l m) (hl : ∀ r ∈ l', r ∈ l) (hm : ∀ x, x ∈ m ↔ x ∈ m') : Closed w l' m' := fun f hf => (hm f).1 (h f (hf.mono hl fun x hx => (hm x).2 hx))

/-! again and again -/
def step (w : Wd) (l : List Ru) (m : List F) : List F := (once w l m).foldl ins m
theorem step_SS {w : Wd} {l : List Ru} {m : List F} (h : SS m) : SS (step w l m) := (foldl_ins _ m h).1
theorem mem_step {w : Wd} {l : List Ru} {m : List F} (h : SS m) {x : F} : x ∈ step w l m ↔ x ∈ m ∨ Ins w l m x := by
  unfold step; rw [(foldl_ins _ m h).2, mem_once]
theorem step_fix {w : Wd} {l : List Ru} {m : List F} (h : SS m) : step w l m = m ↔ Closed w l m := by
  constructor
  · intro he f hf
    rw [← he]; exact (mem_step h).2 (.inr hf)
  · intro hc
    refine (step_SS h).uniq h fun x => ?_
    rw [mem_step h]
    exact ⟨fun hx => hx.elim id (hc x), .inl⟩
theorem SS.nodup {l : List F} (h : SS l) : l.Nodup := by
  refine List.Pairwise.imp (fun {a b} hab he => ?_) h
  subst he
  have := cF_self a
  omega
theorem nodup_len : ∀ {l m : List F}, l.Nodup → (∀ x ∈ l, x ∈ m) → l.length ≤ m.length
  | [], m, _, _ => Nat.zero_le _
  | a :: l, m, hn, hs => by
    letI : BEq F := ⟨Mt.eqF⟩
    haveI : LawfulBEq F := { eq_of_beq := fun {x y} h => (Mt.eqF_iff x y).1 h, rfl := fun {x} => (Mt.eqF_iff x x).2 rfl }
    have ha := hs a (List.mem_cons_self ..)
    obtain ⟨hna, hnl⟩ := List.nodup_cons.1 hn
    have h1 := nodup_len (m := m.erase a) hnl fun x hx => by
      have hne : x ≠ a := fun e => hna (e ▸ hx)
      exact (List.mem_erase_of_ne hne).2 (hs x (List.mem_cons_of_mem _ hx))
    rw [List.length_erase_of_mem ha] at h1
    have h2 : 0 < m.length := List.length_pos_of_mem ha
    rw [List.length_cons]; omega
theorem sub_len {l m : List F} (h : SS l) (hs : ∀ x ∈ l, x ∈ m) : l.length ≤ m.length := nodup_len (SS.nodup h) hs
theorem step_len {w : Wd} {l : List Ru} {m : List F} (h : SS m) : m.length ≤ (step w l m).length := sub_len h fun _ hx => (mem_step h).2 (.inl hx)
theorem step_more {w : Wd} {l : List Ru} {m : List F} (h : SS m) (hn : step w l m ≠ m) : m.length < (step w l m).length := by
  rcases Nat.lt_or_ge m.length (step w l m).length with h1 | h1
  · exact h1
  · exfalso
    apply hn
    refine (step_SS h).uniq h fun x => ⟨fun hx => ?_, fun hx => (mem_step h).2 (.inl hx)⟩
    refine Classical.byContradiction fun hx' => ?_
    have h2 := nodup_len (l := x :: m) (m := step w l m) (List.nodup_cons.2 ⟨hx', SS.nodup h⟩) fun y hy => by
      rcases List.mem_cons.1 hy with rfl | hy
      · exact hx
      · exact (mem_step h).2 (.inl hy)
    rw [List.length_cons] at h2
    omega
/-- where no new one is among them, the number stays, and else it grows: how the program and the reference tell -/
theorem step_len_iff {w : Wd} {l : List Ru} {m : List F} (h : SS m) : (step w l m).length = m.length ↔ step w l m = m :=
  ⟨fun he => Classical.byContradiction fun hn => by have := step_more h hn; omega, fun he => by rw [he]⟩
/-- the least model from m on, or none: it is too great; within n steps -/
def LstN (w : Wd) (l : List Ru) : Nat → List F → Option (List F) → Prop
  | 0, m, o => (400 < m.length ∧ o = none) ∨ (m.length ≤ 400 ∧ step w l m = m ∧ o = some m)
  | n + 1, m, o => ((400 < m.length ∧ o = none) ∨ (m.length ≤ 400 ∧ step w l m = m ∧ o = some m)) ∨ (m.length ≤ 400 ∧ step w l m ≠ m ∧ LstN w l n (step w l m) o)
def Lst (w : Wd) (l : List Ru) (m : List F) (o : Option (List F)) : Prop := ∃ n, LstN w l n m o
theorem Lst.full {w : Wd} {l : List Ru} {m : List F} (h : 400 < m.length) : Lst w l m none := ⟨0, .inl ⟨h, rfl⟩⟩
theorem Lst.done {w : Wd} {l : List Ru} {m : List F} (h : m.length ≤ 400) (h2 : step w l m = m) : Lst w l m (some m) := ⟨0, .inr ⟨h, h2, rfl⟩⟩
theorem Lst.more {w : Wd} {l : List Ru} {m : List F} {o : Option (List F)} (h : m.length ≤ 400) (h2 : step w l m ≠ m) (h3 : Lst w l (step w l m) o) : Lst w l m o := by
  obtain ⟨n, hn⟩ := h3
  exact ⟨n + 1, .inr ⟨h, h2, hn⟩⟩
theorem Lst.ind {w : Wd} {l : List Ru} {motive : (m : List F) → (o : Option (List F)) → Lst w l m o → Prop}
    (full : ∀ {m : List F} (h : 400 < m.length), motive m none (Lst.full h))
    (done : ∀ {m : List F} (h : m.length ≤ 400) (h2 : step w l m = m), motive m (some m) (Lst.done h h2))
    (more : ∀ {m : List F} {o : Option (List F)} (h : m.length ≤ 400) (h2 : step w l m ≠ m) (h3 : Lst w l (step w l m) o), motive (step w l m) o h3 → motive m o (Lst.more h h2 h3))
    {m : List F} {o : Option (List F)} (t : Lst w l m o) : motive m o t := by
  obtain ⟨n, hn⟩ := t
  induction n generalizing m o with
  | zero =>
    rcases hn with ⟨h1, rfl⟩ | ⟨h1, h2, rfl⟩
    · exact full h1
    · exact done h1 h2
  | succ n ih =>
    rcases hn with (⟨h1, rfl⟩ | ⟨h1, h2, rfl⟩) | ⟨h1, h2, h3⟩
    · exact full h1
    · exact done h1 h2
    · exact more h1 h2 ⟨n, h3⟩ (ih h3)
theorem Lst.split {w : Wd} {l : List Ru} {m : List F} {o : Option (List F)} (h : Lst w l m o) : (400 < m.length ∧ o = none) ∨ (m.length ≤ 400 ∧ step w l m = m ∧ o = some m) ∨ (m.length ≤ 400 ∧ step w l m ≠ m ∧ Lst w l (step w l m) o) := by
  induction h using Lst.ind with
  | full h1 => exact .inl ⟨h1, rfl⟩
  | done h1 h2 => exact .inr (.inl ⟨h1, h2, rfl⟩)
  | more h1 h2 h3 _ => exact .inr (.inr ⟨h1, h2, h3⟩)
theorem Lst.det {w : Wd} {l : List Ru} {m : List F} {o o' : Option (List F)} (h : Lst w l m o) (h' : Lst w l m o') : o = o' := by
  induction h using Lst.ind with
  | full h1 =>
    rcases h'.split with ⟨_, rfl⟩ | ⟨h2, _⟩ | ⟨h2, _⟩
    · rfl
    · omega
    · omega
  | done h1 h2 =>
    rcases h'.split with ⟨h3, _⟩ | ⟨_, _, rfl⟩ | ⟨_, h3, _⟩
    · omega
    · rfl
    · exact absurd h2 h3
  | more h1 h2 h3 ih =>
    rcases h'.split with ⟨h4, _⟩ | ⟨_, h4, _⟩ | ⟨_, _, h4⟩
    · omega
    · exact absurd h4 h2
    · exact ih h4
theorem Lst.ex (w : Wd) (l : List Ru) : ∀ (n : Nat) (m : List F), SS m → 401 ≤ m.length + n → ∃ o, Lst w l m o
  | 0, m, _, h => ⟨none, .full (by omega)⟩
  | n + 1, m, hs, h => by
    by_cases h4 : 400 < m.length
    · exact ⟨none, .full h4⟩
    · by_cases hf : step w l m = m
      · exact ⟨_, .done (by omega) hf⟩
      · obtain ⟨o, ho⟩ := Lst.ex w l n (step w l m) (step_SS hs) (by have := step_more hs hf; omega)
        exact ⟨o, .more (by omega) hf ho⟩
theorem Lst.got {w : Wd} {l : List Ru} {m n : List F} (h : Lst w l m (some n)) (hs : SS m) : SS n ∧ (∀ x ∈ m, x ∈ n) ∧ Closed w l n ∧ n.length ≤ 400 := by
  generalize ho : Option.some n = o at h
  induction h using Lst.ind with
  | full _ => cases ho
  | done h1 h2 => cases ho; exact ⟨hs, fun _ h => h, (step_fix hs).1 h2, h1⟩
  | more h1 h2 h3 ih =>
    obtain ⟨i1, i2, i3, i4⟩ := ih (step_SS hs) ho
    exact ⟨i1, fun x hx => i2 x ((mem_step hs).2 (.inl hx)), i3, i4⟩
/-- whatever holds of the base and of what follows from what it holds of, holds of the model -/
theorem Lst.pred {w : Wd} {l : List Ru} {m n : List F} {P : F → Prop} (h : Lst w l m (some n)) (hs : SS m) (hm : ∀ x ∈ m, P x) (hp : ∀ m' : List F, (∀ x ∈ m', P x) → ∀ f, Ins w l m' f → P f) : ∀ x ∈ n, P x := by
  generalize ho : Option.some n = o at h
  induction h using Lst.ind with
  | full _ => cases ho
  | done h1 h2 => cases ho; exact hm
  | more h1 h2 h3 ih =>
    refine ih (step_SS hs) (fun x hx => ?_) ho
    rcases (mem_step hs).1 hx with h | h
    · exact hm x h
    · exact hp _ hm x h
theorem Lst.least {w : Wd} {l : List Ru} {m n c : List F} (h : Lst w l m (some n)) (hs : SS m) (hm : ∀ x ∈ m, x ∈ c) (hc : Closed w l c) : ∀ x ∈ n, x ∈ c :=
  h.pred hs hm fun _ hm' f hf => hc f (hf.mono (fun _ h => h) hm')
/-- where it is too great, each closed list that has the base is -/
theorem Lst.over {w : Wd} {l : List Ru} {m c : List F} (h : Lst w l m none) (hs : SS m) (hm : ∀ x ∈ m, x ∈ c) (hc : Closed w l c) : 400 < c.length := by
  generalize ho : (Option.none : Option (List F)) = o at h
  induction h using Lst.ind with
  | full h1 => exact Nat.lt_of_lt_of_le h1 (sub_len hs hm)
  | done h1 h2 => cases ho
  | more h1 h2 h3 ih =>
    refine ih (step_SS hs) (fun x hx => ?_) ho
    rcases (mem_step hs).1 hx with h | h
    · exact hm x h
    · exact hc x (h.mono (fun _ h => h) hm)
/-- what a way that grows by what follows comes to: a list that has the base, is closed, and is within each such one -/
theorem Lst.of {w : Wd} {l : List Ru} {m n : List F} (hs : SS m) (hn : SS n) (h4 : n.length ≤ 400) (h1 : ∀ x ∈ m, x ∈ n) (h2 : Closed w l n) (h3 : ∀ c, (∀ x ∈ m, x ∈ c) → Closed w l c → ∀ x ∈ n, x ∈ c) : Lst w l m (some n) := by
  obtain ⟨o, ho⟩ := Lst.ex w l 401 m hs (by omega)
  cases o with
  | none => have := ho.over hs h1 h2; omega
  | some n' =>
    obtain ⟨i1, i2, i3, _⟩ := ho.got hs
    rw [show n = n' from hn.uniq i1 fun x => ⟨h3 n' i2 i3 x, ho.least hs h1 h2 x⟩]
    exact ho

/-! the statements' sentences -/
/-- with facts more, with rules more -/
theorem grows {w : Wd} {l l' : List Ru} {b b' n n' : List F} (h : Lst w l (sortF b) (some n)) (h' : Lst w l' (sortF b') (some n')) (hl : ∀ r ∈ l, r ∈ l') (hb : ∀ x ∈ b, x ∈ b') : ∀ x ∈ n, x ∈ n' := by
  obtain ⟨_, i2, i3, _⟩ := h'.got (sortF_SS _)
  refine h.least (sortF_SS _) (fun x hx => i2 x ((mem_sortF _ _).2 (hb x ((mem_sortF _ _).1 hx)))) fun f hf => i3 f (hf.mono hl fun _ h => h)
/-- the least model of a least model -/
theorem twice {w : Wd} {l : List Ru} {b n : List F} (h : Lst w l (sortF b) (some n)) : Lst w l (sortF n) (some n) := by
  obtain ⟨i1, _, i3, i4⟩ := h.got (sortF_SS _)
  have e : sortF n = n := (sortF_of i1 fun _ => Iff.rfl).symm
  rw [e]
  exact .done i4 ((step_fix i1).2 i3)
/-- in whatever order, however often -/
theorem same {w : Wd} {l l' : List Ru} {b b' : List F} {o : Option (List F)} (h : Lst w l (sortF b) o) (hl : ∀ r, r ∈ l ↔ r ∈ l') (hb : ∀ x, x ∈ b ↔ x ∈ b') : Lst w l' (sortF b') o := by
  rw [← (sortF_eq_iff b b').2 hb]
  have hst : ∀ m, SS m → step w l' m = step w l m := fun m hs => (step_SS hs).uniq (step_SS hs) fun x => by
    rw [mem_step hs, mem_step hs]
    exact ⟨fun h => h.imp id fun h => h.mono (fun r hr => (hl r).2 hr) fun _ h => h, fun h => h.imp id fun h => h.mono (fun r hr => (hl r).1 hr) fun _ h => h⟩
  have hs := sortF_SS b
  generalize sortF b = m at h hs
  induction h using Lst.ind with
  | full h1 => exact .full h1
  | done h1 h2 => exact .done h1 (by rw [hst _ hs]; exact h2)
  | more h1 h2 h3 ih =>
    refine .more h1 (by rw [hst _ hs]; exact h2) ?_
    rw [hst _ hs]
    exact ih (step_SS hs)
theorem lits_ext {home : Tm} : ∀ {ls : List Lt} {fs : List F} {e e2 : Env}, lits home ls fs e = some e2 → ∃ m, e2 = e ++ m
  | [], [], e, e2, h => by rw [lits] at h; cases h; exact ⟨[], by simp⟩
  | l :: ls, f :: fs, e, e2, h => by
    rw [lits] at h
    obtain ⟨e1, h1, h2⟩ := Option.bind_eq_some_iff.1 h
    obtain ⟨⟨m, rfl⟩, _⟩ := Mt.lit_has h1
    obtain ⟨m', rfl⟩ := lits_ext h2
    exact ⟨m ++ m', by simp⟩
  | [], f :: fs, e, e2, h => by cases h
  | l :: ls, [], e, e2, h => by cases h
/-- what follows stands at one of the names, said by one of the homes -/
theorem Ins.place {w : Wd} {l : List Ru} {m : List F} {f : F} (h : Ins w l m f) : f.at_ ∈ w.names ∧ f.by_ ∈ w.homes := by
  obtain ⟨r, _, h, hh, e, hu, fs, _, e2, h2, h3, h4⟩ := h
  refine ⟨h4, ?_⟩
  obtain ⟨mm, rfl⟩ := lits_ext h2
  have hv := Mt.val_ext (Mt.uni_val hu).1 mm
  have hb := (Mt.fact_parts (show Mt.fact (Mt.place r.home r.to_) r.home r.pred r.args (e ++ mm) = some f from h3)).2.1
  rw [hv] at hb
  have : h = f.by_ := Mt.nm_inj (Option.some.inj hb)
  rw [← this]; exact hh
theorem names {w : Wd} {l : List Ru} {b n : List F} (h : Lst w l (sortF b) (some n)) : ∀ x ∈ n, x ∈ b ∨ (x.at_ ∈ w.names ∧ x.by_ ∈ w.homes) :=
  h.pred (sortF_SS _) (fun _ hx => .inl ((mem_sortF _ _).1 hx)) fun _ _ _ hf => .inr hf.place
end Ml
end Go.Proofs.YtdehimbfcilhpaaGreatDoor
