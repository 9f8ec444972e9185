/-
  Constants, terms, literals, rules, facts: what every layer speaks of. No memory, no program.
-/
import Derived.KernelRfl
namespace Go.Proofs.YtcncmpgababfjaaDoor

/-- a constant, a term, a literal, a rule, a fact -/
structure K where
  num : Bool
  n : Int
  s : List UInt8
structure Tm where
  v : List UInt8
  k : K
structure Lt where
  by_ : Tm
  pred : List UInt8
  args : List Tm
  at_ : Tm
structure Ru where
  home : Tm
  pred : List UInt8
  args : List Tm
  to_ : Tm
  body : List Lt
structure F where
  at_ : List UInt8
  by_ : List UInt8
  pred : List UInt8
  ks : List K
def k0 : K := ⟨false, 0, []⟩
def t0 : Tm := ⟨[], k0⟩
end Go.Proofs.YtcncmpgababfjaaDoor

/-
  The mathematics of layer 11: values of terms, literals matched with facts, heads and bodies of rules, what follows. No program in this text.
-/
namespace Go.Proofs.YtcncmpgababfjaaDoor
namespace Mt

abbrev Tx := List UInt8
/-- bindings, in the order in which they were made -/
abbrev Env := List (Tx × K)
def eqK (a b : K) : Bool := (a.num == b.num) && ((a.n == b.n) && (a.s == b.s))
theorem eqK_iff (a b : K) : eqK a b = true ↔ a = b := by
  obtain ⟨x, y, z⟩ := a; obtain ⟨x', y', z'⟩ := b
  simp [eqK]
theorem eqK_self (a : K) : eqK a a = true := (eqK_iff a a).2 rfl
theorem eqK_no {a b : K} (h : a ≠ b) : eqK a b = false := by
  rw [Bool.eq_false_iff]; exact fun h' => h ((eqK_iff a b).1 h')
/-- a term that is none -/
def nul (t : Tm) : Bool := t.v.isEmpty && (!t.k.num && decide (t.k.n = 0) && t.k.s.isEmpty)
def get (v : Tx) (e : Env) : Option K := (e.find? (fun b => b.1 == v)).map (·.2)
def val (t : Tm) (e : Env) : Option K := if nul t = true then none else if t.v = [] then some t.k else get t.v e
def uni (t : Tm) (c : K) (e : Env) : Option Env :=
  match val t e with
  | some v => if eqK v c = true then some e else none
  | none => if nul t = true then none else some (e ++ [(t.v, c)])
def nm (s : Tx) : K := ⟨false, 0, s⟩
def unis : List Tm → List K → Env → Option Env
  | [], [], e => some e
  | t :: ts, c :: cs, e => (uni t c e).bind fun e1 => unis ts cs e1
  | _, _, _ => none
def by1 (l : Lt) (f : F) (e : Env) : Option Env := if nul l.by_ = true then (if f.by_ = f.at_ then some e else none) else uni l.by_ (nm f.by_) e
def place (home : Tm) (t : Tm) : Tm := if nul t = true then home else t
def lit (home : Tm) (l : Lt) (f : F) (e : Env) : Option Env :=
  if l.pred = f.pred ∧ l.args.length = f.ks.length then (uni (place home l.at_) (nm f.at_) e).bind fun e1 => (by1 l f e1).bind fun e2 => unis l.args f.ks e2 else none
def name (t : Tm) (e : Env) : Option Tx := (val t e).bind fun c => if eqK c (nm c.s) = true then some c.s else none
def vals (e : Env) : List Tm → Option (List K)
  | [] => some []
  | t :: ts => (val t e).bind fun c => (vals e ts).map fun cs => c :: cs
/-- the fact of an atom, by its place and by who says it -/
def fact (at_ by_ : Tm) (pred : Tx) (args : List Tm) (e : Env) : Option F := (name at_ e).bind fun a => (name by_ e).bind fun b => (vals e args).map fun ks => ⟨a, b, pred, ks⟩
def head (r : Ru) (e : Env) : Option F := fact (place r.home r.to_) r.home r.pred r.args e
def bodyF (home : Tm) (l : Lt) (e : Env) : Option F := fact (place home l.at_) (place (place home l.at_) l.by_) l.pred l.args e
def body (home : Tm) (e : Env) : List Lt → Option (List F)
  | [] => some []
  | l :: ls => (bodyF home l e).bind fun f => (body home e ls).map fun fs => f :: fs
def lits (home : Tm) : List Lt → List F → Env → Option Env
  | [], [], e => some e
  | l :: ls, f :: fs, e => (lit home l f e).bind fun e1 => lits home ls fs e1
  | _, _, _ => none
/-- what Follows tells -/
def Fol (r : Ru) (h : F) (b : List F) : Prop := ∃ e1 e2, uni r.home (nm h.by_) [] = some e1 ∧ lits r.home r.body b e1 = some e2 ∧ head r e2 = some h

/-! bindings that grow -/
theorem get_ext {v : Tx} {e : Env} {c : K} (h : get v e = some c) (m : Env) : get v (e ++ m) = some c := by
  unfold get at *
  rw [List.find?_append]
  cases hx : e.find? (fun b => b.1 == v) with
  | none => rw [hx] at h; cases h
  | some b => rw [hx] at h; exact h
theorem val_ext {t : Tm} {e : Env} {c : K} (h : val t e = some c) (m : Env) : val t (e ++ m) = some c := by
  unfold val at *
  split at h
  · cases h
  · rename_i h1
    rw [if_neg h1]
    split at h
    · rename_i h2; rw [if_pos h2]; exact h
    · rename_i h2; rw [if_neg h2]; exact get_ext h m
theorem get_new {v : Tx} {e : Env} {c : K} (h : get v e = none) : get v (e ++ [(v, c)]) = some c := by
  unfold get at *
  rw [List.find?_append]
  cases hx : e.find? (fun b => b.1 == v) with
  | some b => rw [hx] at h; cases h
  | none => simp
/-- what is bound already -/
theorem uni_fix {t : Tm} {c : K} {e : Env} (h : val t e = some c) : uni t c e = some e := by
  unfold uni; rw [h]; simp only; rw [if_pos (eqK_self c)]
theorem uni_val {t : Tm} {c : K} {e e' : Env} (h : uni t c e = some e') : val t e' = some c ∧ ∃ m, e' = e ++ m := by
  unfold uni at h
  cases hv : val t e with
  | some v =>
    rw [hv] at h
    simp only at h
    split at h
    · rename_i hk; cases h
      exact ⟨by rw [hv, (eqK_iff v c).1 hk], [], by simp⟩
    · cases h
  | none =>
    rw [hv] at h
    simp only at h
    split at h
    · cases h
    · rename_i hn
      cases h
      refine ⟨?_, _, rfl⟩
      unfold val at hv ⊢
      rw [if_neg hn] at hv ⊢
      split at hv
      · cases hv
      · rename_i h2; rw [if_neg h2]; exact get_new hv
theorem uni_only {t : Tm} {c d : K} {e e' : Env} (h : val t e = some c) (hu : uni t d e = some e') : c = d ∧ e' = e := by
  unfold uni at hu; rw [h] at hu; simp only at hu
  split at hu
  · rename_i hk; cases hu; exact ⟨(eqK_iff c d).1 hk, rfl⟩
  · cases hu
theorem nm_inj {a b : Tx} (h : nm a = nm b) : a = b := by
  unfold nm at h; injection h

theorem unis_val : ∀ {ts : List Tm} {cs : List K} {e e' : Env}, unis ts cs e = some e' → (∃ m, e' = e ++ m) ∧ ts.length = cs.length ∧ ∀ i (h1 : i < ts.length) (h2 : i < cs.length), val ts[i] e' = some cs[i]
  | [], [], e, e', h => by cases h; exact ⟨⟨[], by simp⟩, rfl, fun i h => by simp at h⟩
  | t :: ts, c :: cs, e, e', h => by
    rw [unis] at h
    obtain ⟨e1, h1, h2⟩ := Option.bind_eq_some_iff.1 h
    obtain ⟨hv, m, rfl⟩ := uni_val h1
    obtain ⟨⟨m', rfl⟩, hl, hi⟩ := unis_val h2
    refine ⟨⟨m ++ m', by simp⟩, by simp [hl], fun i q1 q2 => ?_⟩
    match i with
    | 0 => exact val_ext hv m'
    | i + 1 => exact hi i (by simpa using q1) (by simpa using q2)
  | [], c :: cs, e, e', h => by cases h
  | t :: ts, [], e, e', h => by cases h
theorem unis_fix : ∀ {ts : List Tm} {cs : List K} {e : Env}, ts.length = cs.length → (∀ i (h1 : i < ts.length) (h2 : i < cs.length), val ts[i] e = some cs[i]) → unis ts cs e = some e
  | [], [], e, _, _ => rfl
  | t :: ts, c :: cs, e, hl, h => by
    have h0 : val t e = some c := h 0 (by simp) (by simp)
    rw [unis, uni_fix h0]
    exact unis_fix (by simpa using hl) fun i q1 q2 => h (i + 1) (by simpa using q1) (by simpa using q2)
  | [], c :: cs, e, hl, _ => by simp at hl
  | t :: ts, [], e, hl, _ => by simp at hl
theorem unis_only : ∀ {ts : List Tm} {cs ds : List K} {e e' : Env}, (∀ i (h1 : i < ts.length) (h2 : i < cs.length), val ts[i] e = some cs[i]) → ts.length = cs.length → unis ts ds e = some e' → cs = ds
  | [], [], [], e, e', _, _, _ => rfl
  | t :: ts, c :: cs, d :: ds, e, e', h, hl, hu => by
    rw [unis] at hu
    obtain ⟨e1, h1, h2⟩ := Option.bind_eq_some_iff.1 hu
    have h0 : val t e = some c := h 0 (by simp) (by simp)
    obtain ⟨rfl, rfl⟩ := uni_only h0 h1
    rw [unis_only (fun i q1 q2 => h (i + 1) (by simpa using q1) (by simpa using q2)) (by simpa using hl) h2]
  | [], [], d :: ds, e, e', _, _, hu => by cases hu
  | t :: ts, c :: cs, [], e, e', _, _, hu => by cases hu
  | [], c :: cs, _, e, e', _, hl, _ => by simp at hl
  | t :: ts, [], _, e, e', _, hl, _ => by simp at hl

/-- what a literal tells of a fact, all of it bound -/
structure Has (home : Tm) (l : Lt) (f : F) (e : Env) : Prop where
  pred : l.pred = f.pred
  len : l.args.length = f.ks.length
  at_ : val (place home l.at_) e = some (nm f.at_)
  by_ : if nul l.by_ = true then f.by_ = f.at_ else val l.by_ e = some (nm f.by_)
  args : ∀ i (h1 : i < l.args.length) (h2 : i < f.ks.length), val l.args[i] e = some f.ks[i]
theorem lit_has {home : Tm} {l : Lt} {f : F} {e e' : Env} (h : lit home l f e = some e') : (∃ m, e' = e ++ m) ∧ Has home l f e' := by
  unfold lit at h
  split at h
  · rename_i hp
    obtain ⟨e1, h1, h⟩ := Option.bind_eq_some_iff.1 h
    obtain ⟨e2, h2, h3⟩ := Option.bind_eq_some_iff.1 h
    obtain ⟨v1, m1, rfl⟩ := uni_val h1
    obtain ⟨⟨m3, rfl⟩, _, v3⟩ := unis_val h3
    unfold by1 at h2
    split at h2
    · rename_i hn
      split at h2
      · rename_i hb
        cases h2
        exact ⟨⟨m1 ++ m3, by simp⟩, hp.1, hp.2, val_ext v1 m3, by rw [if_pos hn]; exact hb, v3⟩
      · cases h2
    · rename_i hn
      obtain ⟨v2, m2, rfl⟩ := uni_val h2
      exact ⟨⟨m1 ++ m2 ++ m3, by simp⟩, hp.1, hp.2, by rw [List.append_assoc]; exact val_ext v1 (m2 ++ m3), by rw [if_neg hn]; exact val_ext v2 m3, v3⟩
  · cases h
theorem has_lit {home : Tm} {l : Lt} {f : F} {e : Env} (h : Has home l f e) : lit home l f e = some e := by
  unfold lit
  rw [if_pos ⟨h.pred, h.len⟩, uni_fix h.at_]
  simp only [Option.bind_some]
  have hb := h.by_
  unfold by1
  split
  · rename_i hn
    rw [if_pos hn] at hb
    rw [if_pos hb]
    simp only [Option.bind_some]
    exact unis_fix h.len h.args
  · rename_i hn
    rw [if_neg hn] at hb
    rw [uni_fix hb]
    simp only [Option.bind_some]
    exact unis_fix h.len h.args
/-- P11.5: it matches the fact again, unchanged -/
theorem lit_again {home : Tm} {l : Lt} {f : F} {e e' : Env} (h : lit home l f e = some e') : lit home l f e' = some e' := has_lit (lit_has h).2
/-- another fact does not match by it -/
theorem lit_only {home : Tm} {l : Lt} {f g : F} {e e' : Env} (h : Has home l f e) (hg : lit home l g e = some e') : f = g := by
  unfold lit at hg
  split at hg
  · rename_i hp
    obtain ⟨e1, h1, hg⟩ := Option.bind_eq_some_iff.1 hg
    obtain ⟨e2, h2, h3⟩ := Option.bind_eq_some_iff.1 hg
    obtain ⟨ha, rfl⟩ := uni_only h.at_ h1
    have ha := nm_inj ha
    have hb := h.by_
    have hby : f.by_ = g.by_ ∧ e2 = e1 := by
      unfold by1 at h2
      split at h2
      · rename_i hn
        rw [if_pos hn] at hb
        split at h2
        · rename_i hq; cases h2; exact ⟨by rw [hb, hq, ha], rfl⟩
        · cases h2
      · rename_i hn
        rw [if_neg hn] at hb
        obtain ⟨hq, rfl⟩ := uni_only hb h2
        exact ⟨nm_inj hq, rfl⟩
    obtain ⟨hby, rfl⟩ := hby
    have hk := unis_only h.args h.len h3
    have hpr := h.pred.symm.trans hp.1
    obtain ⟨f1, f2, f3, f4⟩ := f; obtain ⟨g1, g2, g3, g4⟩ := g
    simp only at ha hby hk hpr
    subst ha hby hk hpr
    rfl
  · cases hg
end Mt
end Go.Proofs.YtcncmpgababfjaaDoor

/-
  The mathematics of layer 11: a rule's instances follow. No program in this text.
-/
namespace Go.Proofs.YtcncmpgababfjaaDoor
namespace Mt

/-- bindings that say nothing else than others do -/
def Sub (e d : Env) : Prop := ∀ v c, get v e = some c → get v d = some c
theorem Sub.nil (d : Env) : Sub [] d := fun v c h => by simp [get] at h
theorem get_app {v u : Tx} {e : Env} {c k : K} (h : get v (e ++ [(u, k)]) = some c) : get v e = some c ∨ (v = u ∧ c = k) := by
  unfold get at *
  rw [List.find?_append] at h
  cases hx : e.find? (fun b => b.1 == v) with
  | some b => rw [hx] at h; exact .inl h
  | none =>
    rw [hx] at h
    by_cases hu : u = v
    · subst hu
      simp at h
      exact .inr ⟨rfl, h.symm⟩
    · have hb : (u == v) = false := by simpa using hu
      simp [hb] at h
theorem val_sub {t : Tm} {e d : Env} {c : K} (hs : Sub e d) (h : val t e = some c) : val t d = some c := by
  unfold val at *
  split at h
  · cases h
  · rename_i h1
    rw [if_neg h1]
    split at h
    · rename_i h2; rw [if_pos h2]; exact h
    · rename_i h2; rw [if_neg h2]; exact hs _ _ h
/-- a term that has a value: it is made that one, and the bindings say nothing else -/
theorem uni_sub {t : Tm} {e d : Env} {c : K} (hs : Sub e d) (h : val t d = some c) : ∃ e', uni t c e = some e' ∧ Sub e' d := by
  cases hv : val t e with
  | some v =>
    have := val_sub hs hv
    rw [h] at this
    cases this
    exact ⟨e, uni_fix hv, hs⟩
  | none =>
    have hn : nul t = false := by
      unfold val at h
      split at h
      · cases h
      · rename_i h1; simpa using h1
    have hg : get t.v d = some c := by
      unfold val at h hv
      rw [if_neg (by rw [hn]; decide)] at h hv
      split at h
      · rename_i h2; rw [if_pos h2] at hv; cases hv
      · exact h
    refine ⟨e ++ [(t.v, c)], ?_, fun v k hk => ?_⟩
    · unfold uni; rw [hv]; simp only; rw [if_neg (by rw [hn]; decide)]
    · rcases get_app hk with h1 | ⟨rfl, rfl⟩
      · exact hs _ _ h1
      · exact hg
theorem name_val {t : Tm} {e : Env} {a : Tx} (h : name t e = some a) : val t e = some (nm a) := by
  unfold name at h
  obtain ⟨c, h1, h2⟩ := Option.bind_eq_some_iff.1 h
  split at h2
  · rename_i hk
    cases h2
    rw [h1, ← (eqK_iff _ _).1 hk]
  · cases h2
theorem val_name {t : Tm} {e : Env} {a : Tx} (h : val t e = some (nm a)) : name t e = some a := by
  unfold name
  rw [h]
  simp only [Option.bind_some]
  exact if_pos (eqK_self _)
theorem vals_val {e : Env} : ∀ {ts : List Tm} {ks : List K}, vals e ts = some ks → ts.length = ks.length ∧ ∀ i (h1 : i < ts.length) (h2 : i < ks.length), val ts[i] e = some ks[i]
  | [], ks, h => by cases h; exact ⟨rfl, fun i h => by simp at h⟩
  | t :: ts, ks, h => by
    rw [vals] at h
    obtain ⟨c, h1, h2⟩ := Option.bind_eq_some_iff.1 h
    obtain ⟨cs, h3, rfl⟩ := Option.map_eq_some_iff.1 h2
    obtain ⟨hl, hi⟩ := vals_val h3
    refine ⟨by simp [hl], fun i q1 q2 => ?_⟩
    match i with
    | 0 => exact h1
    | i + 1 => exact hi i (by simpa using q1) (by simpa using q2)
theorem val_vals {e : Env} : ∀ {ts : List Tm} {ks : List K}, ts.length = ks.length → (∀ i (h1 : i < ts.length) (h2 : i < ks.length), val ts[i] e = some ks[i]) → vals e ts = some ks
  | [], [], _, _ => rfl
  | t :: ts, c :: cs, hl, h => by
    have h0 : val t e = some c := h 0 (by simp) (by simp)
    rw [vals, h0]
    simp only [Option.bind_some]
    rw [val_vals (by simpa using hl) fun i q1 q2 => h (i + 1) (by simpa using q1) (by simpa using q2)]
    rfl
  | [], c :: cs, hl, _ => by simp at hl
  | t :: ts, [], hl, _ => by simp at hl
theorem unis_sub {d : Env} : ∀ {ts : List Tm} {cs : List K} {e : Env}, Sub e d → ts.length = cs.length → (∀ i (h1 : i < ts.length) (h2 : i < cs.length), val ts[i] d = some cs[i]) → ∃ e', unis ts cs e = some e' ∧ Sub e' d
  | [], [], e, hs, _, _ => ⟨e, rfl, hs⟩
  | t :: ts, c :: cs, e, hs, hl, h => by
    have h0 : val t d = some c := h 0 (by simp) (by simp)
    obtain ⟨e1, h1, hs1⟩ := uni_sub hs h0
    obtain ⟨e2, h2, hs2⟩ := unis_sub hs1 (by simpa using hl) fun i q1 q2 => h (i + 1) (by simpa using q1) (by simpa using q2)
    exact ⟨e2, by rw [unis, h1]; exact h2, hs2⟩
  | [], c :: cs, e, _, hl, _ => by simp at hl
  | t :: ts, [], e, _, hl, _ => by simp at hl
theorem fact_parts {a b : Tm} {p : Tx} {ts : List Tm} {e : Env} {f : F} (h : fact a b p ts e = some f) : val a e = some (nm f.at_) ∧ val b e = some (nm f.by_) ∧ f.pred = p ∧ vals e ts = some f.ks := by
  unfold fact at h
  obtain ⟨x, h1, h⟩ := Option.bind_eq_some_iff.1 h
  obtain ⟨y, h2, h⟩ := Option.bind_eq_some_iff.1 h
  obtain ⟨ks, h3, rfl⟩ := Option.map_eq_some_iff.1 h
  exact ⟨name_val h1, name_val h2, rfl, h3⟩
theorem parts_fact {a b : Tm} {p : Tx} {ts : List Tm} {e : Env} {f : F} (h1 : val a e = some (nm f.at_)) (h2 : val b e = some (nm f.by_)) (h3 : f.pred = p) (h4 : vals e ts = some f.ks) : fact a b p ts e = some f := by
  unfold fact
  rw [val_name h1, val_name h2, h4]
  subst h3
  rfl
/-- a literal's own fact matches it -/
theorem lit_sub {home : Tm} {l : Lt} {f : F} {e d : Env} (hs : Sub e d) (h : bodyF home l d = some f) : ∃ e', lit home l f e = some e' ∧ Sub e' d := by
  obtain ⟨h1, h2, h3, h4⟩ := fact_parts h
  obtain ⟨hl, hi⟩ := vals_val h4
  obtain ⟨e1, u1, s1⟩ := uni_sub hs h1
  have hb : ∃ e2, by1 l f e1 = some e2 ∧ Sub e2 d := by
    unfold by1
    by_cases hn : nul l.by_ = true
    · rw [if_pos hn]
      unfold place at h2
      rw [if_pos hn] at h2
      rw [show (if nul l.at_ = true then home else l.at_) = place home l.at_ from rfl, h1] at h2
      have := nm_inj (Option.some.inj h2)
      exact ⟨e1, by rw [if_pos this.symm], s1⟩
    · rw [if_neg hn]
      unfold place at h2
      rw [if_neg hn] at h2
      exact uni_sub s1 h2
  obtain ⟨e2, u2, s2⟩ := hb
  obtain ⟨e3, u3, s3⟩ := unis_sub s2 hl hi
  refine ⟨e3, ?_, s3⟩
  unfold lit
  rw [if_pos ⟨h3.symm, hl⟩, u1]
  simp only [Option.bind_some]
  rw [u2]
  simp only [Option.bind_some]
  exact u3
theorem body_len {home : Tm} {d : Env} : ∀ {ls : List Lt} {fs : List F}, body home d ls = some fs → ls.length = fs.length
  | [], fs, h => by cases h; rfl
  | l :: ls, fs, h => by
    rw [body] at h
    obtain ⟨f, h1, h2⟩ := Option.bind_eq_some_iff.1 h
    obtain ⟨gs, h3, rfl⟩ := Option.map_eq_some_iff.1 h2
    simp [body_len h3]
/-- a body's own facts match its literals; all that is in it is bound -/
theorem lits_sub {home : Tm} {d : Env} : ∀ {ls : List Lt} {fs : List F} {e : Env}, Sub e d → body home d ls = some fs → ∃ e', lits home ls fs e = some e' ∧ Sub e' d ∧ (∃ m, e' = e ++ m) ∧ ∀ l ∈ ls, ∃ f, Has home l f e'
  | [], fs, e, hs, h => by cases h; exact ⟨e, rfl, hs, ⟨[], by simp⟩, fun l hl => by simp at hl⟩
  | l :: ls, fs, e, hs, h => by
    rw [body] at h
    obtain ⟨f, h1, h2⟩ := Option.bind_eq_some_iff.1 h
    obtain ⟨gs, h3, rfl⟩ := Option.map_eq_some_iff.1 h2
    obtain ⟨e1, u1, s1⟩ := lit_sub hs h1
    obtain ⟨⟨m1, rfl⟩, hh⟩ := lit_has u1
    obtain ⟨e2, u2, s2, ⟨m2, rfl⟩, hall⟩ := lits_sub s1 h3
    refine ⟨_, by rw [lits, u1]; exact u2, s2, ⟨m1 ++ m2, by simp⟩, fun y hy => ?_⟩
    rcases List.mem_cons.1 hy with rfl | hy
    · refine ⟨f, hh.pred, hh.len, val_ext hh.at_ m2, ?_, fun i q1 q2 => val_ext (hh.args i q1 q2) m2⟩
      have hb := hh.by_
      split
      · rename_i hn; rw [if_pos hn] at hb; exact hb
      · rename_i hn; rw [if_neg hn] at hb; exact val_ext hb m2
    · exact hall y hy
/-- a variable is one of a rule's: of its home, or of a literal's -/
def Of (r : Ru) (v : Tx) : Prop := v = r.home.v ∨ ∃ y ∈ r.body, v = y.by_.v ∨ (∃ t ∈ y.args, v = t.v) ∨ v = y.at_.v
theorem val_get {t : Tm} {e : Env} {c : K} (hv : t.v ≠ []) (h : val t e = some c) : get t.v e = some c := by
  unfold val at h
  split at h
  · cases h
  · exact h
theorem nul_v {t : Tm} (h : t.v ≠ []) : nul t = false := by
  unfold nul
  cases ht : t.v with
  | nil => exact absurd ht h
  | cons a b => rfl
/-- THE STAGE'S THEOREM: where a rule's head and body have values, the head follows from the body -/
theorem instances {r : Ru} {d : Env} {h : F} {b : List F} (hh : head r d = some h) (hb : body r.home d r.body = some b) (ho : ∀ t, (t ∈ r.args ∨ t = r.to_) → t.v ≠ [] → Of r t.v) : Fol r h b := by
  obtain ⟨h1, h2, h3, h4⟩ := fact_parts hh
  obtain ⟨e1, u1, s1⟩ := uni_sub (Sub.nil d) h2
  have v1 := (uni_val u1).1
  obtain ⟨e2, u2, s2, ⟨m, rfl⟩, hall⟩ := lits_sub s1 hb
  refine ⟨e1, _, u1, u2, ?_⟩
  have hbound : ∀ v, v ≠ [] → Of r v → ∃ c, get v (e1 ++ m) = some c := fun v hv hof => by
    rcases hof with rfl | ⟨y, hy, hof⟩
    · exact ⟨_, get_ext (val_get hv v1) m⟩
    · obtain ⟨f, hf⟩ := hall y hy
      rcases hof with rfl | ⟨t, ht, rfl⟩ | rfl
      · have := hf.by_
        rw [if_neg (by rw [nul_v hv]; decide)] at this
        exact ⟨_, val_get hv this⟩
      · obtain ⟨i, hi, rfl⟩ := List.getElem_of_mem ht
        have hi2 : i < f.ks.length := by have := hf.len; omega
        exact ⟨_, val_get hv (hf.args i hi hi2)⟩
      · have := hf.at_
        unfold place at this
        rw [if_neg (by rw [nul_v hv]; decide)] at this
        exact ⟨_, val_get hv this⟩
  have hval : ∀ t c, (t.v ≠ [] → Of r t.v) → val t d = some c → val t (e1 ++ m) = some c := fun t c hof hc => by
    by_cases hv : t.v = []
    · unfold val at hc ⊢
      split at hc
      · cases hc
      · rename_i hn
        rw [if_neg hn, if_pos hv] at *
        exact hc
    · obtain ⟨k, hk⟩ := hbound _ hv (hof hv)
      have h5 := s2 _ _ hk
      rw [val_get hv hc] at h5
      cases h5
      unfold val
      rw [if_neg (by rw [nul_v hv]; decide), if_neg hv]
      exact hk
  obtain ⟨hl, hi⟩ := vals_val h4
  refine parts_fact ?_ (val_ext v1 m) h3 (val_vals hl fun i q1 q2 => hval _ _ (ho _ (.inl (List.getElem_mem q1))) (hi i q1 q2))
  unfold place at h1 ⊢
  split
  · rename_i hn
    rw [if_pos hn] at h1
    exact hval _ _ (fun _ => .inl rfl) h1
  · rename_i hn
    rw [if_neg hn] at h1
    exact hval _ _ (ho _ (.inr rfl)) h1
/-- with another predicate in place of one it does not follow -/
theorem lits_pred {home : Tm} : ∀ {ls : List Lt} {fs : List F} {e e' : Env}, lits home ls fs e = some e' → ls.length = fs.length ∧ ∀ i (h1 : i < ls.length) (h2 : i < fs.length), ls[i].pred = fs[i].pred
  | [], [], e, e', _ => ⟨rfl, fun i h => by simp at h⟩
  | l :: ls, f :: fs, e, e', h => by
    rw [lits] at h
    obtain ⟨e1, h1, h2⟩ := Option.bind_eq_some_iff.1 h
    obtain ⟨hl, hi⟩ := lits_pred h2
    refine ⟨by simp [hl], fun i q1 q2 => ?_⟩
    match i with
    | 0 => exact (lit_has h1).2.pred
    | i + 1 => exact hi i (by simpa using q1) (by simpa using q2)
  | [], f :: fs, e, e', h => by cases h
  | l :: ls, [], e, e', h => by cases h
theorem body_pred {home : Tm} {d : Env} : ∀ {ls : List Lt} {fs : List F}, body home d ls = some fs → ∀ i (h1 : i < ls.length) (h2 : i < fs.length), ls[i].pred = fs[i].pred
  | [], fs, h => fun i h1 => by simp at h1
  | l :: ls, fs, h => by
    rw [body] at h
    obtain ⟨f, h1, h2⟩ := Option.bind_eq_some_iff.1 h
    obtain ⟨gs, h3, rfl⟩ := Option.map_eq_some_iff.1 h2
    intro i q1 q2
    match i with
    | 0 => exact (fact_parts h1).2.2.1.symm
    | i + 1 => exact body_pred h3 i (by simpa using q1) (by simpa using q2)
theorem not_fol_pred {r : Ru} {d : Env} {h : F} {b b' : List F} {k : Nat} (hb : body r.home d r.body = some b) (hk : k < b.length) (hl : b'.length = b.length) (hp : (b'[k]'(by omega)).pred ≠ b[k].pred) : ¬ Fol r h b' := fun ⟨_, _, _, h2, _⟩ => by
  obtain ⟨h3, h4⟩ := lits_pred h2
  have h5 := body_len hb
  have h6 := h4 k (by omega) (by omega)
  have h7 := body_pred hb k (by omega) hk
  exact hp (h6.symm.trans h7)
theorem not_fol_len {r : Ru} {h : F} {b' : List F} (hl : b'.length ≠ r.body.length) : ¬ Fol r h b' := fun ⟨_, _, _, h2, _⟩ => hl (lits_pred h2).1.symm
end Mt
end Go.Proofs.YtcncmpgababfjaaDoor

/-
  The mathematics of layer 10: a rule's variables. No program in this text.
-/
namespace Go.Proofs.YtcncmpgababfjaaDoor
namespace Ck

abbrev Tx := List UInt8
/-- variables, and one more, if it is one -/
def wv (l : List Tx) (t : Tm) : List Tx := if t.v = [] ∨ t.v ∈ l then l else l ++ [t.v]
def wl (l : List Tx) (y : Lt) : List Tx := wv (y.args.foldl wv (wv l y.by_)) y.at_
def bnd (r : Ru) (k : Nat) : List Tx := (r.body.take k).foldl wl (wv [] r.home)
def vars (r : Ru) : List Tx := bnd r r.body.length

/-! what is bound -/
theorem wv_pre (l : List Tx) (t : Tm) : ∃ m, wv l t = l ++ m := by
  unfold wv; split
  · exact ⟨[], by simp⟩
  · exact ⟨_, rfl⟩
theorem fold_pre : ∀ (ts : List Tm) (l : List Tx), ∃ m, ts.foldl wv l = l ++ m
  | [], l => ⟨[], by simp⟩
  | t :: r, l => by
    obtain ⟨m, hm⟩ := wv_pre l t
    obtain ⟨n, hn⟩ := fold_pre r (wv l t)
    exact ⟨m ++ n, by rw [List.foldl_cons, hn, hm, List.append_assoc]⟩
theorem wl_pre (l : List Tx) (y : Lt) : ∃ m, wl l y = l ++ m := by
  obtain ⟨a, ha⟩ := wv_pre l y.by_
  obtain ⟨b, hb⟩ := fold_pre y.args (wv l y.by_)
  obtain ⟨c, hc⟩ := wv_pre (y.args.foldl wv (wv l y.by_)) y.at_
  exact ⟨a ++ (b ++ c), by unfold wl; rw [hc, hb, ha]; simp⟩
theorem bnd_succ {r : Ru} {k : Nat} (hk : k < r.body.length) : bnd r (k + 1) = wl (bnd r k) r.body[k] := by
  unfold bnd
  rw [List.take_succ_eq_append_getElem hk, List.foldl_append]; rfl
theorem bnd_pre {r : Ru} {k : Nat} (hk : k < r.body.length) : ∃ m, bnd r (k + 1) = bnd r k ++ m := by
  rw [bnd_succ hk]; exact wl_pre _ _
theorem bnd_all {r : Ru} {k : Nat} (hk : r.body.length ≤ k) : bnd r k = vars r := by
  unfold vars bnd
  rw [List.take_of_length_le hk, List.take_of_length_le (Nat.le_refl _)]
end Ck
end Go.Proofs.YtcncmpgababfjaaDoor

/-
  The mathematics of layer 11, as its functions go: step by step; how much is bound; which variables a rule has.
-/
namespace Go.Proofs.YtcncmpgababfjaaDoor
namespace Mt

/-! the way of the program's literal -/
def at1 (home : Tm) (l : Lt) : Tm := place home l.at_
def by2 (home : Tm) (l : Lt) : Tm := place (at1 home l) l.by_
theorem by1_eq {home : Tm} {l : Lt} {f : F} {e e1 : Env} (h : uni (at1 home l) (nm f.at_) e = some e1) : by1 l f e1 = uni (by2 home l) (nm f.by_) e1 := by
  unfold by1 by2 place
  split
  · have hv := (uni_val h).1
    unfold uni
    rw [hv]
    simp only
    by_cases hq : f.by_ = f.at_
    · rw [if_pos hq, hq, if_pos (eqK_self _)]
    · rw [if_neg hq, if_neg]
      intro hk
      exact hq (nm_inj ((eqK_iff _ _).1 hk)).symm
  · rfl
theorem lit_no {home : Tm} {l : Lt} {f : F} {e : Env} (h : ¬ (l.pred = f.pred ∧ l.args.length = f.ks.length)) : lit home l f e = none := by
  unfold lit; rw [if_neg h]
theorem lit_yes {home : Tm} {l : Lt} {f : F} {e : Env} (h1 : l.pred = f.pred) (h2 : l.args.length = f.ks.length) : lit home l f e = (uni (at1 home l) (nm f.at_) e).bind fun e1 => (by1 l f e1).bind fun e2 => unis l.args f.ks e2 := by
  unfold lit; rw [if_pos ⟨h1, h2⟩]; rfl
theorem lit_one_no {home : Tm} {l : Lt} {f : F} {e : Env} (h1 : l.pred = f.pred) (h2 : l.args.length = f.ks.length) (h : uni (at1 home l) (nm f.at_) e = none) : lit home l f e = none := by
  rw [lit_yes h1 h2, h]; rfl
theorem lit_one {home : Tm} {l : Lt} {f : F} {e e1 : Env} (h1 : l.pred = f.pred) (h2 : l.args.length = f.ks.length) (h : uni (at1 home l) (nm f.at_) e = some e1) : lit home l f e = (uni (by2 home l) (nm f.by_) e1).bind fun e2 => unis l.args f.ks e2 := by
  rw [lit_yes h1 h2, h]
  show (by1 l f e1).bind _ = _
  rw [by1_eq h]
theorem lit_oneR {home : Tm} {l : Lt} {f : F} {e e1 : Env} (h1 : l.pred = f.pred) (h2 : l.args.length = f.ks.length) (h : uni (at1 home l) (nm f.at_) e = some e1) : lit home l f e = (by1 l f e1).bind fun e2 => unis l.args f.ks e2 := by
  rw [lit_yes h1 h2, h]; rfl

theorem unis_step {ts : List Tm} {cs : List K} {e : Env} {i : Nat} (h1 : i < ts.length) (h2 : i < cs.length) : unis (ts.drop i) (cs.drop i) e = (uni ts[i] cs[i] e).bind fun e1 => unis (ts.drop (i + 1)) (cs.drop (i + 1)) e1 := by
  rw [List.drop_eq_getElem_cons h1, List.drop_eq_getElem_cons h2, unis]
theorem unis_done {ts : List Tm} {cs : List K} {e : Env} {i : Nat} (h1 : ts.length ≤ i) (h2 : cs.length ≤ i) : unis (ts.drop i) (cs.drop i) e = some e := by
  rw [List.drop_of_length_le h1, List.drop_of_length_le h2, unis]
theorem lits_step {home : Tm} {ts : List Lt} {cs : List F} {e : Env} {i : Nat} (h1 : i < ts.length) (h2 : i < cs.length) : lits home (ts.drop i) (cs.drop i) e = (lit home ts[i] cs[i] e).bind fun e1 => lits home (ts.drop (i + 1)) (cs.drop (i + 1)) e1 := by
  rw [List.drop_eq_getElem_cons h1, List.drop_eq_getElem_cons h2, lits]
theorem lits_done {home : Tm} {ts : List Lt} {cs : List F} {e : Env} {i : Nat} (h1 : ts.length ≤ i) (h2 : cs.length ≤ i) : lits home (ts.drop i) (cs.drop i) e = some e := by
  rw [List.drop_of_length_le h1, List.drop_of_length_le h2, lits]
theorem vals_step {ts : List Tm} {e : Env} {i : Nat} (h1 : i < ts.length) : vals e (ts.drop i) = (val ts[i] e).bind fun c => (vals e (ts.drop (i + 1))).map fun cs => c :: cs := by
  rw [List.drop_eq_getElem_cons h1, vals]
theorem vals_done {ts : List Tm} {e : Env} {i : Nat} (h1 : ts.length ≤ i) : vals e (ts.drop i) = some [] := by
  rw [List.drop_of_length_le h1, vals]
theorem body_step {home : Tm} {ts : List Lt} {e : Env} {i : Nat} (h1 : i < ts.length) : body home e (ts.drop i) = (bodyF home ts[i] e).bind fun f => (body home e (ts.drop (i + 1))).map fun fs => f :: fs := by
  rw [List.drop_eq_getElem_cons h1, body]
theorem body_done {home : Tm} {ts : List Lt} {e : Env} {i : Nat} (h1 : ts.length ≤ i) : body home e (ts.drop i) = some [] := by
  rw [List.drop_of_length_le h1, body]
/-- one more of what was gathered -/
theorem gather {α : Type} {x : Option (List α)} {y : Option (List α)} {acc : List α} {c : α} (h : x = (y.map fun cs => c :: cs).map fun cs => acc ++ cs) : x = y.map fun cs => (acc ++ [c]) ++ cs := by
  rw [h]; cases y <;> simp
theorem gathered {α : Type} {x : Option (List α)} {acc : List α} (h : x = (some []).map fun cs => acc ++ cs) : x = some acc := by
  rw [h]; simp

/-! how much is bound -/
theorem uni_len {t : Tm} {c : K} {e e' : Env} (h : uni t c e = some e') : e'.length ≤ e.length + 1 := by
  unfold uni at h
  split at h
  · split at h
    · cases h; omega
    · cases h
  · split at h
    · cases h
    · cases h; simp
theorem unis_len : ∀ {ts : List Tm} {cs : List K} {e e' : Env}, unis ts cs e = some e' → e'.length ≤ e.length + ts.length
  | [], [], e, e', h => by cases h; simp
  | t :: ts, c :: cs, e, e', h => by
    rw [unis] at h
    obtain ⟨e1, h1, h2⟩ := Option.bind_eq_some_iff.1 h
    have := uni_len h1
    have := unis_len h2
    rw [List.length_cons]; omega
  | [], c :: cs, e, e', h => by cases h
  | t :: ts, [], e, e', h => by cases h
theorem lit_len {home : Tm} {l : Lt} {f : F} {e e' : Env} (h : lit home l f e = some e') : e'.length ≤ e.length + (l.args.length + 2) := by
  by_cases hc : l.pred = f.pred ∧ l.args.length = f.ks.length
  · rw [lit_yes hc.1 hc.2] at h
    obtain ⟨e1, h1, h⟩ := Option.bind_eq_some_iff.1 h
    obtain ⟨e2, h2, h⟩ := Option.bind_eq_some_iff.1 h
    have := uni_len h1
    have := unis_len h
    have : e2.length ≤ e1.length + 1 := by
      rw [by1_eq h1] at h2
      exact uni_len h2
    omega
  · rw [lit_no hc] at h; cases h

/-! what Follows tells -/
def eqKs : List K → List K → Bool
  | [], [] => true
  | k :: r, l :: s => eqK k l && eqKs r s
  | _, _ => false
theorem eqKs_iff : ∀ a b : List K, eqKs a b = true ↔ a = b
  | [], [] => by simp [eqKs]
  | k :: r, l :: s => by simp [eqKs, eqK_iff, eqKs_iff r s]
  | [], _ :: _ => by simp [eqKs]
  | _ :: _, [] => by simp [eqKs]
def eqF (a b : F) : Bool := (a.at_ == b.at_) && ((a.by_ == b.by_) && ((a.pred == b.pred) && eqKs a.ks b.ks))
theorem eqF_iff (a b : F) : eqF a b = true ↔ a = b := by
  obtain ⟨x, y, z, u⟩ := a; obtain ⟨x', y', z', u'⟩ := b
  simp [eqF, eqKs_iff]
def fol (r : Ru) (h : F) (b : List F) : Bool :=
  match (uni r.home (nm h.by_) []).bind fun e1 => (lits r.home r.body b e1).bind fun e2 => head r e2 with
  | none => false
  | some f => eqF f h
theorem fol_iff (r : Ru) (h : F) (b : List F) : fol r h b = true ↔ Fol r h b := by
  unfold fol
  constructor
  · intro hf
    split at hf
    · cases hf
    · rename_i f hx
      obtain ⟨e1, h1, h4⟩ := Option.bind_eq_some_iff.1 hx
      obtain ⟨e2, h2, h3⟩ := Option.bind_eq_some_iff.1 h4
      have hfh := (eqF_iff f h).1 hf
      rw [hfh] at h3
      exact ⟨e1, e2, h1, h2, h3⟩
  · rintro ⟨e1, e2, h1, h2, h3⟩
    rw [h1]
    simp only [Option.bind_some]
    rw [h2]
    simp only [Option.bind_some]
    rw [h3]
    exact (eqF_iff h h).2 rfl
theorem fol_no {r : Ru} {h : F} {b : List F} (hn : ((uni r.home (nm h.by_) []).bind fun e1 => (lits r.home r.body b e1).bind fun e2 => head r e2) = none) : fol r h b = false := by
  rw [Bool.eq_false_iff]
  intro hf
  obtain ⟨e1, e2, h1, h2, h3⟩ := (fol_iff r h b).1 hf
  rw [h1] at hn
  simp only [Option.bind_some] at hn
  rw [h2] at hn
  simp only [Option.bind_some] at hn
  rw [h3] at hn
  cases hn
theorem fol_some {r : Ru} {h f : F} {b : List F} (hs : ((uni r.home (nm h.by_) []).bind fun e1 => (lits r.home r.body b e1).bind fun e2 => head r e2) = some f) (d : Bool) (hd : d = true ↔ f = h) : fol r h b = d := by
  rw [Bool.eq_iff_iff, hd, fol_iff]
  obtain ⟨e1, h1, hx⟩ := Option.bind_eq_some_iff.1 hs
  obtain ⟨e2, h2, hx⟩ := Option.bind_eq_some_iff.1 hx
  constructor
  · rintro ⟨e1', e2', g1, g2, g3⟩
    rw [h1] at g1; cases g1
    rw [h2] at g2; cases g2
    rw [hx] at g3; cases g3; rfl
  · rintro rfl
    exact ⟨e1, e2, h1, h2, hx⟩
theorem fol_len {r : Ru} {h : F} {b : List F} (hl : r.body.length ≠ b.length) : fol r h b = false := by
  rw [Bool.eq_false_iff]
  intro hf
  exact not_fol_len (fun h => hl h.symm) ((fol_iff r h b).1 hf)

/-! a rule's variables -/
theorem mem_wv {l : List Tx} {t : Tm} {x : Tx} (h : x ∈ Ck.wv l t) : x ∈ l ∨ x = t.v := by
  unfold Ck.wv at h
  split at h
  · exact .inl h
  · rcases List.mem_append.1 h with h | h
    · exact .inl h
    · exact .inr (List.mem_singleton.1 h)
theorem mem_fold : ∀ {ts : List Tm} {l : List Tx} {x : Tx}, x ∈ ts.foldl Ck.wv l → x ∈ l ∨ ∃ t ∈ ts, x = t.v
  | [], l, x, h => .inl h
  | t :: ts, l, x, h => by
    rw [List.foldl_cons] at h
    rcases mem_fold h with h | ⟨u, hu, rfl⟩
    · rcases mem_wv h with h | rfl
      · exact .inl h
      · exact .inr ⟨t, List.mem_cons_self .., rfl⟩
    · exact .inr ⟨u, List.mem_cons_of_mem _ hu, rfl⟩
theorem mem_wl {l : List Tx} {y : Lt} {x : Tx} (h : x ∈ Ck.wl l y) : x ∈ l ∨ (x = y.by_.v ∨ (∃ t ∈ y.args, x = t.v) ∨ x = y.at_.v) := by
  unfold Ck.wl at h
  rcases mem_wv h with h | h
  · rcases mem_fold h with h | h
    · rcases mem_wv h with h | h
      · exact .inl h
      · exact .inr (.inl h)
    · exact .inr (.inr (.inl h))
  · exact .inr (.inr (.inr h))
theorem mem_wls : ∀ {ys : List Lt} {l : List Tx} {x : Tx}, x ∈ ys.foldl Ck.wl l → x ∈ l ∨ ∃ y ∈ ys, (x = y.by_.v ∨ (∃ t ∈ y.args, x = t.v) ∨ x = y.at_.v)
  | [], l, x, h => .inl h
  | y :: ys, l, x, h => by
    rw [List.foldl_cons] at h
    rcases mem_wls h with h | ⟨z, hz, h⟩
    · rcases mem_wl h with h | h
      · exact .inl h
      · exact .inr ⟨y, List.mem_cons_self .., h⟩
    · exact .inr ⟨z, List.mem_cons_of_mem _ hz, h⟩
theorem mem_vars {r : Ru} {x : Tx} (h : x ∈ Ck.vars r) : Of r x := by
  unfold Ck.vars Ck.bnd at h
  rw [List.take_length] at h
  rcases mem_wls h with h | h
  · rcases mem_wv h with h | h
    · cases h
    · exact .inl h
  · exact .inr h
/-- has a head a variable of its own? -/
def ownV (N : List Tx) (t : Tm) : Bool := !t.v.isEmpty && !decide (t.v ∈ N)
def opn (r : Ru) : Bool := ownV (Ck.vars r) r.to_ || r.args.any (ownV (Ck.vars r))
theorem ownV_no {N : List Tx} {t : Tm} (h : ownV N t = false) (hv : t.v ≠ []) : t.v ∈ N := by
  unfold ownV at h
  have : t.v.isEmpty = false := by simpa using hv
  rw [this] at h
  simpa using h
theorem opn_no {r : Ru} (h : opn r = false) : ∀ t, (t ∈ r.args ∨ t = r.to_) → t.v ≠ [] → Of r t.v := by
  unfold opn at h
  rw [Bool.or_eq_false_iff] at h
  intro t ht hv
  apply mem_vars
  rcases ht with ht | rfl
  · exact ownV_no (Bool.eq_false_iff.2 fun hx => by rw [List.any_eq_true.2 ⟨t, ht, hx⟩] at h; cases h.2) hv
  · exact ownV_no h.1 hv
theorem inst {r : Ru} {d : Env} {h : F} {b : List F} (hh : head r d = some h) (hb : body r.home d r.body = some b) (ho : opn r = false) : fol r h b = true := (fol_iff r h b).2 (instances hh hb (opn_no ho))
theorem fol_other {r : Ru} {d : Env} {h : F} {b b' : List F} {k : Nat} (hb : body r.home d r.body = some b) (hk : k < b.length) (hl : b'.length = b.length) (hp : (b'[k]'(by omega)).pred ≠ b[k].pred) : fol r h b' = false := by
  rw [Bool.eq_false_iff]
  intro hf
  exact not_fol_pred hb hk hl hp ((fol_iff r h b').1 hf)
end Mt
end Go.Proofs.YtcncmpgababfjaaDoor
