/-
  The mathematics of layer 11, as its functions go: step by step; how much is bound; which variables a rule has.
-/
import Derived.Test.YtbahbibibpkddaaMb
import Derived.Test.YtbahbibibpkddaaCv
namespace Go.Proofs.Ytbahbibibpkddaa
namespace Mt

/-! the way of the program's literal -/
def at1 (home : Tm) (l : Lt) : Tm := place home l.at_
def by2 (home : Tm) (l : Lt) : Tm := place (at1 home l) l.by_
theorem by1_eq {home : Tm} {l : Lt} {f : F} {e e1 : Env} (h : uni (at1 home l) (nm f.at_) e = some e1) : by1 l f e1 = uni (by2 home l) (nm f.by_) e1 := by
  unfold by1 by2 place
  split
  · have hv := (uni_val h).1
    unfold uni
    rw [hv]
    simp only
    by_cases hq : f.by_ = f.at_
    · rw [if_pos hq, hq, if_pos (eqK_self _)]
    · rw [if_neg hq, if_neg]
      intro hk
      exact hq (nm_inj ((eqK_iff _ _).1 hk)).symm
  · rfl
theorem lit_no {home : Tm} {l : Lt} {f : F} {e : Env} (h : ¬ (l.pred = f.pred ∧ l.args.length = f.ks.length)) : lit home l f e = none := by
  unfold lit; rw [if_neg h]
theorem lit_yes {home : Tm} {l : Lt} {f : F} {e : Env} (h1 : l.pred = f.pred) (h2 : l.args.length = f.ks.length) : lit home l f e = (uni (at1 home l) (nm f.at_) e).bind fun e1 => (by1 l f e1).bind fun e2 => unis l.args f.ks e2 := by
  unfold lit; rw [if_pos ⟨h1, h2⟩]; rfl
theorem lit_one_no {home : Tm} {l : Lt} {f : F} {e : Env} (h1 : l.pred = f.pred) (h2 : l.args.length = f.ks.length) (h : uni (at1 home l) (nm f.at_) e = none) : lit home l f e = none := by
  rw [lit_yes h1 h2, h]; rfl
theorem lit_one {home : Tm} {l : Lt} {f : F} {e e1 : Env} (h1 : l.pred = f.pred) (h2 : l.args.length = f.ks.length) (h : uni (at1 home l) (nm f.at_) e = some e1) : lit home l f e = (uni (by2 home l) (nm f.by_) e1).bind fun e2 => unis l.args f.ks e2 := by
  rw [lit_yes h1 h2, h]
  show (by1 l f e1).bind _ = _
  rw [by1_eq h]
theorem lit_oneR {home : Tm} {l : Lt} {f : F} {e e1 : Env} (h1 : l.pred = f.pred) (h2 : l.args.length = f.ks.length) (h : uni (at1 home l) (nm f.at_) e = some e1) : lit home l f e = (by1 l f e1).bind fun e2 => unis l.args f.ks e2 := by
  rw [lit_yes h1 h2, h]; rfl

theorem unis_step {ts : List Tm} {cs : List K} {e : Env} {i : Nat} (h1 : i < ts.length) (h2 : i < cs.length) : unis (ts.drop i) (cs.drop i) e = (uni ts[i] cs[i] e).bind fun e1 => unis (ts.drop (i + 1)) (cs.drop (i + 1)) e1 := by
  rw [List.drop_eq_getElem_cons h1, List.drop_eq_getElem_cons h2, unis]
theorem unis_done {ts : List Tm} {cs : List K} {e : Env} {i : Nat} (h1 : ts.length ≤ i) (h2 : cs.length ≤ i) : unis (ts.drop i) (cs.drop i) e = some e := by
  rw [List.drop_of_length_le h1, List.drop_of_length_le h2, unis]
theorem lits_step {home : Tm} {ts : List Lt} {cs : List F} {e : Env} {i : Nat} (h1 : i < ts.length) (h2 : i < cs.length) : lits home (ts.drop i) (cs.drop i) e = (lit home ts[i] cs[i] e).bind fun e1 => lits home (ts.drop (i + 1)) (cs.drop (i + 1)) e1 := by
  rw [List.drop_eq_getElem_cons h1, List.drop_eq_getElem_cons h2, lits]
theorem lits_done {home : Tm} {ts : List Lt} {cs : List F} {e : Env} {i : Nat} (h1 : ts.length ≤ i) (h2 : cs.length ≤ i) : lits home (ts.drop i) (cs.drop i) e = some e := by
  rw [List.drop_of_length_le h1, List.drop_of_length_le h2, lits]
theorem vals_step {ts : List Tm} {e : Env} {i : Nat} (h1 : i < ts.length) : vals e (ts.drop i) = (val ts[i] e).bind fun c => (vals e (ts.drop (i + 1))).map fun cs => c :: cs := by
  rw [List.drop_eq_getElem_cons h1, vals]
theorem vals_done {ts : List Tm} {e : Env} {i : Nat} (h1 : ts.length ≤ i) : vals e (ts.drop i) = some [] := by
  rw [List.drop_of_length_le h1, vals]
theorem body_step {home : Tm} {ts : List Lt} {e : Env} {i : Nat} (h1 : i < ts.length) : body home e (ts.drop i) = (bodyF home ts[i] e).bind fun f => (body home e (ts.drop (i + 1))).map fun fs => f :: fs := by
  rw [List.drop_eq_getElem_cons h1, body]
theorem body_done {home : Tm} {ts : List Lt} {e : Env} {i : Nat} (h1 : ts.length ≤ i) : body home e (ts.drop i) = some [] := by
  rw [List.drop_of_length_le h1, body]
/-- one more of what was gathered -/
theorem gather {α : Type} {x : Option (List α)} {y : Option (List α)} {acc : List α} {c : α} (h : x = (y.map fun cs => c :: cs).map fun cs => acc ++ cs) : x = y.map fun cs => (acc ++ [c]) ++ cs := by
  rw [h]; cases y <;> simp
theorem gathered {α : Type} {x : Option (List α)} {acc : List α} (h : x = (some []).map fun cs => acc ++ cs) : x = some acc := by
  rw [h]; simp

/-! how much is bound -/
theorem uni_len {t : Tm} {c : K} {e e' : Env} (h : uni t c e = some e') : e'.length ≤ e.length + 1 := by
  unfold uni at h
  split at h
  · split at h
    · cases h; omega
    · cases h
  · split at h
    · cases h
    · cases h; simp
theorem unis_len : ∀ {ts : List Tm} {cs : List K} {e e' : Env}, unis ts cs e = some e' → e'.length ≤ e.length + ts.length
  | [], [], e, e', h => by cases h; simp
  | t :: ts, c :: cs, e, e', h => by
    rw [unis] at h
    obtain ⟨e1, h1, h2⟩ := Option.bind_eq_some_iff.1 h
    have := uni_len h1
    have := unis_len h2
    rw [List.length_cons]; omega
  | [], c :: cs, e, e', h => by cases h
  | t :: ts, [], e, e', h => by cases h
theorem lit_len {home : Tm} {l : Lt} {f : F} {e e' : Env} (h : lit home l f e = some e') : e'.length ≤ e.length + (l.args.length + 2) := by
  by_cases hc : l.pred = f.pred ∧ l.args.length = f.ks.length
  · rw [lit_yes hc.1 hc.2] at h
    obtain ⟨e1, h1, h⟩ := Option.bind_eq_some_iff.1 h
    obtain ⟨e2, h2, h⟩ := Option.bind_eq_some_iff.1 h
    have := uni_len h1
    have := unis_len h
    have : e2.length ≤ e1.length + 1 := by
      rw [by1_eq h1] at h2
      exact uni_len h2
    omega
  · rw [lit_no hc] at h; cases h

/-! what Follows tells -/
def eqKs : List K → List K → Bool
  | [], [] => true
  | k :: r, l :: s => eqK k l && eqKs r s
  | _, _ => false
theorem eqKs_iff : ∀ a b : List K, eqKs a b = true ↔ a = b
  | [], [] => by simp [eqKs]
  | k :: r, l :: s => by simp [eqKs, eqK_iff, eqKs_iff r s]
  | [], _ :: _ => by simp [eqKs]
  | _ :: _, [] => by simp [eqKs]
def eqF (a b : F) : Bool := (a.at_ == b.at_) && ((a.by_ == b.by_) && ((a.pred == b.pred) && eqKs a.ks b.ks))
theorem eqF_iff (a b : F) : eqF a b = true ↔ a = b := by
  obtain ⟨x, y, z, u⟩ := a; obtain ⟨x', y', z', u'⟩ := b
  simp [eqF, eqKs_iff]
def fol (r : Ru) (h : F) (b : List F) : Bool :=
  match (uni r.home (nm h.by_) []).bind fun e1 => (lits r.home r.body b e1).bind fun e2 => head r e2 with
  | none => false
  | some f => eqF f h
theorem fol_iff (r : Ru) (h : F) (b : List F) : fol r h b = true ↔ Fol r h b := by
  unfold fol
  constructor
  · intro hf
    split at hf
    · cases hf
    · rename_i f hx
      obtain ⟨e1, h1, h4⟩ := Option.bind_eq_some_iff.1 hx
      obtain ⟨e2, h2, h3⟩ := Option.bind_eq_some_iff.1 h4
      have hfh := (eqF_iff f h).1 hf
      rw [hfh] at h3
      exact ⟨e1, e2, h1, h2, h3⟩
  · rintro ⟨e1, e2, h1, h2, h3⟩
    rw [h1]
    simp only [Option.bind_some]
    rw [h2]
    simp only [Option.bind_some]
    rw [h3]
    exact (eqF_iff h h).2 rfl
theorem fol_no {r : Ru} {h : F} {b : List F} (hn : ((uni r.home (nm h.by_) []).bind fun e1 => (lits r.home r.body b e1).bind fun e2 => head r e2) = none) : fol r h b = false := by
  rw [Bool.eq_false_iff]
  intro hf
  obtain ⟨e1, e2, h1, h2, h3⟩ := (fol_iff r h b).1 hf
  rw [h1] at hn
  simp only [Option.bind_some] at hn
  rw [h2] at hn
  simp only [Option.bind_some] at hn
  rw [h3] at hn
  cases hn
theorem fol_some {r : Ru} {h f : F} {b : List F} (hs : ((uni r.home (nm h.by_) []).bind fun e1 => (lits r.home r.body b e1).bind fun e2 => head r e2) = some f) (d : Bool) (hd : d = true ↔ f = h) : fol r h b = d := by
  rw [Bool.eq_iff_iff, hd, fol_iff]
  obtain ⟨e1, h1, hx⟩ := Option.bind_eq_some_iff.1 hs
  obtain ⟨e2, h2, hx⟩ := Option.bind_eq_some_iff.1 hx
  constructor
  · rintro ⟨e1', e2', g1, g2, g3⟩
    rw [h1] at g1; cases g1
    rw [h2] at g2; cases g2
    rw [hx] at g3; cases g3; rfl
  · rintro rfl
    exact ⟨e1, e2, h1, h2, hx⟩
theorem fol_len {r : Ru} {h : F} {b : List F} (hl : r.body.length ≠ b.length) : fol r h b = false := by
  rw [Bool.eq_false_iff]
  intro hf
  exact not_fol_len (fun h => hl h.symm) ((fol_iff r h b).1 hf)

/-! a rule's variables -/
theorem mem_wv {l : List Tx} {t : Tm} {x : Tx} (h : x ∈ Ck.wv l t) : x ∈ l ∨ x = t.v := by
  unfold Ck.wv at h
  split at h
  · exact .inl h
  · rcases List.mem_append.1 h with h | h
    · exact .inl h
    · exact .inr (List.mem_singleton.1 h)
theorem mem_fold : ∀ {ts : List Tm} {l : List Tx} {x : Tx}, x ∈ ts.foldl Ck.wv l → x ∈ l ∨ ∃ t ∈ ts, x = t.v
  | [], l, x, h => .inl h
  | t :: ts, l, x, h => by
    rw [List.foldl_cons] at h
    rcases mem_fold h with h | ⟨u, hu, rfl⟩
    · rcases mem_wv h with h | rfl
      · exact .inl h
      · exact .inr ⟨t, List.mem_cons_self .., rfl⟩
    · exact .inr ⟨u, List.mem_cons_of_mem _ hu, rfl⟩
theorem mem_wl {l : List Tx} {y : Lt} {x : Tx} (h : x ∈ Ck.wl l y) : x ∈ l ∨ (x = y.by_.v ∨ (∃ t ∈ y.args, x = t.v) ∨ x = y.at_.v) := by
  unfold Ck.wl at h
  rcases mem_wv h with h | h
  · rcases mem_fold h with h | h
    · rcases mem_wv h with h | h
      · exact .inl h
      · exact .inr (.inl h)
    · exact .inr (.inr (.inl h))
  · exact .inr (.inr (.inr h))
theorem mem_wls : ∀ {ys : List Lt} {l : List Tx} {x : Tx}, x ∈ ys.foldl Ck.wl l → x ∈ l ∨ ∃ y ∈ ys, (x = y.by_.v ∨ (∃ t ∈ y.args, x = t.v) ∨ x = y.at_.v)
  | [], l, x, h => .inl h
  | y :: ys, l, x, h => by
    rw [List.foldl_cons] at h
    rcases mem_wls h with h | ⟨z, hz, h⟩
    · rcases mem_wl h with h | h
      · exact .inl h
      · exact .inr ⟨y, List.mem_cons_self .., h⟩
    · exact .inr ⟨z, List.mem_cons_of_mem _ hz, h⟩
theorem mem_vars {r : Ru} {x : Tx} (h : x ∈ Ck.vars r) : Of r x := by
  unfold Ck.vars Ck.bnd at h
  rw [List.take_length] at h
  rcases mem_wls h with h | h
  · rcases mem_wv h with h | h
    · cases h
    · exact .inl h
  · exact .inr h
/-- has a head a variable of its own? -/
def ownV (N : List Tx) (t : Tm) : Bool := !t.v.isEmpty && !decide (t.v ∈ N)
def opn (r : Ru) : Bool := ownV (Ck.vars r) r.to_ || r.args.any (ownV (Ck.vars r))
theorem ownV_no {N : List Tx} {t : Tm} (h : ownV N t = false) (hv : t.v ≠ []) : t.v ∈ N := by
  unfold ownV at h
  have : t.v.isEmpty = false := by simpa using hv
  rw [this] at h
  simpa using h
theorem opn_no {r : Ru} (h : opn r = false) : ∀ t, (t ∈ r.args ∨ t = r.to_) → t.v ≠ [] → Of r t.v := by
  unfold opn at h
  rw [Bool.or_eq_false_iff] at h
  intro t ht hv
  apply mem_vars
  rcases ht with ht | rfl
  · exact ownV_no (Bool.eq_false_iff.2 fun hx => by rw [List.any_eq_true.2 ⟨t, ht, hx⟩] at h; cases h.2) hv
  · exact ownV_no h.1 hv
theorem inst {r : Ru} {d : Env} {h : F} {b : List F} (hh : head r d = some h) (hb : body r.home d r.body = some b) (ho : opn r = false) : fol r h b = true := (fol_iff r h b).2 (instances hh hb (opn_no ho))
theorem fol_other {r : Ru} {d : Env} {h : F} {b b' : List F} {k : Nat} (hb : body r.home d r.body = some b) (hk : k < b.length) (hl : b'.length = b.length) (hp : (b'[k]'(by omega)).pred ≠ b[k].pred) : fol r h b' = false := by
  rw [Bool.eq_false_iff]
  intro hf
  exact not_fol_pred hb hk hl hp ((fol_iff r h b').1 hf)
end Mt
end Go.Proofs.Ytbahbibibpkddaa
