/-
  The mathematics of layer 11, as its functions go: step by step; how much is bound; which variables a rule has.
-/
import Derived.Test.YtpdmmmdkpipmkaaGreatDoorQMb
import Derived.Test.YtpdmmmdkpipmkaaGreatDoorQCc
namespace Go.Proofs.YtpdmmmdkpipmkaaGreatDoor
namespace Mt

/-! the way of the program's literal -/
def at1 (home : Tm) (l : Lt) : Tm := place home l.at_
def by2 (home : Tm) (l : Lt) : Tm := place (at1 home l) l.by_
theorem by1_eq {home : Tm} {l : Lt} {f : F} {e e1 : Env} (h : uni (at1 home l) (nm f.at_) e = some e1) : by1 l f e1 = uni (by2 home l) (nm f.by_) e1 := by
  unfold by1 by2 place
  split
  · have hv := (uni_val h).1
    unfold uni
    rw [hv]
    simp only
    by_cases hq : f.by_ = f.at_
    · rw [if_pos hq, hq, if_pos (eqK_self _)]
    · rw [if_neg hq, if_neg]
      intro hk
      exact hq (nm_inj ((eqK_iff _ _).1 hk)).symm
  · rfl
theorem lit_no {home : Tm} {l : Lt} {f : F} {e : Env} (h : ¬ (l.pred = f.pred ∧ l.args.length = f.ks.length)) : lit home l f e = none := by
  unfold lit; rw [if_neg h]
theorem lit_yes {home : Tm} {l : Lt} {f : F} {e : Env} (h1 : l.pred = f.pred) (h2 : l.args.length = f.ks.length) : lit home l f e = (uni (at1 home l) (nm f.at_) e).bind fun e1 => (by1 l f e1).bind fun e2 => unis l.args f.ks e2 := by
  unfold lit; rw [if_pos ⟨h1, h2⟩]; rfl
theorem lit_one_no {home : Tm} {l : Lt} {f : F} {e : Env} (h1 : l.pred = f.pred) (h2 : l.args.length = f.ks.length) (h : uni (at1 home l) (nm f.at_) e = none) : lit home l f e = none := by
  rw [lit_yes h1 h2, h]; rfl
theorem lit_one {home : Tm} {l : Lt} {f : F} {e e1 : Env} (h1 : l.pred = f.pred) (h2 : l.args.length = f.ks.length) (h : uni (at1 home l) (nm f.at_) e = some e1) : lit home l f e = (uni (by2 home l) (nm f.by_) e1).bind fun e2 => unis l.args f.ks e2 := by
  rw [lit_yes h1 h2, h]
  show (by1 l f e1).bind _ = _
  rw [by1_eq h]
theorem lit_oneR {home : Tm} {l : Lt} {f : F} {e e1 : Env} (h1 : l.pred = f.pred) (h2 : l.args.length = f.ks.length) (h : uni (at1 home l) (nm f.at_) e = some e1) : lit home l f e = (by1 l f e1).bind fun e2 => unis l.args f.ks e2 := by
  rw [lit_yes h1 h2, h]; rfl

theorem unis_step {ts : List Tm} {cs : List K} {e : Env} {i : Nat} (h1 : i < ts.length) (h2 : i < cs.length) : unis (ts.drop i) (cs.drop i) e = (uni ts[i] cs[i] e).bind fun e1 => unis (ts.drop (i + 1)) (cs.drop (i + 1)) e1 := by
  rw [List.drop_eq_getElem_cons h1, List.drop_eq_getElem_cons h2, unis]
theorem unis_done {ts : List Tm} {cs : List K} {e : Env} {i : Nat} (h1 : ts.length ≤ i) (h2 : cs.length ≤ i) : unis (ts.drop i) (cs.drop i) e = some e := by
  rw [List.drop_of_length_le h1, List.drop_of_length_le h2, unis]
theorem lits_step {home : Tm} {ts : List Lt} {cs : List F} {e : Env} {i : Nat} (h1 : i < ts.length) (h2 : i < cs.length) : lits home (ts.drop i) (cs.drop i) e = (lit home ts[i] cs[i] e).bind fun e1 => lits home (ts.drop (i + 1)) (cs.drop (i + 1)) e1 := by
  rw [List.drop_eq_getElem_cons h1, List.drop_eq_getElem_cons h2, lits]
theorem lits_done {home : Tm} {ts : List Lt} {cs : List F} {e : Env} {i : Nat} (h1 : ts.length ≤ i) (h2 : cs.length ≤ i) : lits home (ts.drop i) (cs.drop i) e = some e := by
  rw [List.drop_of_length_le h1, List.drop_of_length_le h2, lits]
theorem vals_step {ts : List Tm} {e : Env} {i : Nat} (h1 : i < ts.length) : vals e (ts.drop i) = (val ts[i] e).bind fun c => (vals e (ts.drop (i + 1))).map fun cs => c :: cs := by
  rw [List.drop_eq_getElem_cons h1, vals]
theorem vals_done {ts : List Tm} {e : Env} {i : Nat} (h1 : ts.length ≤ i) : vals e (ts.drop i) = some [] := by
  rw [List.drop_of_length_le h1, vals]
theorem body_step {home : Tm} {ts : List Lt} {e : Env} {i : Nat} (h1 : i < ts.length) : body home e (ts.drop i) = (bodyF home ts[i] e).bind fun f => (body home e (ts.drop (i + 1))).map fun fs => f :: fs := by
  rw [List.drop_eq_getElem_cons h1, body]
theorem body_done {home : Tm} {ts : List Lt} {e : Env} {i : Nat} (h1 : ts.length ≤ i) : body home e (ts.drop i) = some [] := by
  rw [List.drop_of_length_le h1, body]
/-- one more of what was gathered -/
theorem gather {α : Type} {x : Option (List α)} {y : Option (List α)} {acc : List α} {c : α} (h : x = (y.map fun cs => c :: cs).map fun cs => acc ++ cs) : x = y.map fun cs => (acc ++ [c]) ++ cs := by
  rw [h]; cases y <;> simp
theorem gathered {α : Type} {x : Option (List α)} {acc : List α} (h : x = (some []).map fun cs => acc ++ cs) : x = some acc := by
  rw [h]; simp

/-! how much is bound -/
theorem uni_len {t : Tm} {c : K} {e e' : Env} (h : uni t c e = some e') : e'.length ≤ e.length + 1 := by
  unfold uni at h
  split at h
  · split at h
    · cases h; omega
    · cases h
  · split at h
    · cases h
    · cases h; simp
theorem unis_len : ∀ {ts : List Tm} {cs : List K} {e e' : Env}, unis ts cs e = some e' → e'.length ≤ e.length + ts.length
  | [], [], e, e', h => by cases h; simp
  | t :: ts, c :: cs, e, e', h => by
    rw [unis] at h
    obtain ⟨e1, h1, h2⟩ := Option.bind_eq_some_iff.1 h
    have := uni_len h1
    have := unis_len h2
    rw [List.length_cons]; omega
  | [], c :: cs, e, e', h => by cases h
  | t :: ts, [], e, e', h => by cases h
theorem lit_len {home : Tm} {l : Lt} {f : F} {e e' : Env} (h : lit home l f e = some e') : e'.length ≤ e.length + (l.args.length + 2) := by
  by_cases hc : l.pred = f.pred ∧ l.args.length = f.ks.length
  · rw [lit_yes hc.1 hc.2] at h
    obtain ⟨e1, h1, h⟩ := Option.bind_eq_some_iff.1 h
    obtain ⟨e2, h2, h⟩ := Option.bind_eq_some_iff.1 h
    have := uni_len h1
    have := unis_len h
    have : e2.length ≤ e1.length + 1 := by
      rw [by1_eq h1] at h2
      exact uni_len h2
    omega
  · rw [lit_no hc] at h; cases h

/-! what Follows tells -/
def eqKs : List K → List K → Bool
  | [], [] => true
  | k :: r, l :: s => eqK k l && eqKs r s
  | _, _ => false
theorem eqKs_iff : ∀ a b : List K, eqKs a b = true ↔ a = b
  | [], [] => by simp [eqKs]
  | k :: r, l :: s => by simp [eqKs, eqK_iff, eqKs_iff r s]
  | [], _ :: _ => by simp [eqKs]
  | _ :: _, [] => by simp [eqKs]
def eqF (a b : F) : Bool := (a.at_ == b.at_) && ((a.by_ == b.by_) && ((a.pred == b.pred) && eqKs a.ks b.ks))
theorem eqF_iff (a b : F) : eqF a b = true ↔ a = b := by
  obtain ⟨x, y, z, u⟩ := a; obtain ⟨x', y', z', u'⟩ := b
  simp [eqF, eqKs_iff]
def fol (r : Ru) (h : F) (b : List F) : Bool :=
  match (uni r.home (nm h.by_) []).bind fun e1 => (lits r.home r.body b e1).bind fun e2 => head r e2 with
  | none => false
  | some f => eqF f h
theorem fol_iff (r : Ru) (h : F) (b : List F) : fol r h b = true ↔ Fol r h b := by
  unfold fol
  constructor
  · intro hf
    split at hf
    · cases hf
    · rename_i f hx
      obtain ⟨e1, h1, h4⟩ := Option.bind_eq_some_iff.1 hx
      obtain ⟨e2, h2, h3⟩ := Option.bind_eq_some_iff.1 h4
      have hfh := (eqF_iff f h).1 hf
      rw [hfh] at h3
      exact ⟨e1, e2, h1, h2, h3⟩
  · rintro ⟨e1, e2, h1, h2, h3⟩
    rw [h1]
    simp only [Option.bind_some]
    rw [h2]
    simp only [Option.bind_some]
    rw [h3]
    exact (eqF_iff h h).2 rfl
theorem fol_no {r : Ru} {h : F} {b : List F} (hn : ((uni r.home (nm h.by_) []).bind fun e1 => (lits r.home r.body b e1).bind fun e2 => head r e2) = none) : fol r h b = false := by
  rw [Bool.eq_false_iff]
  intro hf
  obtain ⟨e1, e2, h1, h2, h3⟩ := (fol_iff r h b).1 hf
  rw [h1] at hn
  simp only [Option.bind_some] at hn
  rw [h2] at hn
  simp only [Option.bind_some] at hn
  rw [h3] at hn
  cases hn
theorem fol_some {r : Ru} {h f : F} {b : List F} (hs : ((uni r.home (nm h.by_) []).bind fun e1 => (lits r.home r.body b e1).bind fun e2 => head r e2) = some f) (d : Bool) (hd : d = true ↔ f = h) : fol r h b = d := by
  rw [Bool.eq_iff_iff, hd, fol_iff]
  obtain ⟨e1, h1, hx⟩ := Option.bind_eq_some_iff.1 hs
  obtain ⟨e2, h2, hx⟩ := Option.bind_eq_some_iff.1 hx
  constructor
  · rintro ⟨e1', e2', g1, g2, g3⟩
    rw [h1] at g1; cases g1
    rw [h2] at g2; cases g2
    rw [hx] at g3; cases g3; rfl
  · rintro rfl
    exact ⟨e1, e2, h1, h2, hx⟩
theorem fol_len {r : Ru} {h : F} {b : List F} (hl : r.body.length ≠ b.length) : fol r h b = false := by
  rw [Bool.eq_false_iff]
  intro hf
  exact not_fol_len (fun h => hl h.symm) ((fol_iff r h b).1 hf)

/-! a rule's variables -/
theorem mem_wv {l : List Tx} {t : Tm} {x : Tx} (h : x ∈ Ck.wv l t) : x ∈ l ∨ x = t.v := by
  unfold Ck.wv at h
  split at h
  · exact .inl h
  · rcases List.mem_append.1 h with h | h
    · exact .inl h
    · exact .inr (List.mem_singleton.1 h)
theorem mem_fold : ∀ {ts : List Tm} {l : List Tx} {x : Tx}, x ∈ ts.foldl Ck.wv l → x ∈ l ∨ ∃ t ∈ ts, x = t.v
  | [], l, x, h => .inl h
  | t :: ts, l, x, h => by
    rw [List.foldl_cons] at h
    rcases mem_fold h with h | ⟨u, hu, rfl⟩
    · rcases mem_wv h with h | rfl
      · exact .inl h
      · exact .inr ⟨t, List.mem_cons_self .., rfl⟩
    · exact .inr ⟨u, List.mem_cons_of_mem _ hu, rfl⟩
theorem mem_wl {l : List Tx} {y : Lt} {x : Tx} (h : x ∈ Ck.wl l y) : x ∈ l ∨ (x = y.by_.v ∨ (∃ t ∈ y.args, x = t.v) ∨ x = y.at_.v) := by
  unfold Ck.wl at h
  rcases mem_wv h with h | h
  · rcases mem_fold h with h | h
    · rcases mem_wv h with h | h
      · exact .inl h
      · exact .inr (.inl h)
    · exact .inr (.inr (.inl h))
  · exact .inr (.inr (.inr h))
theorem mem_wls : ∀ {ys : List Lt} {l : List Tx} {x : Tx}, x ∈ ys.foldl Ck.wl l → x ∈ l ∨ ∃ y ∈ ys, (x = y.by_.v ∨ (∃ t ∈ y.args, x = t.v) ∨ x = y.at_.v)
  | [], l, x, h => .inl h
  | y :: ys, l, x, h => by
    rw [List.foldl_cons] at h
    rcases mem_wls h with h | ⟨z, hz, h⟩
    · rcases mem_wl h with h | h
      · exact .inl h
      · exact .inr ⟨y, List.mem_cons_self .., h⟩
    · exact .inr ⟨z, List.mem_cons_of_mem _ hz, h⟩
theorem mem_vars {r : Ru} {x : Tx} (h : x ∈ Ck.vars r) : Of r x := by
  unfold Ck.vars Ck.bnd at h
  rw [List.take_length] at h
  rcases mem_wls h with h | h
  · rcases mem_wv h with h | h
    · cases h
    · exact .inl h
  · exact .inr h
/-- has a head a variable of its own? -/
def ownV (N : List Tx) (t : Tm) : Bool := !t.v.isEmpty && !decide (t.v ∈ N)
def opn (r : Ru) : Bool := ownV (Ck.vars r) r.to_ || r.args.any (ownV (Ck.vars r))
theorem ownV_no {N : List Tx} {t : Tm} (h : ownV N t = false) (hv : t.v ≠ []) : t.v ∈ N := by
  unfold ownV at h
  have : t.v.isEmpty = false := by simpa using hv
  rw [this] at h
  simpa using h
theorem opn_no {r : Ru} (h : opn r = false) : ∀ t, (t ∈ r.args ∨ t = r.to_) → t.v ≠ [] → Of r t.v := by
  unfold opn at h
  rw [Bool.or_eq_false_iff] at h
  intro t ht hv
  apply mem_vars
  rcases ht with ht | rfl
  · exact ownV_no (Bool.eq_false_iff.2 fun hx => by rw [List.any_eq_true.2 ⟨t, ht, hx⟩] at h; cases h.2) hv
  · exact ownV_no h.1 hv
theorem inst {r : Ru} {d : Env} {h : F} {b : List F} (hh : head r d = some h) (hb : body r.home d r.body = some b) (ho : opn r = false) : fol r h b = true := (fol_iff r h b).2 (instances hh hb (opn_no ho))
theorem fol_other {r : Ru} {d : Env} {h : F} {b b' : List F} {k : Nat} (hb : body r.home d r.body = some b) (hk : k < b.length) (hl : b'.length = b.length) (hp : (b'[k]'(by omega)).pred ≠ b[k].pred) : fol r h b' = false := by
  rw [Bool.eq_false_iff]
  intro hf
  exact not_fol_pred hb hk hl hp ((fol_iff r h b').1 hf)
end Mt
end Go.Proofs.YtpdmmmdkpipmkaaGreatDoor

/-
  The mathematics of layer 12: what follows at once, the least model. No program in this text.
-/
namespace Go.Proofs.YtpdmmmdkpipmkaaGreatDoor
namespace Ml
open Mt (Tx Env uni lit lits head nm val)

/-- who runs rules, whose place there is -/
structure Wd where
  homes : List Tx
  names : List Tx
/-- f is the head of an instance of a rule of l, its body among m -/
def Ins (w : Wd) (l : List Ru) (m : List F) (f : F) : Prop :=
  ∃ r ∈ l, ∃ h ∈ w.homes, ∃ e, uni r.home (nm h) [] = some e ∧ ∃ fs, (∀ x ∈ fs, x ∈ m) ∧ ∃ e2, lits r.home r.body fs e = some e2 ∧ head r e2 = some f ∧ f.at_ ∈ w.names
/-- bindings by which literals are among facts, one behind the other -/
def envs (home : Tm) (m : List F) : List Lt → Env → List Env
  | [], e => [e]
  | l :: ls, e => m.flatMap fun f => match lit home l f e with
    | none => []
    | some e1 => envs home m ls e1
theorem mem_envs {home : Tm} {m : List F} : ∀ {ls : List Lt} {e e2 : Env}, e2 ∈ envs home m ls e ↔ ∃ fs, (∀ x ∈ fs, x ∈ m) ∧ lits home ls fs e = some e2
  | [], e, e2 => by
    rw [envs, List.mem_singleton]
    constructor
    · rintro rfl; exact ⟨[], (fun _ h => by cases h), rfl⟩
    · rintro ⟨fs, _, h⟩
      cases fs with
      | nil => rw [lits] at h; cases h; rfl
      | cons f fs => cases h
  | l :: ls, e, e2 => by
    rw [envs, List.mem_flatMap]
    constructor
    · rintro ⟨f, hf, h⟩
      cases hl : lit home l f e with
      | none => rw [hl] at h; cases h
      | some e1 =>
        rw [hl] at h
        obtain ⟨fs, h1, h2⟩ := mem_envs.1 h
        refine ⟨f :: fs, fun x hx => ?_, ?_⟩
        · rcases List.mem_cons.1 hx with rfl | hx
          · exact hf
          · exact h1 x hx
        · rw [lits, hl]; exact h2
    · rintro ⟨fs, h1, h2⟩
      cases fs with
      | nil => cases h2
      | cons f fs =>
        rw [lits] at h2
        obtain ⟨e1, hl, h3⟩ := Option.bind_eq_some_iff.1 h2
        refine ⟨f, h1 f (List.mem_cons_self ..), ?_⟩
        rw [hl]
        exact mem_envs.2 ⟨fs, fun x hx => h1 x (List.mem_cons_of_mem _ hx), h3⟩
/-- a rule's head, where its place is one of the names -/
def hd (w : Wd) (r : Ru) (e : Env) : List F := match head r e with
  | none => []
  | some f => if f.at_ ∈ w.names then [f] else []
theorem mem_hd {w : Wd} {r : Ru} {e : Env} {f : F} : f ∈ hd w r e ↔ head r e = some f ∧ f.at_ ∈ w.names := by
  unfold hd
  cases h : head r e with
  | none => simp
  | some g =>
    simp only [Option.some.injEq]
    split
    · rename_i hg
      rw [List.mem_singleton]
      constructor
      · rintro rfl; exact ⟨rfl, hg⟩
      · rintro ⟨rfl, _⟩; rfl
    · rename_i hg
      constructor
      · intro h; cases h
      · rintro ⟨rfl, h2⟩; exact absurd h2 hg
def heads (w : Wd) (r : Ru) (m : List F) (h : Tx) : List F := match uni r.home (nm h) [] with
  | none => []
  | some e => (envs r.home m r.body e).flatMap (hd w r)
def onceL (w : Wd) (l : List Ru) (m : List F) : List F := l.flatMap fun r => w.homes.flatMap fun h => heads w r m h
theorem mem_onceL {w : Wd} {l : List Ru} {m : List F} {f : F} : f ∈ onceL w l m ↔ Ins w l m f := by
  unfold onceL Ins
  simp only [List.mem_flatMap]
  constructor
  · rintro ⟨r, hr, h, hh, hf⟩
    unfold heads at hf
    cases hu : uni r.home (nm h) [] with
    | none => rw [hu] at hf; cases hf
    | some e =>
      rw [hu] at hf
      obtain ⟨e2, he2, hf⟩ := List.mem_flatMap.1 hf
      obtain ⟨fs, h1, h2⟩ := mem_envs.1 he2
      obtain ⟨h3, h4⟩ := mem_hd.1 hf
      exact ⟨r, hr, h, hh, e, hu, fs, h1, e2, h2, h3, h4⟩
  · rintro ⟨r, hr, h, hh, e, hu, fs, h1, e2, h2, h3, h4⟩
    refine ⟨r, hr, h, hh, ?_⟩
    unfold heads
    rw [hu]
    exact List.mem_flatMap.2 ⟨e2, mem_envs.2 ⟨fs, h1, h2⟩, mem_hd.2 ⟨h3, h4⟩⟩
/-- Once: all that follows at once, in order, each once -/
def once (w : Wd) (l : List Ru) (m : List F) : List F := sortF (onceL w l m)
theorem mem_once {w : Wd} {l : List Ru} {m : List F} {f : F} : f ∈ once w l m ↔ Ins w l m f := by
  unfold once; rw [mem_sortF, mem_onceL]
theorem once_SS (w : Wd) (l : List Ru) (m : List F) : SS (once w l m) := sortF_SS _
theorem Ins.mono {w : Wd} {l l' : List Ru} {m m' : List F} {f : F} (h : Ins w l m f) (hl : ∀ r ∈ l, r ∈ l') (hm : ∀ x ∈ m, x ∈ m') : Ins w l' m' f := by
  obtain ⟨r, hr, h, hh, e, hu, fs, h1, h2⟩ := h
  exact ⟨r, hl r hr, h, hh, e, hu, fs, fun x hx => hm x (h1 x hx), h2⟩
/-- worlds with the same homes and the same names -/
theorem Ins.world {w w' : Wd} {l : List Ru} {m : List F} {f : F} (h : Ins w l m f) (hh : ∀ x ∈ w.homes, x ∈ w'.homes) (hn : ∀ x ∈ w.names, x ∈ w'.names) : Ins w' l m f := by
  obtain ⟨r, hr, h, hx, e, hu, fs, h1, e2, h2, h3, h4⟩ := h
  exact ⟨r, hr, h, hh h hx, e, hu, fs, h1, e2, h2, h3, hn _ h4⟩
def Closed (w : Wd) (l : List Ru) (m : List F) : Prop := ∀ f, Ins w l m f → f ∈ m
def closedB (w : Wd) (l : List Ru) (m : List F) : Bool := (once w l m).all fun f => hasF m f
theorem closedB_iff (w : Wd) (l : List Ru) (m : List F) : closedB w l m = true ↔ Closed w l m := by
  unfold closedB Closed
  rw [List.all_eq_true]
  simp only [hasF_iff, mem_once]
theorem closed_same {w : Wd} {l l' : List Ru} {m m' : List F} (h : Closed w l m) (hl : ∀ r ∈ l', r ∈ l) (hm : ∀ x, x ∈ m ↔ x ∈ m') : Closed w l' m' := fun f hf => (hm f).1 (h f (hf.mono hl fun x hx => (hm x).2 hx))

/-! again and again -/
def step (w : Wd) (l : List Ru) (m : List F) : List F := (once w l m).foldl ins m
theorem step_SS {w : Wd} {l : List Ru} {m : List F} (h : SS m) : SS (step w l m) := (foldl_ins _ m h).1
theorem mem_step {w : Wd} {l : List Ru} {m : List F} (h : SS m) {x : F} : x ∈ step w l m ↔ x ∈ m ∨ Ins w l m x := by
  unfold step; rw [(foldl_ins _ m h).2, mem_once]
theorem step_fix {w : Wd} {l : List Ru} {m : List F} (h : SS m) : step w l m = m ↔ Closed w l m := by
  constructor
  · intro he f hf
    rw [← he]; exact (mem_step h).2 (.inr hf)
  · intro hc
    refine (step_SS h).uniq h fun x => ?_
    rw [mem_step h]
    exact ⟨fun hx => hx.elim id (hc x), .inl⟩
theorem SS.nodup {l : List F} (h : SS l) : l.Nodup := by
  refine List.Pairwise.imp (fun {a b} hab he => ?_) h
  subst he
  have := cF_self a
  omega
theorem nodup_len : ∀ {l m : List F}, l.Nodup → (∀ x ∈ l, x ∈ m) → l.length ≤ m.length
  | [], m, _, _ => Nat.zero_le _
  | a :: l, m, hn, hs => by
    letI : BEq F := ⟨Mt.eqF⟩
    haveI : LawfulBEq F := { eq_of_beq := fun {x y} h => (Mt.eqF_iff x y).1 h, rfl := fun {x} => (Mt.eqF_iff x x).2 rfl }
    have ha := hs a (List.mem_cons_self ..)
    obtain ⟨hna, hnl⟩ := List.nodup_cons.1 hn
    have h1 := nodup_len (m := m.erase a) hnl fun x hx => by
      have hne : x ≠ a := fun e => hna (e ▸ hx)
      exact (List.mem_erase_of_ne hne).2 (hs x (List.mem_cons_of_mem _ hx))
    rw [List.length_erase_of_mem ha] at h1
    have h2 : 0 < m.length := List.length_pos_of_mem ha
    rw [List.length_cons]; omega
theorem sub_len {l m : List F} (h : SS l) (hs : ∀ x ∈ l, x ∈ m) : l.length ≤ m.length := nodup_len (SS.nodup h) hs
theorem step_len {w : Wd} {l : List Ru} {m : List F} (h : SS m) : m.length ≤ (step w l m).length := sub_len h fun _ hx => (mem_step h).2 (.inl hx)
theorem step_more {w : Wd} {l : List Ru} {m : List F} (h : SS m) (hn : step w l m ≠ m) : m.length < (step w l m).length := by
  rcases Nat.lt_or_ge m.length (step w l m).length with h1 | h1
  · exact h1
  · exfalso
    apply hn
    refine (step_SS h).uniq h fun x => ⟨fun hx => ?_, fun hx => (mem_step h).2 (.inl hx)⟩
    refine Classical.byContradiction fun hx' => ?_
    have h2 := nodup_len (l := x :: m) (m := step w l m) (List.nodup_cons.2 ⟨hx', SS.nodup h⟩) fun y hy => by
      rcases List.mem_cons.1 hy with rfl | hy
      · exact hx
      · exact (mem_step h).2 (.inl hy)
    rw [List.length_cons] at h2
    omega
/-- where no new one is among them, the number stays, and else it grows: how the program and the reference tell -/
theorem step_len_iff {w : Wd} {l : List Ru} {m : List F} (h : SS m) : (step w l m).length = m.length ↔ step w l m = m :=
  ⟨fun he => Classical.byContradiction fun hn => by have := step_more h hn; omega, fun he => by rw [he]⟩
/-- the least model from m on, or none: it is too great; within n steps -/
def LstN (w : Wd) (l : List Ru) : Nat → List F → Option (List F) → Prop
  | 0, m, o => (400 < m.length ∧ o = none) ∨ (m.length ≤ 400 ∧ step w l m = m ∧ o = some m)
  | n + 1, m, o => ((400 < m.length ∧ o = none) ∨ (m.length ≤ 400 ∧ step w l m = m ∧ o = some m)) ∨ (m.length ≤ 400 ∧ step w l m ≠ m ∧ LstN w l n (step w l m) o)
def Lst (w : Wd) (l : List Ru) (m : List F) (o : Option (List F)) : Prop := ∃ n, LstN w l n m o
theorem Lst.full {w : Wd} {l : List Ru} {m : List F} (h : 400 < m.length) : Lst w l m none := ⟨0, .inl ⟨h, rfl⟩⟩
theorem Lst.done {w : Wd} {l : List Ru} {m : List F} (h : m.length ≤ 400) (h2 : step w l m = m) : Lst w l m (some m) := ⟨0, .inr ⟨h, h2, rfl⟩⟩
theorem Lst.more {w : Wd} {l : List Ru} {m : List F} {o : Option (List F)} (h : m.length ≤ 400) (h2 : step w l m ≠ m) (h3 : Lst w l (step w l m) o) : Lst w l m o := by
  obtain ⟨n, hn⟩ := h3
  exact ⟨n + 1, .inr ⟨h, h2, hn⟩⟩
theorem Lst.ind {w : Wd} {l : List Ru} {motive : (m : List F) → (o : Option (List F)) → Lst w l m o → Prop}
    (full : ∀ {m : List F} (h : 400 < m.length), motive m none (Lst.full h))
    (done : ∀ {m : List F} (h : m.length ≤ 400) (h2 : step w l m = m), motive m (some m) (Lst.done h h2))
    (more : ∀ {m : List F} {o : Option (List F)} (h : m.length ≤ 400) (h2 : step w l m ≠ m) (h3 : Lst w l (step w l m) o), motive (step w l m) o h3 → motive m o (Lst.more h h2 h3))
    {m : List F} {o : Option (List F)} (t : Lst w l m o) : motive m o t := by
  obtain ⟨n, hn⟩ := t
  induction n generalizing m o with
  | zero =>
    rcases hn with ⟨h1, rfl⟩ | ⟨h1, h2, rfl⟩
    · exact full h1
    · exact done h1 h2
  | succ n ih =>
    rcases hn with (⟨h1, rfl⟩ | ⟨h1, h2, rfl⟩) | ⟨h1, h2, h3⟩
    · exact full h1
    · exact done h1 h2
    · exact more h1 h2 ⟨n, h3⟩ (ih h3)
theorem Lst.split {w : Wd} {l : List Ru} {m : List F} {o : Option (List F)} (h : Lst w l m o) : (400 < m.length ∧ o = none) ∨ (m.length ≤ 400 ∧ step w l m = m ∧ o = some m) ∨ (m.length ≤ 400 ∧ step w l m ≠ m ∧ Lst w l (step w l m) o) := by
  induction h using Lst.ind with
  | full h1 => exact .inl ⟨h1, rfl⟩
  | done h1 h2 => exact .inr (.inl ⟨h1, h2, rfl⟩)
  | more h1 h2 h3 _ => exact .inr (.inr ⟨h1, h2, h3⟩)
theorem Lst.det {w : Wd} {l : List Ru} {m : List F} {o o' : Option (List F)} (h : Lst w l m o) (h' : Lst w l m o') : o = o' := by
  induction h using Lst.ind with
  | full h1 =>
    rcases h'.split with ⟨_, rfl⟩ | ⟨h2, _⟩ | ⟨h2, _⟩
    · rfl
    · omega
    · omega
  | done h1 h2 =>
    rcases h'.split with ⟨h3, _⟩ | ⟨_, _, rfl⟩ | ⟨_, h3, _⟩
    · omega
    · rfl
    · exact absurd h2 h3
  | more h1 h2 h3 ih =>
    rcases h'.split with ⟨h4, _⟩ | ⟨_, h4, _⟩ | ⟨_, _, h4⟩
    · omega
    · exact absurd h4 h2
    · exact ih h4
theorem Lst.ex (w : Wd) (l : List Ru) : ∀ (n : Nat) (m : List F), SS m → 401 ≤ m.length + n → ∃ o, Lst w l m o
  | 0, m, _, h => ⟨none, .full (by omega)⟩
  | n + 1, m, hs, h => by
    by_cases h4 : 400 < m.length
    · exact ⟨none, .full h4⟩
    · by_cases hf : step w l m = m
      · exact ⟨_, .done (by omega) hf⟩
      · obtain ⟨o, ho⟩ := Lst.ex w l n (step w l m) (step_SS hs) (by have := step_more hs hf; omega)
        exact ⟨o, .more (by omega) hf ho⟩
theorem Lst.got {w : Wd} {l : List Ru} {m n : List F} (h : Lst w l m (some n)) (hs : SS m) : SS n ∧ (∀ x ∈ m, x ∈ n) ∧ Closed w l n ∧ n.length ≤ 400 := by
  generalize ho : Option.some n = o at h
  induction h using Lst.ind with
  | full _ => cases ho
  | done h1 h2 => cases ho; exact ⟨hs, fun _ h => h, (step_fix hs).1 h2, h1⟩
  | more h1 h2 h3 ih =>
    obtain ⟨i1, i2, i3, i4⟩ := ih (step_SS hs) ho
    exact ⟨i1, fun x hx => i2 x ((mem_step hs).2 (.inl hx)), i3, i4⟩
/-- whatever holds of the base and of what follows from what it holds of, holds of the model -/
theorem Lst.pred {w : Wd} {l : List Ru} {m n : List F} {P : F → Prop} (h : Lst w l m (some n)) (hs : SS m) (hm : ∀ x ∈ m, P x) (hp : ∀ m' : List F, (∀ x ∈ m', P x) → ∀ f, Ins w l m' f → P f) : ∀ x ∈ n, P x := by
  generalize ho : Option.some n = o at h
  induction h using Lst.ind with
  | full _ => cases ho
  | done h1 h2 => cases ho; exact hm
  | more h1 h2 h3 ih =>
    refine ih (step_SS hs) (fun x hx => ?_) ho
    rcases (mem_step hs).1 hx with h | h
    · exact hm x h
    · exact hp _ hm x h
theorem Lst.least {w : Wd} {l : List Ru} {m n c : List F} (h : Lst w l m (some n)) (hs : SS m) (hm : ∀ x ∈ m, x ∈ c) (hc : Closed w l c) : ∀ x ∈ n, x ∈ c :=
  h.pred hs hm fun _ hm' f hf => hc f (hf.mono (fun _ h => h) hm')
/-- where it is too great, each closed list that has the base is -/
theorem Lst.over {w : Wd} {l : List Ru} {m c : List F} (h : Lst w l m none) (hs : SS m) (hm : ∀ x ∈ m, x ∈ c) (hc : Closed w l c) : 400 < c.length := by
  generalize ho : (Option.none : Option (List F)) = o at h
  induction h using Lst.ind with
  | full h1 => exact Nat.lt_of_lt_of_le h1 (sub_len hs hm)
  | done h1 h2 => cases ho
  | more h1 h2 h3 ih =>
    refine ih (step_SS hs) (fun x hx => ?_) ho
    rcases (mem_step hs).1 hx with h | h
    · exact hm x h
    · exact hc x (h.mono (fun _ h => h) hm)
/-- what a way that grows by what follows comes to: a list that has the base, is closed, and is within each such one -/
theorem Lst.of {w : Wd} {l : List Ru} {m n : List F} (hs : SS m) (hn : SS n) (h4 : n.length ≤ 400) (h1 : ∀ x ∈ m, x ∈ n) (h2 : Closed w l n) (h3 : ∀ c, (∀ x ∈ m, x ∈ c) → Closed w l c → ∀ x ∈ n, x ∈ c) : Lst w l m (some n) := by
  obtain ⟨o, ho⟩ := Lst.ex w l 401 m hs (by omega)
  cases o with
  | none => have := ho.over hs h1 h2; omega
  | some n' =>
    obtain ⟨i1, i2, i3, _⟩ := ho.got hs
    rw [show n = n' from hn.uniq i1 fun x => ⟨h3 n' i2 i3 x, ho.least hs h1 h2 x⟩]
    exact ho

/-! the statements' sentences -/
/-- with facts more, with rules more -/
theorem grows {w : Wd} {l l' : List Ru} {b b' n n' : List F} (h : Lst w l (sortF b) (some n)) (h' : Lst w l' (sortF b') (some n')) (hl : ∀ r ∈ l, r ∈ l') (hb : ∀ x ∈ b, x ∈ b') : ∀ x ∈ n, x ∈ n' := by
  obtain ⟨_, i2, i3, _⟩ := h'.got (sortF_SS _)
  refine h.least (sortF_SS _) (fun x hx => i2 x ((mem_sortF _ _).2 (hb x ((mem_sortF _ _).1 hx)))) fun f hf => i3 f (hf.mono hl fun _ h => h)
/-- the least model of a least model -/
theorem twice {w : Wd} {l : List Ru} {b n : List F} (h : Lst w l (sortF b) (some n)) : Lst w l (sortF n) (some n) := by
  obtain ⟨i1, _, i3, i4⟩ := h.got (sortF_SS _)
  have e : sortF n = n := (sortF_of i1 fun _ => Iff.rfl).symm
  rw [e]
  exact .done i4 ((step_fix i1).2 i3)
/-- in whatever order, however often -/
theorem same {w : Wd} {l l' : List Ru} {b b' : List F} {o : Option (List F)} (h : Lst w l (sortF b) o) (hl : ∀ r, r ∈ l ↔ r ∈ l') (hb : ∀ x, x ∈ b ↔ x ∈ b') : Lst w l' (sortF b') o := by
  rw [← (sortF_eq_iff b b').2 hb]
  have hst : ∀ m, SS m → step w l' m = step w l m := fun m hs => (step_SS hs).uniq (step_SS hs) fun x => by
    rw [mem_step hs, mem_step hs]
    exact ⟨fun h => h.imp id fun h => h.mono (fun r hr => (hl r).2 hr) fun _ h => h, fun h => h.imp id fun h => h.mono (fun r hr => (hl r).1 hr) fun _ h => h⟩
  have hs := sortF_SS b
  generalize sortF b = m at h hs
  induction h using Lst.ind with
  | full h1 => exact .full h1
  | done h1 h2 => exact .done h1 (by rw [hst _ hs]; exact h2)
  | more h1 h2 h3 ih =>
    refine .more h1 (by rw [hst _ hs]; exact h2) ?_
    rw [hst _ hs]
    exact ih (step_SS hs)
theorem lits_ext {home : Tm} : ∀ {ls : List Lt} {fs : List F} {e e2 : Env}, lits home ls fs e = some e2 → ∃ m, e2 = e ++ m
  | [], [], e, e2, h => by rw [lits] at h; cases h; exact ⟨[], by simp⟩
  | l :: ls, f :: fs, e, e2, h => by
    rw [lits] at h
    obtain ⟨e1, h1, h2⟩ := Option.bind_eq_some_iff.1 h
    obtain ⟨⟨m, rfl⟩, _⟩ := Mt.lit_has h1
    obtain ⟨m', rfl⟩ := lits_ext h2
    exact ⟨m ++ m', by simp⟩
  | [], f :: fs, e, e2, h => by cases h
  | l :: ls, [], e, e2, h => by cases h
/-- what follows stands at one of the names, said by one of the homes -/
theorem Ins.place {w : Wd} {l : List Ru} {m : List F} {f : F} (h : Ins w l m f) : f.at_ ∈ w.names ∧ f.by_ ∈ w.homes := by
  obtain ⟨r, _, h, hh, e, hu, fs, _, e2, h2, h3, h4⟩ := h
  refine ⟨h4, ?_⟩
  obtain ⟨mm, rfl⟩ := lits_ext h2
  have hv := Mt.val_ext (Mt.uni_val hu).1 mm
  have hb := (Mt.fact_parts (show Mt.fact (Mt.place r.home r.to_) r.home r.pred r.args (e ++ mm) = some f from h3)).2.1
  rw [hv] at hb
  have : h = f.by_ := Mt.nm_inj (Option.some.inj hb)
  rw [← this]; exact hh
theorem names {w : Wd} {l : List Ru} {b n : List F} (h : Lst w l (sortF b) (some n)) : ∀ x ∈ n, x ∈ b ∨ (x.at_ ∈ w.names ∧ x.by_ ∈ w.homes) :=
  h.pred (sortF_SS _) (fun _ hx => .inl ((mem_sortF _ _).1 hx)) fun _ _ _ hf => .inr hf.place
end Ml
end Go.Proofs.YtpdmmmdkpipmkaaGreatDoor

/-
  The mathematics of layer 12, as the reference goes: it counts what it does, and gives up where that is too much. No program in this text.
-/
namespace Go.Proofs.YtpdmmmdkpipmkaaGreatDoor
namespace Ml
open Mt (Tx Env uni lit lits head nm val)

/-- how much was done; too much? -/
structure Cn where
  done : Nat
  heavy : Bool
def bump (c : Cn) : Cn := ⟨c.done + 1, c.heavy || decide (60000 < c.done + 1)⟩
/-- counts that a way can come to -/
structure Cn.Ok (c : Cn) : Prop where
  most : c.done ≤ 60001
  light : c.heavy = false → c.done ≤ 60000
theorem Cn.Ok.bump {c : Cn} (h : c.Ok) (hl : c.heavy = false) : (bump c).Ok := by
  have := h.light hl
  refine ⟨by show c.done + 1 ≤ 60001; omega, fun hb => ?_⟩
  have h2 : (c.heavy || decide (60000 < c.done + 1)) = false := hb
  rw [hl, Bool.false_or, decide_eq_false_iff_not] at h2
  show c.done + 1 ≤ 60000; omega
theorem bump_heavy {c : Cn} (h : c.heavy = true) : (bump c).heavy = true := by unfold bump; rw [h]; rfl

/-- one fact held against a literal; further: what is done where it is taken -/
def one (home : Tm) (l : Lt) (e : Env) (further : Env → Cn × List F → Cn × List F) (st : Cn × List F) (f : F) : Cn × List F :=
  if st.1.heavy = true then st else match lit home l f e with
    | none => (bump st.1, st.2)
    | some e1 => further e1 (bump st.1, st.2)
/-- from a literal on -/
def frm (w : Wd) (r : Ru) (m : List F) : List Lt → Env → Cn × List F → Cn × List F
  | [], e, st => (st.1, (hd w r e).foldl ins st.2)
  | l :: ls, e, st => m.foldl (one r.home l e (frm w r m ls)) st
theorem one_stop {home : Tm} {l : Lt} {e : Env} {g : Env → Cn × List F → Cn × List F} {st : Cn × List F} (h : st.1.heavy = true) (f : F) : one home l e g st f = st := by
  unfold one; rw [if_pos h]
theorem fold_stop {home : Tm} {l : Lt} {e : Env} {g : Env → Cn × List F → Cn × List F} : ∀ (ms : List F) {st : Cn × List F}, st.1.heavy = true → ms.foldl (one home l e g) st = st
  | [], st, _ => rfl
  | f :: ms, st, h => by rw [List.foldl_cons, one_stop h]; exact fold_stop ms h
theorem frm_stop {w : Wd} {r : Ru} {m : List F} : ∀ (ls : List Lt) (e : Env) {st : Cn × List F}, st.1.heavy = true → (frm w r m ls e st).1 = st.1
  | [], _, _, _ => rfl
  | l :: ls, e, st, h => by rw [frm, fold_stop m h]
theorem frm_ok {w : Wd} {r : Ru} {m : List F} : ∀ (ls : List Lt) (e : Env) {st : Cn × List F}, st.1.Ok → (frm w r m ls e st).1.Ok
  | [], _, _, h => h
  | l :: ls, e, st, h => by
    rw [frm]
    suffices ∀ (ms : List F) (st : Cn × List F), st.1.Ok → (ms.foldl (one r.home l e (frm w r m ls)) st).1.Ok from this m st h
    intro ms
    induction ms with
    | nil => exact fun _ h => h
    | cons f ms ih =>
      intro st h
      rw [List.foldl_cons]
      refine ih _ ?_
      unfold one
      split
      · exact h
      · rename_i hh
        have hl : st.1.heavy = false := by simpa using hh
        split
        · exact h.bump hl
        · exact frm_ok ls _ (h.bump hl)
theorem fold_heavy {home : Tm} {l : Lt} {e : Env} {g : Env → Cn × List F → Cn × List F} {ms : List F} {st : Cn × List F} (h : (ms.foldl (one home l e g) st).1.heavy = false) : st.1.heavy = false := by
  cases hs : st.1.heavy with
  | false => rfl
  | true => rw [fold_stop ms hs, hs] at h; cases h
theorem frm_heavy {w : Wd} {r : Ru} {m : List F} {ls : List Lt} {e : Env} {st : Cn × List F} (h : (frm w r m ls e st).1.heavy = false) : st.1.heavy = false := by
  cases hs : st.1.heavy with
  | false => rfl
  | true => rw [frm_stop ls e hs, hs] at h; cases h
/-- where it was not too much, all heads were put in -/
theorem frm_light {w : Wd} {r : Ru} {m : List F} : ∀ (ls : List Lt) (e : Env) (st : Cn × List F), (frm w r m ls e st).1.heavy = false → (frm w r m ls e st).2 = ((envs r.home m ls e).flatMap (hd w r)).foldl ins st.2
  | [], e, st, _ => by rw [frm, envs]; simp
  | l :: ls, e, st, h => by
    rw [frm] at h ⊢
    rw [envs]
    suffices ∀ (ms : List F) (st : Cn × List F), (ms.foldl (one r.home l e (frm w r m ls)) st).1.heavy = false → (ms.foldl (one r.home l e (frm w r m ls)) st).2 = ((ms.flatMap fun f => match lit r.home l f e with
        | none => []
        | some e1 => envs r.home m ls e1).flatMap (hd w r)).foldl ins st.2 from this m st h
    intro ms
    induction ms with
    | nil => exact fun _ _ => rfl
    | cons f ms ih =>
      intro st h
      rw [List.foldl_cons] at h ⊢
      rw [ih _ h, List.flatMap_cons, List.flatMap_append, List.foldl_append]
      congr 1
      have h1 := fold_heavy h
      have h0 : st.1.heavy = false := by
        cases hs : st.1.heavy with
        | false => rfl
        | true => rw [one_stop hs, hs] at h1; cases h1
      unfold one at h1 ⊢
      rw [if_neg (by rw [h0]; decide)] at h1 ⊢
      cases hl : lit r.home l f e with
      | none => rfl
      | some e1 =>
        rw [hl] at h1
        exact frm_light ls e1 _ h1
/-- one home of a rule -/
def byHome (w : Wd) (r : Ru) (m : List F) (st : Cn × List F) (h : Tx) : Cn × List F := match uni r.home (nm h) [] with
  | none => st
  | some e => frm w r m r.body e st
def byRule (w : Wd) (m : List F) (st : Cn × List F) (r : Ru) : Cn × List F := w.homes.foldl (byHome w r m) st
/-- the reference's Once -/
def onceR (w : Wd) (l : List Ru) (m : List F) (c : Cn) : Cn × List F := l.foldl (byRule w m) (c, [])
theorem byHome_ok {w : Wd} {r : Ru} {m : List F} {st : Cn × List F} (h : st.1.Ok) (x : Tx) : (byHome w r m st x).1.Ok := by
  unfold byHome
  split
  · exact h
  · exact frm_ok _ _ h
theorem homes_ok {w : Wd} {r : Ru} {m : List F} : ∀ (hs : List Tx) {st : Cn × List F}, st.1.Ok → (hs.foldl (byHome w r m) st).1.Ok
  | [], _, h => h
  | x :: hs, _, h => by rw [List.foldl_cons]; exact homes_ok hs (byHome_ok h x)
theorem rules_ok {w : Wd} {m : List F} : ∀ (l : List Ru) {st : Cn × List F}, st.1.Ok → (l.foldl (byRule w m) st).1.Ok
  | [], _, h => h
  | r :: l, _, h => by rw [List.foldl_cons]; exact rules_ok l (homes_ok _ h)
theorem byHome_heavy {w : Wd} {r : Ru} {m : List F} {st : Cn × List F} {x : Tx} (h : (byHome w r m st x).1.heavy = false) : st.1.heavy = false ∧ (byHome w r m st x).2 = (heads w r m x).foldl ins st.2 := by
  unfold byHome at h ⊢
  unfold heads
  cases hu : uni r.home (nm x) [] with
  | none => rw [hu] at h; exact ⟨h, rfl⟩
  | some e => rw [hu] at h; exact ⟨frm_heavy h, frm_light _ _ _ h⟩
theorem homes_light {w : Wd} {r : Ru} {m : List F} : ∀ (hs : List Tx) {st : Cn × List F}, (hs.foldl (byHome w r m) st).1.heavy = false → st.1.heavy = false ∧ (hs.foldl (byHome w r m) st).2 = (hs.flatMap fun h => heads w r m h).foldl ins st.2
  | [], _, h => ⟨h, rfl⟩
  | x :: hs, st, h => by
    rw [List.foldl_cons] at h ⊢
    obtain ⟨h1, h2⟩ := homes_light hs h
    obtain ⟨h3, h4⟩ := byHome_heavy h1
    exact ⟨h3, by rw [h2, h4, List.flatMap_cons, List.foldl_append]⟩
theorem rules_light {w : Wd} {m : List F} : ∀ (l : List Ru) {st : Cn × List F}, (l.foldl (byRule w m) st).1.heavy = false → st.1.heavy = false ∧ (l.foldl (byRule w m) st).2 = (onceL w l m).foldl ins st.2
  | [], _, h => ⟨h, rfl⟩
  | r :: l, st, h => by
    rw [List.foldl_cons] at h ⊢
    obtain ⟨h1, h2⟩ := rules_light l h
    obtain ⟨h3, h4⟩ := homes_light w.homes h1
    refine ⟨h3, ?_⟩
    rw [h2]
    show (onceL w l m).foldl ins (w.homes.foldl (byHome w r m) st).2 = _
    rw [h4]
    unfold onceL
    rw [List.flatMap_cons, List.foldl_append]
theorem onceR_light {w : Wd} {l : List Ru} {m : List F} {c : Cn} (h : (onceR w l m c).1.heavy = false) : c.heavy = false ∧ (onceR w l m c).2 = once w l m := by
  obtain ⟨h1, h2⟩ := rules_light l h
  exact ⟨h1, by unfold onceR once sortF; exact h2⟩
theorem onceR_ok {w : Wd} {l : List Ru} {m : List F} {c : Cn} (h : c.Ok) : (onceR w l m c).1.Ok := rules_ok l h
/-- what is put in stays in order -/
theorem frm_SS {w : Wd} {r : Ru} {m : List F} : ∀ (ls : List Lt) (e : Env) {st : Cn × List F}, SS st.2 → SS (frm w r m ls e st).2
  | [], _, _, h => (foldl_ins _ _ h).1
  | l :: ls, e, st, h => by
    rw [frm]
    suffices ∀ (ms : List F) (st : Cn × List F), SS st.2 → SS (ms.foldl (one r.home l e (frm w r m ls)) st).2 from this m st h
    intro ms
    induction ms with
    | nil => exact fun _ h => h
    | cons f ms ih =>
      intro st h
      rw [List.foldl_cons]
      refine ih _ ?_
      unfold one
      split
      · exact h
      · split
        · exact h
        · exact frm_SS ls _ h
theorem homes_SS {w : Wd} {r : Ru} {m : List F} : ∀ (hs : List Tx) {st : Cn × List F}, SS st.2 → SS (hs.foldl (byHome w r m) st).2
  | [], _, h => h
  | x :: hs, _, h => by
    rw [List.foldl_cons]
    refine homes_SS hs ?_
    unfold byHome
    split
    · exact h
    · exact frm_SS _ _ h
theorem rules_SS {w : Wd} {m : List F} : ∀ (l : List Ru) {st : Cn × List F}, SS st.2 → SS (l.foldl (byRule w m) st).2
  | [], _, h => h
  | r :: l, _, h => by rw [List.foldl_cons]; exact rules_SS l (homes_SS _ h)

/-- the reference's Least: what it tells (none: too great), how much was done, too much? -/
def LstRN (w : Wd) (l : List Ru) : Nat → List F → Cn → Option (List F) → Cn → Prop
  | 0, m, c, o, c2 => (c.heavy = true ∧ o = some [] ∧ c2 = c) ∨ (c.heavy = false ∧ 400 < m.length ∧ o = none ∧ c2 = c) ∨ (c.heavy = false ∧ m.length ≤ 400 ∧ ((onceR w l m c).2.foldl ins m).length = m.length ∧ o = some m ∧ c2 = (onceR w l m c).1)
  | n + 1, m, c, o, c2 => ((c.heavy = true ∧ o = some [] ∧ c2 = c) ∨ (c.heavy = false ∧ 400 < m.length ∧ o = none ∧ c2 = c) ∨ (c.heavy = false ∧ m.length ≤ 400 ∧ ((onceR w l m c).2.foldl ins m).length = m.length ∧ o = some m ∧ c2 = (onceR w l m c).1)) ∨
      (c.heavy = false ∧ m.length ≤ 400 ∧ ((onceR w l m c).2.foldl ins m).length ≠ m.length ∧ LstRN w l n ((onceR w l m c).2.foldl ins m) (onceR w l m c).1 o c2)
def LstR (w : Wd) (l : List Ru) (m : List F) (c : Cn) (o : Option (List F)) (c2 : Cn) : Prop := ∃ n, LstRN w l n m c o c2
theorem LstR.heavy {w : Wd} {l : List Ru} {m : List F} {c : Cn} (h : c.heavy = true) : LstR w l m c (some []) c := ⟨0, .inl ⟨h, rfl, rfl⟩⟩
theorem LstR.full {w : Wd} {l : List Ru} {m : List F} {c : Cn} (h : c.heavy = false) (h2 : 400 < m.length) : LstR w l m c none c := ⟨0, .inr (.inl ⟨h, h2, rfl, rfl⟩)⟩
theorem LstR.done {w : Wd} {l : List Ru} {m : List F} {c : Cn} (h : c.heavy = false) (h2 : m.length ≤ 400) (h3 : ((onceR w l m c).2.foldl ins m).length = m.length) : LstR w l m c (some m) (onceR w l m c).1 := ⟨0, .inr (.inr ⟨h, h2, h3, rfl, rfl⟩)⟩
theorem LstR.more {w : Wd} {l : List Ru} {m : List F} {c c2 : Cn} {o : Option (List F)} (h : c.heavy = false) (h2 : m.length ≤ 400) (h3 : ((onceR w l m c).2.foldl ins m).length ≠ m.length) (h4 : LstR w l ((onceR w l m c).2.foldl ins m) (onceR w l m c).1 o c2) : LstR w l m c o c2 := by
  obtain ⟨n, hn⟩ := h4
  exact ⟨n + 1, .inr ⟨h, h2, h3, hn⟩⟩
theorem LstR.ind {w : Wd} {l : List Ru} {motive : (m : List F) → (c : Cn) → (o : Option (List F)) → (c2 : Cn) → LstR w l m c o c2 → Prop}
    (heavy : ∀ {m : List F} {c : Cn} (h : c.heavy = true), motive m c (some []) c (LstR.heavy h))
    (full : ∀ {m : List F} {c : Cn} (h : c.heavy = false) (h2 : 400 < m.length), motive m c none c (LstR.full h h2))
    (done : ∀ {m : List F} {c : Cn} (h : c.heavy = false) (h2 : m.length ≤ 400) (h3 : ((onceR w l m c).2.foldl ins m).length = m.length), motive m c (some m) (onceR w l m c).1 (LstR.done h h2 h3))
    (more : ∀ {m : List F} {c c2 : Cn} {o : Option (List F)} (h : c.heavy = false) (h2 : m.length ≤ 400) (h3 : ((onceR w l m c).2.foldl ins m).length ≠ m.length) (h4 : LstR w l ((onceR w l m c).2.foldl ins m) (onceR w l m c).1 o c2), motive _ _ o c2 h4 → motive m c o c2 (LstR.more h h2 h3 h4))
    {m : List F} {c : Cn} {o : Option (List F)} {c2 : Cn} (t : LstR w l m c o c2) : motive m c o c2 t := by
  obtain ⟨n, hn⟩ := t
  induction n generalizing m c o with
  | zero =>
    rcases hn with ⟨h1, rfl, rfl⟩ | ⟨h1, h2, rfl, rfl⟩ | ⟨h1, h2, h3, rfl, rfl⟩
    · exact heavy h1
    · exact full h1 h2
    · exact done h1 h2 h3
  | succ n ih =>
    rcases hn with (⟨h1, rfl, rfl⟩ | ⟨h1, h2, rfl, rfl⟩ | ⟨h1, h2, h3, rfl, rfl⟩) | ⟨h1, h2, h3, h4⟩
    · exact heavy h1
    · exact full h1 h2
    · exact done h1 h2 h3
    · exact more h1 h2 h3 ⟨n, h4⟩ (ih h4)
theorem LstR.light {w : Wd} {l : List Ru} {m : List F} {c c2 : Cn} {o : Option (List F)} (h : LstR w l m c o c2) (hs : SS m) (hl : c2.heavy = false) : c.heavy = false ∧ Lst w l m o := by
  induction h using LstR.ind with
  | heavy h1 => rw [h1] at hl; cases hl
  | full h1 h2 => exact ⟨h1, .full h2⟩
  | done h1 h2 h4 =>
    obtain ⟨_, i2⟩ := onceR_light hl
    rw [i2] at h4
    exact ⟨h1, .done h2 ((step_len_iff hs).1 h4)⟩
  | more h1 h2 h4 h5 ih =>
    obtain ⟨i1, i3⟩ := ih (foldl_ins _ _ hs).1 hl
    obtain ⟨_, i2⟩ := onceR_light i1
    rw [i2] at i3 h4
    exact ⟨h1, .more h2 (fun he => h4 (by show (step w l _).length = _; rw [he])) i3⟩
theorem fold_more {m s : List F} (hs : SS m) (hn : (s.foldl ins m).length ≠ m.length) : m.length < (s.foldl ins m).length := by
  have := sub_len hs (fun x hx => ((foldl_ins s m hs).2 x).2 (.inl hx))
  omega
/-- it has an end -/
theorem LstR.ex (w : Wd) (l : List Ru) : ∀ (n : Nat) (m : List F) (c : Cn), SS m → 401 ≤ m.length + n → ∃ o c2, LstR w l m c o c2
  | 0, m, c, _, h => by
    cases hc : c.heavy with
    | true => exact ⟨_, _, .heavy hc⟩
    | false => exact ⟨none, c, .full hc (by omega)⟩
  | n + 1, m, c, hs, h => by
    cases hc : c.heavy with
    | true => exact ⟨_, _, .heavy hc⟩
    | false =>
      by_cases h4 : 400 < m.length
      · exact ⟨none, c, .full hc h4⟩
      · by_cases hf : ((onceR w l m c).2.foldl ins m).length = m.length
        · exact ⟨_, _, .done hc (by omega) hf⟩
        · obtain ⟨o, c2, ho⟩ := LstR.ex w l n ((onceR w l m c).2.foldl ins m) (onceR w l m c).1 (foldl_ins _ m hs).1 (by have := fold_more hs hf; omega)
          exact ⟨o, c2, .more hc (by omega) hf ho⟩
end Ml
end Go.Proofs.YtpdmmmdkpipmkaaGreatDoor

/-
  The mathematics of layer 12: how many heads there are, at most, where the reference's count stayed small; the document's example. No program in this text.
-/
namespace Go.Proofs.YtpdmmmdkpipmkaaGreatDoor
namespace Ml
open Mt (Tx Env uni lit lits head nm val)

/-- literals that are no literals count one -/
def cr : List Lt → Nat
  | [] => 1
  | _ :: _ => 0
theorem cr_le (ls : List Lt) : cr ls ≤ 1 := by cases ls <;> simp [cr]
theorem frm_few {w : Wd} {r : Ru} {m : List F} : ∀ (ls : List Lt) (e : Env) (st : Cn × List F), (frm w r m ls e st).1.heavy = false → (envs r.home m ls e).length + st.1.done ≤ (frm w r m ls e st).1.done + cr ls
  | [], e, st, _ => by rw [frm, envs]; simp only [cr, List.length_singleton]; omega
  | l :: ls, e, st, h => by
    rw [frm] at h ⊢
    rw [envs]
    suffices ∀ (ms : List F) (st : Cn × List F), (ms.foldl (one r.home l e (frm w r m ls)) st).1.heavy = false → (ms.flatMap fun f => match lit r.home l f e with
        | none => []
        | some e1 => envs r.home m ls e1).length + st.1.done ≤ (ms.foldl (one r.home l e (frm w r m ls)) st).1.done from this m st h
    intro ms
    induction ms with
    | nil => intro st _; simp
    | cons f ms ih =>
      intro st h
      rw [List.foldl_cons] at h ⊢
      have h2 := ih _ h
      rw [List.flatMap_cons, List.length_append]
      have h1 := fold_heavy h
      have h0 : st.1.heavy = false := by
        cases hs : st.1.heavy with
        | false => rfl
        | true => rw [one_stop hs, hs] at h1; cases h1
      suffices (match lit r.home l f e with
        | none => []
        | some e1 => envs r.home m ls e1).length + st.1.done ≤ (one r.home l e (frm w r m ls) st f).1.done by omega
      unfold one at h1 ⊢
      rw [if_neg (by rw [h0]; decide)] at h1 ⊢
      cases hl : lit r.home l f e with
      | none => simp [bump]
      | some e1 =>
        rw [hl] at h1
        have h3 := frm_few ls e1 _ h1
        have h4 := cr_le ls
        simp only [bump] at h3 ⊢
        omega
theorem hd_few (w : Wd) (r : Ru) (e : Env) : (hd w r e).length ≤ 1 := by
  unfold hd
  split
  · simp
  · split <;> simp
theorem hds_few (w : Wd) (r : Ru) : ∀ es : List Env, (es.flatMap (hd w r)).length ≤ es.length
  | [] => by simp
  | e :: es => by rw [List.flatMap_cons, List.length_append, List.length_cons]; have := hds_few w r es; have := hd_few w r e; omega
theorem byHome_few {w : Wd} {r : Ru} {m : List F} {st : Cn × List F} {x : Tx} (h : (byHome w r m st x).1.heavy = false) : (heads w r m x).length + st.1.done ≤ (byHome w r m st x).1.done + 1 := by
  unfold byHome at h ⊢
  unfold heads
  cases hu : uni r.home (nm x) [] with
  | none => simp
  | some e =>
    rw [hu] at h
    have h1 := frm_few _ _ _ h
    have h2 := cr_le r.body
    have h3 := hds_few w r (envs r.home m r.body e)
    simp only
    omega
theorem homes_few {w : Wd} {r : Ru} {m : List F} : ∀ (hs : List Tx) {st : Cn × List F}, (hs.foldl (byHome w r m) st).1.heavy = false → (hs.flatMap fun h => heads w r m h).length + st.1.done ≤ (hs.foldl (byHome w r m) st).1.done + hs.length
  | [], _, _ => by simp
  | x :: hs, st, h => by
    rw [List.foldl_cons] at h ⊢
    have h1 := homes_few hs h
    have h2 := byHome_few (homes_light hs h).1
    rw [List.flatMap_cons, List.length_append, List.length_cons]
    omega
theorem rules_few {w : Wd} {m : List F} : ∀ (l : List Ru) {st : Cn × List F}, (l.foldl (byRule w m) st).1.heavy = false → (onceL w l m).length + st.1.done ≤ (l.foldl (byRule w m) st).1.done + l.length * w.homes.length
  | [], _, _ => by simp [onceL]
  | r :: l, st, h => by
    rw [List.foldl_cons] at h ⊢
    have h1 := rules_few l h
    have h2 := homes_few w.homes (rules_light l h).1
    have h3 : (onceL w (r :: l) m).length = (w.homes.flatMap fun h => heads w r m h).length + (onceL w l m).length := by unfold onceL; rw [List.flatMap_cons, List.length_append]
    have h4 : (byRule w m st r) = w.homes.foldl (byHome w r m) st := rfl
    rw [h3, List.length_cons, Nat.succ_mul]
    rw [h4] at h1 ⊢
    omega
/-- all heads, with repetitions: few -/
theorem onceL_few {w : Wd} {l : List Ru} {m : List F} {c : Cn} (hc : c.Ok) (h : (onceR w l m c).1.heavy = false) : (onceL w l m).length ≤ 60000 + l.length * w.homes.length := by
  have h1 := rules_few l h
  have h2 := (onceR_ok (w := w) (l := l) (m := m) hc).light h
  have h3 : (onceR w l m c).1.done = (l.foldl (byRule w m) (c, [])).1.done := rfl
  omega
theorem onceL_len (w : Wd) (m : List F) {l l' : List Ru} (h : l.Perm l') : (onceL w l m).length = (onceL w l' m).length := by
  unfold onceL; exact (h.flatMap_right _).length_eq

/-! the document's example: A: p(X) to b :- q(X). -/
def exW : Wd := ⟨[[97]], [[97], [98]]⟩
def exR : Ru := ⟨⟨[65], k0⟩, [112], [⟨[88], k0⟩], ⟨[], ⟨false, 0, [98]⟩⟩, [⟨t0, [113], [⟨[88], k0⟩], t0⟩]⟩
def exQ : F := ⟨[97], [97], [113], [⟨true, 1, []⟩]⟩
def exP : F := ⟨[98], [97], [112], [⟨true, 1, []⟩]⟩
theorem ex_once1 : onceL exW [exR] [exQ] = [exP] := by rfl
theorem ex_once2 : onceL exW [exR] [exQ, exP] = [exP] := by rfl
theorem ex_SS : SS [exQ, exP] := List.pairwise_cons.2 ⟨fun y hy => by
  rw [List.mem_singleton] at hy; subst hy
  unfold cF lex2; rw [if_neg (by decide)]; decide, by simp⟩
theorem ex_sort : sortF [exQ] = [exQ] := (sortF_of (m := [exQ]) (List.pairwise_singleton ..) (fun _ => Iff.rfl)).symm
theorem ex_least : Lst exW [exR] (sortF [exQ]) (some [exQ, exP]) := by
  rw [ex_sort]
  refine Lst.of (List.pairwise_singleton ..) ex_SS (by decide) (fun x hx => by rw [List.mem_singleton] at hx; subst hx; exact List.mem_cons_self ..) (fun f hf => ?_) (fun c h1 h2 x hx => ?_)
  · have := mem_onceL.2 hf
    rw [ex_once2] at this
    exact List.mem_cons_of_mem _ this
  · rcases List.mem_cons.1 hx with rfl | hx
    · exact h1 _ (List.mem_cons_self ..)
    · refine h2 _ ((mem_onceL.1 (?_ : x ∈ onceL exW [exR] [exQ])).mono (fun _ h => h) h1)
      rw [ex_once1]; exact hx
end Ml
end Go.Proofs.YtpdmmmdkpipmkaaGreatDoor

/-
  The mathematics of layer 12, as the program goes: bindings of which only what is asked later is kept, and of facts that differ in what nobody else asks one alone. No program in this text.
-/
namespace Go.Proofs.YtpdmmmdkpipmkaaGreatDoor
namespace Ml
open Mt (Tx Env uni unis by1 lit lits head nm val get nul place vals name fact eqK eqK_iff)

theorem get_app (v : Tx) (e m : Env) : get v (e ++ m) = (get v e).or (get v m) := by
  unfold Mt.get
  rw [List.find?_append]
  cases e.find? (fun b => b.1 == v) with
  | none => simp
  | some b => simp
theorem get_none {v : Tx} {e : Env} : get v e = none ↔ v ∉ e.map (·.1) := by
  unfold Mt.get
  rw [Option.map_eq_none_iff, List.find?_eq_none]
  simp only [List.mem_map, not_exists, not_and, beq_iff_eq]
theorem get_mem {v : Tx} {c : K} {e : Env} (h : get v e = some c) : (v, c) ∈ e := by
  unfold Mt.get at h
  obtain ⟨b, hb, rfl⟩ := Option.map_eq_some_iff.1 h
  have h1 := List.find?_some hb
  have h2 := List.mem_of_find?_eq_some hb
  simp only [beq_iff_eq] at h1
  subst h1
  exact h2
theorem mem_get : ∀ {e : Env} {v : Tx} {c : K}, (e.map (·.1)).Nodup → (v, c) ∈ e → get v e = some c
  | [], v, c, _, h => by cases h
  | b :: e, v, c, hn, h => by
    rw [List.map_cons, List.nodup_cons] at hn
    unfold Mt.get
    rw [List.find?_cons]
    rcases List.mem_cons.1 h with rfl | h
    · simp
    · have : b.1 ≠ v := fun he => hn.1 (he ▸ List.mem_map_of_mem (f := (·.1)) h)
      rw [show (b.1 == v) = false by simpa using this]
      exact mem_get hn.2 h
theorem get_filter {p : Tx × K → Bool} {v : Tx} : ∀ {e : Env}, (∀ c, p (v, c) = true) → get v (e.filter p) = get v e
  | [], _ => rfl
  | b :: e, h => by
    unfold Mt.get
    rw [List.filter_cons]
    split
    · rw [List.find?_cons, List.find?_cons]
      split
      · rfl
      · exact get_filter (e := e) h
    · rename_i hp
      rw [List.find?_cons]
      have : b.1 ≠ v := fun he => hp (by have := h b.2; rw [← he] at this; exact this)
      rw [show (b.1 == v) = false by simpa using this]
      exact get_filter (e := e) h

/-- what a term's match adds, by the value that the term has -/
def uniM (t : Tm) (c : K) : Option K → Option Env
  | some v => if eqK v c = true then some [] else none
  | none => if nul t = true then none else some [(t.v, c)]
theorem uni_eq (t : Tm) (c : K) (e : Env) : uni t c e = (uniM t c (val t e)).map (e ++ ·) := by
  unfold uni uniM
  cases val t e with
  | some v => simp only; split <;> simp
  | none => simp only; split <;> simp
theorem val_agree {t : Tm} {e p : Env} (h : get t.v p = get t.v e) : val t p = val t e := by
  unfold val; rw [h]

/-- two bindings to which the same is added -/
def Both (e p : Env) (x y : Option Env) : Prop := ∃ o : Option Env, x = o.map (e ++ ·) ∧ y = o.map (p ++ ·)
theorem Both.bind {e p : Env} {x y : Option Env} {f g : Env → Option Env} (h : Both e p x y) (hf : ∀ m, Both (e ++ m) (p ++ m) (f (e ++ m)) (g (p ++ m))) : Both e p (x.bind f) (y.bind g) := by
  obtain ⟨o, rfl, rfl⟩ := h
  cases o with
  | none => exact ⟨none, rfl, rfl⟩
  | some m =>
    obtain ⟨o, h1, h2⟩ := hf m
    refine ⟨o.map (m ++ ·), ?_, ?_⟩
    · show f (e ++ m) = _
      rw [h1]; cases o <;> simp
    · show g (p ++ m) = _
      rw [h2]; cases o <;> simp
theorem Both.self (e p : Env) : Both e p (some e) (some p) := ⟨some [], by simp, by simp⟩
theorem Both.none (e p : Env) : Both e p none none := ⟨Option.none, rfl, rfl⟩
def Agree (V : List Tx) (e p : Env) : Prop := ∀ v ∈ V, get v p = get v e
theorem Agree.app {V : List Tx} {e p : Env} (h : Agree V e p) (m : Env) : Agree V (e ++ m) (p ++ m) := fun v hv => by rw [get_app, get_app, h v hv]
theorem Agree.sub {V U : List Tx} {e p : Env} (h : Agree V e p) (hu : ∀ v ∈ U, v ∈ V) : Agree U e p := fun v hv => h v (hu v hv)
theorem uni_both {t : Tm} {c : K} {e p : Env} (h : get t.v p = get t.v e) : Both e p (uni t c e) (uni t c p) := ⟨uniM t c (val t e), uni_eq t c e, by rw [uni_eq, val_agree h]⟩
theorem unis_both : ∀ {ts : List Tm} {cs : List K} {e p : Env}, Agree (ts.map (·.v)) e p → Both e p (unis ts cs e) (unis ts cs p)
  | [], [], e, p, _ => Both.self e p
  | t :: ts, c :: cs, e, p, h => by
    rw [unis, unis]
    refine (uni_both (h t.v (by simp))).bind fun m => ?_
    exact unis_both ((h.app m).sub fun v hv => List.mem_cons_of_mem _ hv)
  | [], c :: cs, e, p, _ => Both.none e p
  | t :: ts, [], e, p, _ => Both.none e p
/-- the variables of a literal -/
def lvars (l : Lt) : List Tx := l.by_.v :: l.at_.v :: l.args.map (·.v)
theorem place_v (home t : Tm) : (place home t).v = home.v ∨ (place home t).v = t.v := by
  unfold place; split <;> simp
theorem place_in (home : Tm) (l : Lt) : (place home l.at_).v ∈ home.v :: lvars l := by
  rcases place_v home l.at_ with h | h <;> rw [h] <;> simp [lvars]
theorem lit_both {home : Tm} {l : Lt} {f : F} {e p : Env} (h : Agree (home.v :: lvars l) e p) : Both e p (lit home l f e) (lit home l f p) := by
  unfold lit
  split
  · refine (uni_both (h _ (place_in home l))).bind fun m => ?_
    refine Both.bind ?_ fun m' => ?_
    · unfold by1
      split
      · split
        · exact Both.self _ _
        · exact Both.none _ _
      · exact uni_both ((h.app m) _ (by simp [lvars]))
    · exact unis_both (((h.app m).app m').sub fun v hv => by simp only [lvars, List.mem_cons]; exact .inr (.inr (.inr hv)))
  · exact Both.none e p
theorem val_heads {t : Tm} {V : List Tx} {e p : Env} (h : Agree V e p) (hv : t.v ∈ V) : val t p = val t e := val_agree (h _ hv)
theorem vals_agree {e p : Env} : ∀ {ts : List Tm}, Agree (ts.map (·.v)) e p → vals p ts = vals e ts
  | [], _ => rfl
  | t :: ts, h => by
    rw [vals, vals, val_agree (h t.v (by simp)), vals_agree (h.sub fun v hv => List.mem_cons_of_mem _ hv)]
/-- the variables of a rule's head and home -/
def hvars (r : Ru) : List Tx := r.home.v :: r.to_.v :: r.args.map (·.v)
theorem head_agree {r : Ru} {e p : Env} (h : Agree (hvars r) e p) : head r p = head r e := by
  have h1 : val (place r.home r.to_) p = val (place r.home r.to_) e := by
    refine val_agree (h _ ?_)
    rcases place_v r.home r.to_ with q | q <;> rw [q] <;> simp [hvars]
  have h2 : val r.home p = val r.home e := val_agree (h _ (by simp [hvars]))
  have h3 : vals p r.args = vals e r.args := vals_agree (h.sub fun v hv => by simp only [hvars, List.mem_cons]; exact .inr (.inr hv))
  unfold head fact name
  rw [h1, h2, h3]

/-! which variables are bound -/
theorem val_isNone {t : Tm} {e p : Env} (h : e.map (·.1) = p.map (·.1)) : val t e = none ↔ val t p = none := by
  unfold val
  split
  · simp
  · split
    · simp
    · rw [get_none, get_none, h]
theorem uni_vars {t : Tm} {c d : K} {e p e1 p1 : Env} (h : e.map (·.1) = p.map (·.1)) (he : uni t c e = some e1) (hp : uni t d p = some p1) : e1.map (·.1) = p1.map (·.1) := by
  rw [uni_eq] at he hp
  have hn := val_isNone (t := t) h
  cases hv : val t e with
  | none =>
    rw [hv] at he; rw [hn.1 hv] at hp
    unfold uniM at he hp
    simp only at he hp
    split at he
    · cases he
    · rename_i hk
      rw [if_neg hk] at hp
      simp only [Option.map_some, Option.some.injEq] at he hp
      subst he hp
      simp [h]
  | some v =>
    cases hv' : val t p with
    | none => rw [hn.2 hv'] at hv; cases hv
    | some v' =>
      rw [hv] at he; rw [hv'] at hp
      unfold uniM at he hp
      simp only at he hp
      split at he
      · split at hp
        · simp only [Option.map_some, Option.some.injEq, List.append_nil] at he hp
          subst he hp; exact h
        · cases hp
      · cases he
theorem unis_vars : ∀ {ts : List Tm} {cs ds : List K} {e p e1 p1 : Env}, e.map (·.1) = p.map (·.1) → unis ts cs e = some e1 → unis ts ds p = some p1 → e1.map (·.1) = p1.map (·.1)
  | [], [], [], e, p, e1, p1, h, he, hp => by cases he; cases hp; exact h
  | t :: ts, c :: cs, d :: ds, e, p, e1, p1, h, he, hp => by
    rw [unis] at he hp
    obtain ⟨e2, h1, h2⟩ := Option.bind_eq_some_iff.1 he
    obtain ⟨p2, h3, h4⟩ := Option.bind_eq_some_iff.1 hp
    exact unis_vars (uni_vars h h1 h3) h2 h4
  | [], c :: cs, _, e, p, e1, p1, _, he, _ => by cases he
  | [], [], d :: ds, e, p, e1, p1, _, _, hp => by cases hp
  | t :: ts, [], _, e, p, e1, p1, _, he, _ => by cases he
  | t :: ts, c :: cs, [], e, p, e1, p1, _, _, hp => by cases hp
theorem lit_vars {home : Tm} {l : Lt} {f g : F} {e p e1 p1 : Env} (h : e.map (·.1) = p.map (·.1)) (he : lit home l f e = some e1) (hp : lit home l g p = some p1) : e1.map (·.1) = p1.map (·.1) := by
  unfold lit at he hp
  split at he
  · split at hp
    · obtain ⟨e2, h1, he⟩ := Option.bind_eq_some_iff.1 he
      obtain ⟨e3, h2, h3⟩ := Option.bind_eq_some_iff.1 he
      obtain ⟨p2, i1, hp⟩ := Option.bind_eq_some_iff.1 hp
      obtain ⟨p3, i2, i3⟩ := Option.bind_eq_some_iff.1 hp
      have v2 := uni_vars h h1 i1
      refine unis_vars ?_ h3 i3
      unfold by1 at h2 i2
      split at h2
      · rename_i hn
        rw [if_pos hn] at i2
        split at h2
        · split at i2
          · cases h2; cases i2; exact v2
          · cases i2
        · cases h2
      · rename_i hn
        rw [if_neg hn] at i2
        exact uni_vars v2 h2 i2
    · cases hp
  · cases he
theorem uni_nodup {t : Tm} {c : K} {e e1 : Env} (hn : (e.map (·.1)).Nodup) (h : uni t c e = some e1) : (e1.map (·.1)).Nodup ∧ ∀ v ∈ e1.map (·.1), v ∈ e.map (·.1) ∨ v = t.v := by
  rw [uni_eq] at h
  cases hv : val t e with
  | none =>
    rw [hv] at h
    unfold uniM at h
    simp only at h
    split at h
    · cases h
    · rename_i hk
      simp only [Option.map_some, Option.some.injEq] at h
      subst h
      have hg : get t.v e = none := by
        unfold val at hv
        rw [if_neg hk] at hv
        split at hv
        · cases hv
        · exact hv
      have := get_none.1 hg
      constructor
      · rw [List.map_append, List.map_cons, List.map_nil, List.nodup_append]
        refine ⟨hn, by simp, fun a ha b hb => ?_⟩
        rw [List.mem_singleton] at hb
        subst hb
        exact fun he => this (by rw [← show a = t.v from he]; exact ha)
      · intro v hv
        rw [List.map_append, List.mem_append, List.map_cons, List.map_nil, List.mem_singleton] at hv
        exact hv
  | some v =>
    rw [hv] at h
    unfold uniM at h
    simp only at h
    split at h
    · simp only [Option.map_some, Option.some.injEq, List.append_nil] at h
      subst h; exact ⟨hn, fun v hv => .inl hv⟩
    · cases h
theorem unis_nodup : ∀ {ts : List Tm} {cs : List K} {e e1 : Env}, (e.map (·.1)).Nodup → unis ts cs e = some e1 → (e1.map (·.1)).Nodup ∧ ∀ v ∈ e1.map (·.1), v ∈ e.map (·.1) ∨ v ∈ ts.map (·.v)
  | [], [], e, e1, hn, h => by cases h; exact ⟨hn, fun v hv => .inl hv⟩
  | t :: ts, c :: cs, e, e1, hn, h => by
    rw [unis] at h
    obtain ⟨e2, h1, h2⟩ := Option.bind_eq_some_iff.1 h
    obtain ⟨n1, s1⟩ := uni_nodup hn h1
    obtain ⟨n2, s2⟩ := unis_nodup n1 h2
    refine ⟨n2, fun v hv => ?_⟩
    rcases s2 v hv with h | h
    · rcases s1 v h with h | h
      · exact .inl h
      · exact .inr (by rw [h]; simp)
    · exact .inr (List.mem_cons_of_mem _ h)
  | [], c :: cs, e, e1, _, h => by cases h
  | t :: ts, [], e, e1, _, h => by cases h
theorem lit_nodup {home : Tm} {l : Lt} {f : F} {e e1 : Env} (hn : (e.map (·.1)).Nodup) (h : lit home l f e = some e1) : (e1.map (·.1)).Nodup ∧ ∀ v ∈ e1.map (·.1), v ∈ e.map (·.1) ∨ v = home.v ∨ v ∈ lvars l := by
  unfold lit at h
  split at h
  · obtain ⟨e2, h1, h⟩ := Option.bind_eq_some_iff.1 h
    obtain ⟨e3, h2, h3⟩ := Option.bind_eq_some_iff.1 h
    obtain ⟨n1, s1⟩ := uni_nodup hn h1
    have : (e3.map (·.1)).Nodup ∧ ∀ v ∈ e3.map (·.1), v ∈ e2.map (·.1) ∨ v = l.by_.v := by
      unfold by1 at h2
      split at h2
      · split at h2
        · cases h2; exact ⟨n1, fun v hv => .inl hv⟩
        · cases h2
      · exact uni_nodup n1 h2
    obtain ⟨n2, s2⟩ := this
    obtain ⟨n3, s3⟩ := unis_nodup n2 h3
    refine ⟨n3, fun v hv => ?_⟩
    rcases s3 v hv with h | h
    · rcases s2 v h with h | h
      · rcases s1 v h with h | h
        · exact .inl h
        · have := place_in home l
          rw [← h, List.mem_cons] at this
          exact .inr this
      · exact .inr (.inr (by rw [h]; simp [lvars]))
    · exact .inr (.inr (by simp only [lvars, List.mem_cons]; exact .inr (.inr h)))
  · cases h

/-! with less bound no less is taken -/
def Sub (e p : Env) : Prop := ∀ v c, get v e = some c → get v p = some c
theorem Sub.val {e p : Env} (h : Sub e p) {t : Tm} {c : K} (hv : val t e = some c) : val t p = some c := by
  unfold Mt.val at *
  split at hv
  · cases hv
  · rename_i h1
    rw [if_neg h1]
    split at hv
    · rename_i h2; rw [if_pos h2]; exact hv
    · rename_i h2; rw [if_neg h2]; exact h _ _ hv
theorem Sub.ext {e p : Env} (h : Sub e p) (m : Env) : Sub e (p ++ m) := fun v c hv => by rw [get_app, h v c hv]; rfl
theorem uni_weak {t : Tm} {c : K} {e p p1 : Env} (h : Sub e p) (hp : uni t c p = some p1) : ∃ e1, uni t c e = some e1 ∧ Sub e1 p1 := by
  obtain ⟨hv, m, rfl⟩ := Mt.uni_val hp
  cases hve : val t e with
  | some v =>
    have h1 := Mt.uni_only (h.val hve) hp
    rw [h1.1] at hve
    exact ⟨e, Mt.uni_fix hve, h.ext m⟩
  | none =>
    have hnul : ¬ nul t = true := fun hn => by
      unfold Mt.val at hv; rw [if_pos hn] at hv; cases hv
    refine ⟨e ++ [(t.v, c)], by rw [uni_eq, hve]; unfold uniM; simp only; rw [if_neg hnul]; rfl, fun v c' hg => ?_⟩
    rw [get_app] at hg
    cases hge : get v e with
    | some c2 => rw [hge] at hg; cases hg; exact h.ext m v _ hge
    | none =>
      rw [hge, Option.none_or] at hg
      have := get_mem hg
      rw [List.mem_singleton] at this
      cases this
      unfold Mt.val at hv hve
      rw [if_neg hnul] at hv hve
      split at hve
      · cases hve
      · rename_i h2; rw [if_neg h2] at hv; exact hv
theorem unis_weak : ∀ {ts : List Tm} {cs : List K} {e p p1 : Env}, Sub e p → unis ts cs p = some p1 → ∃ e1, unis ts cs e = some e1 ∧ Sub e1 p1
  | [], [], e, p, p1, h, hp => by cases hp; exact ⟨e, rfl, h⟩
  | t :: ts, c :: cs, e, p, p1, h, hp => by
    rw [unis] at hp
    obtain ⟨p2, h1, h2⟩ := Option.bind_eq_some_iff.1 hp
    obtain ⟨e2, h3, h4⟩ := uni_weak h h1
    obtain ⟨e1, h5, h6⟩ := unis_weak h4 h2
    exact ⟨e1, by rw [unis, h3]; exact h5, h6⟩
  | [], c :: cs, e, p, p1, _, hp => by cases hp
  | t :: ts, [], e, p, p1, _, hp => by cases hp
theorem lit_weak {home : Tm} {l : Lt} {f : F} {e p p1 : Env} (h : Sub e p) (hp : lit home l f p = some p1) : ∃ e1, lit home l f e = some e1 ∧ Sub e1 p1 := by
  unfold lit at hp ⊢
  split at hp
  · rename_i hc
    rw [if_pos hc]
    obtain ⟨p2, h1, hp⟩ := Option.bind_eq_some_iff.1 hp
    obtain ⟨p3, h2, h3⟩ := Option.bind_eq_some_iff.1 hp
    obtain ⟨e2, i1, s1⟩ := uni_weak h h1
    have : ∃ e3, by1 l f e2 = some e3 ∧ Sub e3 p3 := by
      unfold by1 at h2 ⊢
      split at h2
      · rename_i hn
        rw [if_pos hn]
        split at h2
        · rename_i hb; rw [if_pos hb]; cases h2; exact ⟨e2, rfl, s1⟩
        · cases h2
      · rename_i hn
        rw [if_neg hn]
        exact uni_weak s1 h2
    obtain ⟨e3, i2, s2⟩ := this
    obtain ⟨e1, i3, s3⟩ := unis_weak s2 h3
    exact ⟨e1, by rw [i1]; simp only [Option.bind_some]; rw [i2]; exact i3, s3⟩
  · cases hp
end Ml
end Go.Proofs.YtpdmmmdkpipmkaaGreatDoor
