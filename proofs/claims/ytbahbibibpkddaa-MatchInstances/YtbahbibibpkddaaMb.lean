/-
  The mathematics of layer 11: a rule's instances follow. No program in this text.
-/
import Derived.Test.YtbahbibibpkddaaMa
namespace Go.Proofs.Ytbahbibibpkddaa
namespace Mt

/-- bindings that say nothing else than others do -/
def Sub (e d : Env) : Prop := ∀ v c, get v e = some c → get v d = some c
theorem Sub.nil (d : Env) : Sub [] d := fun v c h => by simp [get] at h
theorem get_app {v u : Tx} {e : Env} {c k : K} (h : get v (e ++ [(u, k)]) = some c) : get v e = some c ∨ (v = u ∧ c = k) := by
  unfold get at *
  rw [List.find?_append] at h
  cases hx : e.find? (fun b => b.1 == v) with
  | some b => rw [hx] at h; exact .inl h
  | none =>
    rw [hx] at h
    by_cases hu : u = v
    · subst hu
      simp at h
      exact .inr ⟨rfl, h.symm⟩
    · have hb : (u == v) = false := by simpa using hu
      simp [hb] at h
theorem val_sub {t : Tm} {e d : Env} {c : K} (hs : Sub e d) (h : val t e = some c) : val t d = some c := by
  unfold val at *
  split at h
  · cases h
  · rename_i h1
    rw [if_neg h1]
    split at h
    · rename_i h2; rw [if_pos h2]; exact h
    · rename_i h2; rw [if_neg h2]; exact hs _ _ h
/-- a term that has a value: it is made that one, and the bindings say nothing else -/
theorem uni_sub {t : Tm} {e d : Env} {c : K} (hs : Sub e d) (h : val t d = some c) : ∃ e', uni t c e = some e' ∧ Sub e' d := by
  cases hv : val t e with
  | some v =>
    have := val_sub hs hv
    rw [h] at this
    cases this
    exact ⟨e, uni_fix hv, hs⟩
  | none =>
    have hn : nul t = false := by
      unfold val at h
      split at h
      · cases h
      · rename_i h1; simpa using h1
    have hg : get t.v d = some c := by
      unfold val at h hv
      rw [if_neg (by rw [hn]; decide)] at h hv
      split at h
      · rename_i h2; rw [if_pos h2] at hv; cases hv
      · exact h
    refine ⟨e ++ [(t.v, c)], ?_, fun v k hk => ?_⟩
    · unfold uni; rw [hv]; simp only; rw [if_neg (by rw [hn]; decide)]
    · rcases get_app hk with h1 | ⟨rfl, rfl⟩
      · exact hs _ _ h1
      · exact hg
theorem name_val {t : Tm} {e : Env} {a : Tx} (h : name t e = some a) : val t e = some (nm a) := by
  unfold name at h
  obtain ⟨c, h1, h2⟩ := Option.bind_eq_some_iff.1 h
  split at h2
  · rename_i hk
    cases h2
    rw [h1, ← (eqK_iff _ _).1 hk]
  · cases h2
theorem val_name {t : Tm} {e : Env} {a : Tx} (h : val t e = some (nm a)) : name t e = some a := by
  unfold name
  rw [h]
  simp only [Option.bind_some]
  exact if_pos (eqK_self _)
theorem vals_val {e : Env} : ∀ {ts : List Tm} {ks : List K}, vals e ts = some ks → ts.length = ks.length ∧ ∀ i (h1 : i < ts.length) (h2 : i < ks.length), val ts[i] e = some ks[i]
  | [], ks, h => by cases h; exact ⟨rfl, fun i h => by simp at h⟩
  | t :: ts, ks, h => by
    rw [vals] at h
    obtain ⟨c, h1, h2⟩ := Option.bind_eq_some_iff.1 h
    obtain ⟨cs, h3, rfl⟩ := Option.map_eq_some_iff.1 h2
    obtain ⟨hl, hi⟩ := vals_val h3
    refine ⟨by simp [hl], fun i q1 q2 => ?_⟩
    match i with
    | 0 => exact h1
    | i + 1 => exact hi i (by simpa using q1) (by simpa using q2)
theorem val_vals {e : Env} : ∀ {ts : List Tm} {ks : List K}, ts.length = ks.length → (∀ i (h1 : i < ts.length) (h2 : i < ks.length), val ts[i] e = some ks[i]) → vals e ts = some ks
  | [], [], _, _ => rfl
  | t :: ts, c :: cs, hl, h => by
    have h0 : val t e = some c := h 0 (by simp) (by simp)
    rw [vals, h0]
    simp only [Option.bind_some]
    rw [val_vals (by simpa using hl) fun i q1 q2 => h (i + 1) (by simpa using q1) (by simpa using q2)]
    rfl
  | [], c :: cs, hl, _ => by simp at hl
  | t :: ts, [], hl, _ => by simp at hl
theorem unis_sub {d : Env} : ∀ {ts : List Tm} {cs : List K} {e : Env}, Sub e d → ts.length = cs.length → (∀ i (h1 : i < ts.length) (h2 : i < cs.length), val ts[i] d = some cs[i]) → ∃ e', unis ts cs e = some e' ∧ Sub e' d
  | [], [], e, hs, _, _ => ⟨e, rfl, hs⟩
  | t :: ts, c :: cs, e, hs, hl, h => by
    have h0 : val t d = some c := h 0 (by simp) (by simp)
    obtain ⟨e1, h1, hs1⟩ := uni_sub hs h0
    obtain ⟨e2, h2, hs2⟩ := unis_sub hs1 (by simpa using hl) fun i q1 q2 => h (i + 1) (by simpa using q1) (by simpa using q2)
    exact ⟨e2, by rw [unis, h1]; exact h2, hs2⟩
  | [], c :: cs, e, _, hl, _ => by simp at hl
  | t :: ts, [], e, _, hl, _ => by simp at hl
theorem fact_parts {a b : Tm} {p : Tx} {ts : List Tm} {e : Env} {f : F} (h : fact a b p ts e = some f) : val a e = some (nm f.at_) ∧ val b e = some (nm f.by_) ∧ f.pred = p ∧ vals e ts = some f.ks := by
  unfold fact at h
  obtain ⟨x, h1, h⟩ := Option.bind_eq_some_iff.1 h
  obtain ⟨y, h2, h⟩ := Option.bind_eq_some_iff.1 h
  obtain ⟨ks, h3, rfl⟩ := Option.map_eq_some_iff.1 h
  exact ⟨name_val h1, name_val h2, rfl, h3⟩
theorem parts_fact {a b : Tm} {p : Tx} {ts : List Tm} {e : Env} {f : F} (h1 : val a e = some (nm f.at_)) (h2 : val b e = some (nm f.by_)) (h3 : f.pred = p) (h4 : vals e ts = some f.ks) : fact a b p ts e = some f := by
  unfold fact
  rw [val_name h1, val_name h2, h4]
  subst h3
  rfl
/-- a literal's own fact matches it -/
theorem lit_sub {home : Tm} {l : Lt} {f : F} {e d : Env} (hs : Sub e d) (h : bodyF home l d = some f) : ∃ e', lit home l f e = some e' ∧ Sub e' d := by
  obtain ⟨h1, h2, h3, h4⟩ := fact_parts h
  obtain ⟨hl, hi⟩ := vals_val h4
  obtain ⟨e1, u1, s1⟩ := uni_sub hs h1
  have hb : ∃ e2, by1 l f e1 = some e2 ∧ Sub e2 d := by
    unfold by1
    by_cases hn : nul l.by_ = true
    · rw [if_pos hn]
      unfold place at h2
      rw [if_pos hn] at h2
      rw [show (if nul l.at_ = true then home else l.at_) = place home l.at_ from rfl, h1] at h2
      have := nm_inj (Option.some.inj h2)
      exact ⟨e1, by rw [if_pos this.symm], s1⟩
    · rw [if_neg hn]
      unfold place at h2
      rw [if_neg hn] at h2
      exact uni_sub s1 h2
  obtain ⟨e2, u2, s2⟩ := hb
  obtain ⟨e3, u3, s3⟩ := unis_sub s2 hl hi
  refine ⟨e3, ?_, s3⟩
  unfold lit
  rw [if_pos ⟨h3.symm, hl⟩, u1]
  simp only [Option.bind_some]
  rw [u2]
  simp only [Option.bind_some]
  exact u3
theorem body_len {home : Tm} {d : Env} : ∀ {ls : List Lt} {fs : List F}, body home d ls = some fs → ls.length = fs.length
  | [], fs, h => by cases h; rfl
  | l :: ls, fs, h => by
    rw [body] at h
    obtain ⟨f, h1, h2⟩ := Option.bind_eq_some_iff.1 h
    obtain ⟨gs, h3, rfl⟩ := Option.map_eq_some_iff.1 h2
    simp [body_len h3]
/-- a body's own facts match its literals; all that is in it is bound -/
theorem lits_sub {home : Tm} {d : Env} : ∀ {ls : List Lt} {fs : List F} {e : Env}, Sub e d → body home d ls = some fs → ∃ e', lits home ls fs e = some e' ∧ Sub e' d ∧ (∃ m, e' = e ++ m) ∧ ∀ l ∈ ls, ∃ f, Has home l f e'
  | [], fs, e, hs, h => by cases h; exact ⟨e, rfl, hs, ⟨[], by simp⟩, fun l hl => by simp at hl⟩
  | l :: ls, fs, e, hs, h => by
    rw [body] at h
    obtain ⟨f, h1, h2⟩ := Option.bind_eq_some_iff.1 h
    obtain ⟨gs, h3, rfl⟩ := Option.map_eq_some_iff.1 h2
    obtain ⟨e1, u1, s1⟩ := lit_sub hs h1
    obtain ⟨⟨m1, rfl⟩, hh⟩ := lit_has u1
    obtain ⟨e2, u2, s2, ⟨m2, rfl⟩, hall⟩ := lits_sub s1 h3
    refine ⟨_, by rw [lits, u1]; exact u2, s2, ⟨m1 ++ m2, by simp⟩, fun y hy => ?_⟩
    rcases List.mem_cons.1 hy with rfl | hy
    · refine ⟨f, hh.pred, hh.len, val_ext hh.at_ m2, ?_, fun i q1 q2 => val_ext (hh.args i q1 q2) m2⟩
      have hb := hh.by_
      split
      · rename_i hn; rw [if_pos hn] at hb; exact hb
      · rename_i hn; rw [if_neg hn] at hb; exact val_ext hb m2
    · exact hall y hy
/-- a variable is one of a rule's: of its home, or of a literal's -/
def Of (r : Ru) (v : Tx) : Prop := v = r.home.v ∨ ∃ y ∈ r.body, v = y.by_.v ∨ (∃ t ∈ y.args, v = t.v) ∨ v = y.at_.v
theorem val_get {t : Tm} {e : Env} {c : K} (hv : t.v ≠ []) (h : val t e = some c) : get t.v e = some c := by
  unfold val at h
  split at h
  · cases h
  · exact h
theorem nul_v {t : Tm} (h : t.v ≠ []) : nul t = false := by
  unfold nul
  cases ht : t.v with
  | nil => exact absurd ht h
  | cons a b => rfl
/-- THE STAGE'S THEOREM: where a rule's head and body have values, the head follows from the body -/
theorem instances {r : Ru} {d : Env} {h : F} {b : List F} (hh : head r d = some h) (hb : body r.home d r.body = some b) (ho : ∀ t, (t ∈ r.args ∨ t = r.to_) → t.v ≠ [] → Of r t.v) : Fol r h b := by
  obtain ⟨h1, h2, h3, h4⟩ := fact_parts hh
  obtain ⟨e1, u1, s1⟩ := uni_sub (Sub.nil d) h2
  have v1 := (uni_val u1).1
  obtain ⟨e2, u2, s2, ⟨m, rfl⟩, hall⟩ := lits_sub s1 hb
  refine ⟨e1, _, u1, u2, ?_⟩
  have hbound : ∀ v, v ≠ [] → Of r v → ∃ c, get v (e1 ++ m) = some c := fun v hv hof => by
    rcases hof with rfl | ⟨y, hy, hof⟩
    · exact ⟨_, get_ext (val_get hv v1) m⟩
    · obtain ⟨f, hf⟩ := hall y hy
      rcases hof with rfl | ⟨t, ht, rfl⟩ | rfl
      · have := hf.by_
        rw [if_neg (by rw [nul_v hv]; decide)] at this
        exact ⟨_, val_get hv this⟩
      · obtain ⟨i, hi, rfl⟩ := List.getElem_of_mem ht
        have hi2 : i < f.ks.length := by have := hf.len; omega
        exact ⟨_, val_get hv (hf.args i hi hi2)⟩
      · have := hf.at_
        unfold place at this
        rw [if_neg (by rw [nul_v hv]; decide)] at this
        exact ⟨_, val_get hv this⟩
  have hval : ∀ t c, (t.v ≠ [] → Of r t.v) → val t d = some c → val t (e1 ++ m) = some c := fun t c hof hc => by
    by_cases hv : t.v = []
    · unfold val at hc ⊢
      split at hc
      · cases hc
      · rename_i hn
        rw [if_neg hn, if_pos hv] at *
        exact hc
    · obtain ⟨k, hk⟩ := hbound _ hv (hof hv)
      have h5 := s2 _ _ hk
      rw [val_get hv hc] at h5
      cases h5
      unfold val
      rw [if_neg (by rw [nul_v hv]; decide), if_neg hv]
      exact hk
  obtain ⟨hl, hi⟩ := vals_val h4
  refine parts_fact ?_ (val_ext v1 m) h3 (val_vals hl fun i q1 q2 => hval _ _ (ho _ (.inl (List.getElem_mem q1))) (hi i q1 q2))
  unfold place at h1 ⊢
  split
  · rename_i hn
    rw [if_pos hn] at h1
    exact hval _ _ (fun _ => .inl rfl) h1
  · rename_i hn
    rw [if_neg hn] at h1
    exact hval _ _ (ho _ (.inr rfl)) h1
/-- with another predicate in place of one it does not follow -/
theorem lits_pred {home : Tm} : ∀ {ls : List Lt} {fs : List F} {e e' : Env}, lits home ls fs e = some e' → ls.length = fs.length ∧ ∀ i (h1 : i < ls.length) (h2 : i < fs.length), ls[i].pred = fs[i].pred
  | [], [], e, e', _ => ⟨rfl, fun i h => by simp at h⟩
  | l :: ls, f :: fs, e, e', h => by
    rw [lits] at h
    obtain ⟨e1, h1, h2⟩ := Option.bind_eq_some_iff.1 h
    obtain ⟨hl, hi⟩ := lits_pred h2
    refine ⟨by simp [hl], fun i q1 q2 => ?_⟩
    match i with
    | 0 => exact (lit_has h1).2.pred
    | i + 1 => exact hi i (by simpa using q1) (by simpa using q2)
  | [], f :: fs, e, e', h => by cases h
  | l :: ls, [], e, e', h => by cases h
theorem body_pred {home : Tm} {d : Env} : ∀ {ls : List Lt} {fs : List F}, body home d ls = some fs → ∀ i (h1 : i < ls.length) (h2 : i < fs.length), ls[i].pred = fs[i].pred
  | [], fs, h => fun i h1 => by simp at h1
  | l :: ls, fs, h => by
    rw [body] at h
    obtain ⟨f, h1, h2⟩ := Option.bind_eq_some_iff.1 h
    obtain ⟨gs, h3, rfl⟩ := Option.map_eq_some_iff.1 h2
    intro i q1 q2
    match i with
    | 0 => exact (fact_parts h1).2.2.1.symm
    | i + 1 => exact body_pred h3 i (by simpa using q1) (by simpa using q2)
theorem not_fol_pred {r : Ru} {d : Env} {h : F} {b b' : List F} {k : Nat} (hb : body r.home d r.body = some b) (hk : k < b.length) (hl : b'.length = b.length) (hp : (b'[k]'(by omega)).pred ≠ b[k].pred) : ¬ Fol r h b' := fun ⟨_, _, _, h2, _⟩ => by
  obtain ⟨h3, h4⟩ := lits_pred h2
  have h5 := body_len hb
  have h6 := h4 k (by omega) (by omega)
  have h7 := body_pred hb k (by omega) hk
  exact hp (h6.symm.trans h7)
theorem not_fol_len {r : Ru} {h : F} {b' : List F} (hl : b'.length ≠ r.body.length) : ¬ Fol r h b' := fun ⟨_, _, _, h2, _⟩ => hl (lits_pred h2).1.symm
end Mt
end Go.Proofs.Ytbahbibibpkddaa
