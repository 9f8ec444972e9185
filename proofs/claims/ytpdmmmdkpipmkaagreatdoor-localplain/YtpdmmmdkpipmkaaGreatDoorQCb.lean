/-
  The mathematics of layer 10: another name for a variable changes no answer. No program in this text.
-/
import Derived.Test.YtpdmmmdkpipmkaaGreatDoorQCc
namespace Go.Proofs.YtpdmmmdkpipmkaaGreatDoor
namespace Ck

def sg (f z v : Tx) : Tx := if v = f then z else v
def ren (f z : Tx) (t : Tm) : Tm := ⟨sg f z t.v, t.k⟩
def renL (f z : Tx) (y : Lt) : Lt := ⟨ren f z y.by_, y.pred, y.args.map (ren f z), ren f z y.at_⟩
def renR (f z : Tx) (r : Ru) : Ru := ⟨ren f z r.home, r.pred, r.args.map (ren f z), ren f z r.to_, r.body.map (renL f z)⟩
theorem sg_inj {f z u v : Tx} (hu : u ≠ z) (hv : v ≠ z) (h : sg f z u = sg f z v) : u = v := by
  unfold sg at h
  by_cases h1 : u = f <;> by_cases h2 : v = f
  · rw [h1, h2]
  · rw [if_pos h1, if_neg h2] at h; exact absurd h.symm hv
  · rw [if_neg h1, if_pos h2] at h; exact absurd h hu
  · rwa [if_neg h1, if_neg h2] at h
theorem sg_nil {f z v : Tx} (hf : f ≠ []) (hz : z ≠ []) : sg f z v = [] ↔ v = [] := by
  unfold sg
  by_cases h : v = f
  · rw [if_pos h, h]; exact ⟨fun e => absurd e hz, fun e => absurd e hf⟩
  · rw [if_neg h]
theorem sg_empty {f z v : Tx} (hf : f ≠ []) (hz : z ≠ []) : (sg f z v).isEmpty = v.isEmpty := by
  have := sg_nil (v := v) hf hz
  cases v with
  | nil => rw [this.2 rfl]
  | cons a b =>
    cases h : sg f z (a :: b) with
    | nil => exact absurd (this.1 h) (by simp)
    | cons _ _ => rfl
theorem mem_sg {f z v : Tx} {l : List Tx} (hv : v ≠ z) (hl : ∀ u ∈ l, u ≠ z) : sg f z v ∈ l.map (sg f z) ↔ v ∈ l := by
  refine ⟨fun h => ?_, fun h => List.mem_map_of_mem h⟩
  obtain ⟨u, hu, he⟩ := List.mem_map.1 h
  rw [← sg_inj (hl u hu) hv he]; exact hu
theorem wv_ren {f z : Tx} {l : List Tx} {t : Tm} (hf : f ≠ []) (hz : z ≠ []) (ht : t.v ≠ z) (hl : ∀ u ∈ l, u ≠ z) : wv (l.map (sg f z)) (ren f z t) = (wv l t).map (sg f z) := by
  unfold wv
  have h1 : (ren f z t).v = sg f z t.v := rfl
  rw [h1]
  by_cases h : t.v = [] ∨ t.v ∈ l
  · rw [if_pos h, if_pos (h.imp (fun e => (sg_nil hf hz).2 e) (fun e => (mem_sg ht hl).2 e))]
  · rw [if_neg h, if_neg (fun e => h (e.imp (fun e => (sg_nil hf hz).1 e) (fun e => (mem_sg ht hl).1 e)))]
    simp
theorem wv_in {l : List Tx} {t : Tm} {z : Tx} (ht : t.v ≠ z) (hl : ∀ u ∈ l, u ≠ z) : ∀ u ∈ wv l t, u ≠ z := fun u hu => by
  unfold wv at hu
  split at hu
  · exact hl u hu
  · rcases List.mem_append.1 hu with h | h
    · exact hl u h
    · rw [List.mem_singleton] at h; rw [h]; exact ht
theorem fold_ren {f z : Tx} (hf : f ≠ []) (hz : z ≠ []) : ∀ {ts : List Tm} {l : List Tx}, (∀ t ∈ ts, t.v ≠ z) → (∀ u ∈ l, u ≠ z) → (ts.map (ren f z)).foldl wv (l.map (sg f z)) = (ts.foldl wv l).map (sg f z) ∧ ∀ u ∈ ts.foldl wv l, u ≠ z
  | [], l, _, hl => ⟨rfl, hl⟩
  | t :: r, l, ht, hl => by
    have h1 := wv_ren hf hz (ht t (List.mem_cons_self ..)) hl
    have h2 := wv_in (ht t (List.mem_cons_self ..)) hl
    have ih := fold_ren hf hz (fun u hu => ht u (List.mem_cons_of_mem _ hu)) h2
    rw [List.map_cons, List.foldl_cons, List.foldl_cons, h1]
    exact ih
/-- no term of a literal, of a rule's home and body, is that variable -/
def NoL (z : Tx) (y : Lt) : Prop := y.by_.v ≠ z ∧ (∀ t ∈ y.args, t.v ≠ z) ∧ y.at_.v ≠ z
structure No (z : Tx) (r : Ru) : Prop where
  home : r.home.v ≠ z
  body : ∀ y ∈ r.body, NoL z y
theorem wl_ren {f z : Tx} (hf : f ≠ []) (hz : z ≠ []) {l : List Tx} {y : Lt} (hy : NoL z y) (hl : ∀ u ∈ l, u ≠ z) : wl (l.map (sg f z)) (renL f z y) = (wl l y).map (sg f z) ∧ ∀ u ∈ wl l y, u ≠ z := by
  have h1 := wv_ren hf hz hy.1 hl
  have h2 := wv_in hy.1 hl
  have h3 := fold_ren hf hz hy.2.1 h2
  have h4 := wv_ren hf hz hy.2.2 h3.2
  refine ⟨?_, wv_in hy.2.2 h3.2⟩
  show wv ((y.args.map (ren f z)).foldl wv (wv (l.map (sg f z)) (ren f z y.by_))) (ren f z y.at_) = _
  rw [h1, h3.1, h4]; rfl
theorem folds_ren {f z : Tx} (hf : f ≠ []) (hz : z ≠ []) : ∀ {ys : List Lt} {l : List Tx}, (∀ y ∈ ys, NoL z y) → (∀ u ∈ l, u ≠ z) → (ys.map (renL f z)).foldl wl (l.map (sg f z)) = (ys.foldl wl l).map (sg f z) ∧ ∀ u ∈ ys.foldl wl l, u ≠ z
  | [], l, _, hl => ⟨rfl, hl⟩
  | y :: r, l, hy, hl => by
    have h1 := wl_ren hf hz (hy y (List.mem_cons_self ..)) hl
    have ih := folds_ren hf hz (fun u hu => hy u (List.mem_cons_of_mem _ hu)) h1.2
    rw [List.map_cons, List.foldl_cons, List.foldl_cons, h1.1]
    exact ih
theorem bnd_ren {f z : Tx} (hf : f ≠ []) (hz : z ≠ []) {r : Ru} (hr : No z r) (k : Nat) : bnd (renR f z r) k = (bnd r k).map (sg f z) ∧ ∀ u ∈ bnd r k, u ≠ z := by
  have h1 : wv [] (ren f z r.home) = (wv [] r.home).map (sg f z) := by
    have := wv_ren (l := []) hf hz hr.home (fun u hu => by simp at hu)
    simpa using this
  have h2 := wv_in (l := []) hr.home (fun u hu => by simp at hu)
  have h3 := folds_ren hf hz (ys := r.body.take k) (fun y hy => hr.body y (List.mem_of_mem_take hy)) h2
  refine ⟨?_, h3.2⟩
  show ((r.body.map (renL f z)).take k).foldl wl (wv [] (ren f z r.home)) = _
  rw [h1, ← List.map_take, h3.1]; rfl

/-! a variable that is none of the rule's stands nowhere in home and body -/
theorem wv_mem (l : List Tx) (t : Tm) : t.v = [] ∨ t.v ∈ wv l t := by
  unfold wv
  split
  · assumption
  · right; simp
theorem fold_mem : ∀ {ts : List Tm} {l : List Tx} {t : Tm}, t ∈ ts → t.v = [] ∨ t.v ∈ ts.foldl wv l
  | u :: r, l, t, h => by
    rcases List.mem_cons.1 h with rfl | h
    · obtain ⟨m, hm⟩ := fold_pre r (wv l t)
      rw [List.foldl_cons, hm]
      exact (wv_mem l t).imp id fun h => List.mem_append_left _ h
    · exact (show t.v = [] ∨ t.v ∈ r.foldl wv (wv l u) from fold_mem h)
theorem wl_mem (l : List Tx) (y : Lt) : (y.by_.v = [] ∨ y.by_.v ∈ wl l y) ∧ (∀ t ∈ y.args, t.v = [] ∨ t.v ∈ wl l y) ∧ (y.at_.v = [] ∨ y.at_.v ∈ wl l y) := by
  obtain ⟨b, hb⟩ := fold_pre y.args (wv l y.by_)
  obtain ⟨c, hc⟩ := wv_pre (y.args.foldl wv (wv l y.by_)) y.at_
  have e : wl l y = y.args.foldl wv (wv l y.by_) ++ c := hc
  refine ⟨(wv_mem l y.by_).imp id fun h => ?_, fun t ht => (fold_mem (l := wv l y.by_) ht).imp id fun h => ?_, wv_mem _ _⟩
  · rw [e, hb]; exact List.mem_append_left _ (List.mem_append_left _ h)
  · rw [e]; exact List.mem_append_left _ h
theorem folds_pre : ∀ (ys : List Lt) (l : List Tx), ∃ m, ys.foldl wl l = l ++ m
  | [], l => ⟨[], by simp⟩
  | y :: r, l => by
    obtain ⟨m, hm⟩ := wl_pre l y
    obtain ⟨n, hn⟩ := folds_pre r (wl l y)
    exact ⟨m ++ n, by rw [List.foldl_cons, hn, hm, List.append_assoc]⟩
theorem folds_mem : ∀ {ys : List Lt} {l : List Tx} {y : Lt} {v : Tx}, y ∈ ys → (∀ l, v ∈ wl l y) → v ∈ ys.foldl wl l
  | u :: r, l, y, v, h, hv => by
    rcases List.mem_cons.1 h with rfl | h
    · obtain ⟨m, hm⟩ := folds_pre r (wl l y)
      rw [List.foldl_cons, hm]
      exact List.mem_append_left _ (hv l)
    · exact (show v ∈ r.foldl wl (wl l u) from folds_mem h hv)
theorem no_of {z : Tx} (hz : z ≠ []) {r : Ru} (h : z ∉ vars r) : No z r := by
  have e : vars r = r.body.foldl wl (wv [] r.home) := by unfold vars bnd; rw [List.take_of_length_le (Nat.le_refl _)]
  rw [e] at h
  refine ⟨fun he => ?_, fun y hy => ⟨fun he => ?_, fun t ht he => ?_, fun he => ?_⟩⟩
  · obtain ⟨m, hm⟩ := folds_pre r.body (wv [] r.home)
    apply h
    rw [hm]
    refine List.mem_append_left _ ?_
    rcases wv_mem [] r.home with h1 | h1
    · exact absurd (he.symm.trans h1) hz
    · rw [he] at h1; exact h1
  · exact h (folds_mem hy fun l => by
      rcases (wl_mem l y).1 with h1 | h1
      · exact absurd (he.symm.trans h1) hz
      · rw [he] at h1; exact h1)
  · exact h (folds_mem hy fun l => by
      rcases (wl_mem l y).2.1 t ht with h1 | h1
      · exact absurd (he.symm.trans h1) hz
      · rw [he] at h1; exact h1)
  · exact h (folds_mem hy fun l => by
      rcases (wl_mem l y).2.2 with h1 | h1
      · exact absurd (he.symm.trans h1) hz
      · rw [he] at h1; exact h1)

/-! what is looked at -/
theorem num_ren {f z : Tx} (hf : f ≠ []) (hz : z ≠ []) (t : Tm) : num (ren f z t) = num t := by
  unfold num ren; rw [sg_empty hf hz]
theorem first_map {g : Lt → Lt} {p q : Nat → Lt → Bool} : ∀ {i : Nat} {l : List Lt}, (∀ k (h : k < l.length), p (i + k) (g l[k]) = q (i + k) l[k]) → first p i (l.map g) = first q i l
  | i, [], _ => rfl
  | i, y :: r, h => by
    have h0 := h 0 (by simp)
    simp only [Nat.add_zero, List.getElem_cons_zero] at h0
    rw [List.map_cons, first, first, h0]
    split
    · rfl
    · refine first_map fun k hk => ?_
      have := h (k + 1) (by simpa using hk)
      rw [show i + (k + 1) = i + 1 + k by omega] at this
      simpa using this
theorem places_ren {f z : Tx} (hf : f ≠ []) (hz : z ≠ []) (r : Ru) : places (renR f z r) = places r := by
  unfold places
  show (if (num (ren f z r.home) || num (ren f z r.to_)) = true then _ else first _ 0 (r.body.map (renL f z))) = _
  rw [num_ren hf hz, num_ren hf hz, first_map (q := fun _ y => num y.by_ || num y.at_)]
  intro k hk
  show (num (ren f z _) || num (ren f z _)) = _
  rw [num_ren hf hz, num_ren hf hz]
theorem aritL_ren (f z : Tx) : ∀ (s : Seen) (i : Nat) (l : List Lt), aritL s i (l.map (renL f z)) = aritL s i l
  | s, i, [] => rfl
  | s, i, y :: r => by
    have h1 : (renL f z y).pred = y.pred := rfl
    have h2 : (renL f z y).args.length = y.args.length := List.length_map ..
    rw [List.map_cons, aritL, aritL, h1, h2, aritL_ren f z]
theorem arit_ren (f z : Tx) (s : Seen) (r : Ru) : arit s (renR f z r) = arit s r := by
  have h1 : (renR f z r).pred = r.pred := rfl
  have h2 : (renR f z r).args.length = r.args.length := List.length_map ..
  have h3 : (renR f z r).body = r.body.map (renL f z) := rfl
  unfold arit
  rw [h1, h2, h3, aritL_ren]
theorem contains_ren {f z v : Tx} {l : List Tx} (hv : v ≠ z) (hl : ∀ u ∈ l, u ≠ z) : (l.map (sg f z)).contains (sg f z v) = l.contains v := by
  refine Sh.bool_eq (fun h => ?_) (fun h => ?_)
  · rw [List.contains_iff_mem] at *; exact (mem_sg hv hl).1 h
  · rw [List.contains_iff_mem] at *; exact (mem_sg hv hl).2 h
theorem free_ren {f z : Tx} (hf : f ≠ []) (hz : z ≠ []) {r : Ru} (hr : No z r) : free (renR f z r) = free r := by
  unfold free
  refine first_map fun k hk => ?_
  have hb := bnd_ren hf hz hr (0 + k)
  unfold isFree
  show (!(sg f z _).isEmpty && !(bnd (renR f z r) (0 + k)).contains (sg f z _)) = _
  rw [sg_empty hf hz, hb.1, contains_ren (hr.body _ (List.getElem_mem hk)).2.2 hb.2]
theorem outV_ren {f z : Tx} (hf : f ≠ []) (hz : z ≠ []) {l : List Tx} (hl : ∀ u ∈ l, u ≠ z) {t : Tm} (ht : t.v ≠ z) : outV (l.map (sg f z)) (ren f z t) = outV l t := by
  unfold outV
  show (!(sg f z t.v).isEmpty && !(l.map (sg f z)).contains (sg f z t.v)) = _
  rw [sg_empty hf hz, contains_ren ht hl]
theorem opn_ren {f z : Tx} (hf : f ≠ []) (hz : z ≠ []) {r : Ru} (hr : No z r) (ha : ∀ t ∈ r.args, t.v ≠ z) (ht : r.to_.v ≠ z) : opn (renR f z r) = opn r := by
  have hl : (renR f z r).body.length = r.body.length := List.length_map ..
  have hb := bnd_ren hf hz hr r.body.length
  have hv : vars (renR f z r) = (vars r).map (sg f z) := by unfold vars; rw [hl]; exact hb.1
  have hb2 : ∀ u ∈ vars r, u ≠ z := hb.2
  unfold opn
  rw [hv]
  show (outV ((vars r).map (sg f z)) (ren f z r.to_) || (r.args.map (ren f z)).any _) = _
  rw [outV_ren hf hz hb2 ht, List.any_map]
  congr 1
  refine Sh.bool_eq (fun h => ?_) (fun h => ?_)
  · obtain ⟨t, h1, h2⟩ := List.any_eq_true.1 h
    refine List.any_eq_true.2 ⟨t, h1, ?_⟩
    rw [← outV_ren (f := f) hf hz hb2 (ha t h1)]; exact h2
  · obtain ⟨t, h1, h2⟩ := List.any_eq_true.1 h
    refine List.any_eq_true.2 ⟨t, h1, ?_⟩
    show outV _ (ren f z t) = true
    rw [outV_ren (f := f) hf hz hb2 (ha t h1)]; exact h2
/-! what can be shown can be shown -/
theorem canT_ren {f z : Tx} (hf : f ≠ []) (hz : Sh.namedB Lx.great z = true) {t : Tm} (h : Sh.canT t = true) : Sh.canT (ren f z t) = true := by
  have hz0 : z ≠ [] := fun e => by rw [e] at hz; simp [Sh.namedB] at hz
  by_cases hv : t.v = f
  · rw [Sh.canT_eq, if_pos (by rw [hv]; exact hf)] at h
    rw [Sh.canT_eq]
    have : (ren f z t).v = z := by show sg f z t.v = z; unfold sg; rw [if_pos hv]
    rw [this, if_pos hz0, Sh.tok_var, hz]
    simp only [Bool.and_eq_true] at h ⊢
    exact ⟨h.1, trivial⟩
  · have : ren f z t = t := by
      obtain ⟨v, k⟩ := t
      show Tm.mk (sg f z v) k = _
      unfold sg; rw [if_neg hv]
    rw [this]; exact h
theorem noneT_ren {f z : Tx} (hf : f ≠ []) (hz : z ≠ []) (t : Tm) : Sh.noneT (ren f z t) = Sh.noneT t := by
  unfold Sh.noneT ren; rw [sg_empty hf hz]
theorem canM_ren {f z : Tx} (hf : f ≠ []) (hz : Sh.namedB Lx.great z = true) {t : Tm} (h : Sh.canM t = true) : Sh.canM (ren f z t) = true := by
  have hz0 : z ≠ [] := fun e => by rw [e] at hz; simp [Sh.namedB] at hz
  unfold Sh.canM at *
  rw [noneT_ren hf hz0]
  rw [Bool.or_eq_true] at *
  exact h.imp id (canT_ren hf hz)
theorem canA_ren {f z : Tx} (hf : f ≠ []) (hz : Sh.namedB Lx.great z = true) {p : Tx} {ts : List Tm} (h : Sh.canA p ts = true) : Sh.canA p (ts.map (ren f z)) = true := by
  unfold Sh.canA at *
  rw [List.length_map, List.all_map]
  simp only [Bool.and_eq_true, List.all_eq_true] at *
  exact ⟨h.1, fun t ht => canT_ren hf hz (h.2 t ht)⟩
theorem canL_ren {f z : Tx} (hf : f ≠ []) (hz : Sh.namedB Lx.great z = true) {y : Lt} (h : Sh.canL y = true) : Sh.canL (renL f z y) = true := by
  unfold Sh.canL at *
  simp only [Bool.and_eq_true] at *
  exact ⟨⟨canM_ren hf hz h.1.1, canA_ren hf hz h.1.2⟩, canM_ren hf hz h.2⟩
theorem shape_ren {f z : Tx} (hf : f ≠ []) (hz : Sh.namedB Lx.great z = true) {r : Ru} (h : (Sh.ruleS r).isSome = true) : (Sh.ruleS (renR f z r)).isSome = true := by
  rw [Sh.rule_some] at *
  unfold Sh.canR at *
  have hl : (renR f z r).body.length = r.body.length := List.length_map ..
  rw [hl]
  simp only [Bool.and_eq_true, List.all_eq_true] at *
  obtain ⟨⟨⟨⟨⟨h1, h2⟩, h3⟩, h4⟩, h5⟩, h6⟩ := h
  refine ⟨⟨⟨⟨⟨canT_ren hf hz h1, canA_ren hf hz h2⟩, canM_ren hf hz h3⟩, h4⟩, h5⟩, fun y hy => ?_⟩
  obtain ⟨y', hy', rfl⟩ := List.mem_map.1 hy
  exact canL_ren hf hz (h6 y' hy')
theorem one_ren {f z : Tx} (hf : f ≠ []) (hz : Sh.namedB Lx.great z = true) {r : Ru} (hr : No z r) (ha : ∀ t ∈ r.args, t.v ≠ z) (ht : r.to_.v ≠ z) (hs : (Sh.ruleS r).isSome = true) (s : Seen) : one s (renR f z r) = one s r := by
  have hz0 : z ≠ [] := fun e => by rw [e] at hz; simp [Sh.namedB] at hz
  unfold one
  rw [shape_ren hf hz hs, hs, places_ren hf hz0, arit_ren, free_ren hf hz0 hr, opn_ren hf hz0 hr ha ht]
theorem one_shape {s : Seen} {r : Ru} (h : (Sh.ruleS r).isSome = false) : one s r = .error (100, -1) := by
  unfold one; rw [if_pos h]
theorem go_ren {r' : Ru} : ∀ {l : List Ru} {i j : Nat} {s : Seen} (hi : i < l.length), (∀ s, (Sh.ruleS l[i]).isSome = true → one s r' = one s l[i]) → (go j s l).1 ≠ 100 → go j s (l.set i r') = go j s l
  | r :: l, 0, j, s, hi, h, hn => by
    rw [List.set_cons_zero, go, go]
    cases hs : (Sh.ruleS r).isSome with
    | true => rw [h s hs]; rfl
    | false => rw [go, one_shape hs] at hn; exact absurd rfl hn
  | r :: l, i + 1, j, s, hi, h, hn => by
    rw [List.set_cons_succ, go, go]
    cases ho : one s r with
    | error x => rfl
    | ok s' =>
      simp only
      rw [go, ho] at hn
      exact go_ren (by simpa using hi) (fun s hs => h s hs) hn
/-- P10.4: another name for a variable, that the rule does not have, changes no answer -/
theorem prog_ren {f z : Tx} (hf : f ≠ []) (hz : Sh.namedB Lx.great z = true) {l : List Ru} {i : Nat} (hi : i < l.length) (hv : z ∉ vars l[i]) (ha : ∀ t ∈ l[i].args, t.v ≠ z) (ht : l[i].to_.v ≠ z) (hn : (prog l).1 ≠ 100) : prog (l.set i (renR f z l[i])) = prog l := by
  have hz0 : z ≠ [] := fun e => by rw [e] at hz; simp [Sh.namedB] at hz
  unfold prog at *
  rw [List.length_set]
  split
  · rfl
  · rename_i h16
    rw [if_neg h16] at hn
    exact go_ren hi (fun s hs => one_ren hf hz (no_of hz0 hv) ha ht hs s) hn
end Ck
end Go.Proofs.YtpdmmmdkpipmkaaGreatDoor
