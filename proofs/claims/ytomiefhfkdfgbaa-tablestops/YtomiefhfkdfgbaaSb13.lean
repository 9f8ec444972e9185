/-
  A region that draws its order, several of whose operations make memory: each is walked once, whatever came ahead of it.
-/
import Derived.Test.YtomiefhfkdfgbaaBase
import Derived.Deep.RegionHeld3
import Derived.Great.Frames
namespace Go.Proofs.Ytomiefhfkdfgbaa
namespace Sb
variable {P : Program} {ops : Array Oper} {Q : Exit → Act → World → Prop} {md : Region.Mode} {S : World → Prop}

abbrev St := Nat → Option Value
def upd (f : St) (i : Nat) (v : Value) : St := fun j => if j = i then some v else f j
theorem upd_same (f : St) (i : Nat) (v : Value) : upd f i v i = some v := if_pos rfl
theorem upd_ne {f : St} {i j : Nat} {v : Value} (h : j ≠ i) : upd f i v j = f j := if_neg h
def stepA (d : Nat → Tmp) (f : St) (a : Act) (i : Nat) : Act := match f i with
  | none => a
  | some v => a.put (some (d i)) v
def mk (d : Nat → Tmp) (f : St) (L : List Nat) (a : Act) : Act := L.foldl (stepA d f) a
def lst (f : St) (L : List Nat) (l : Array Bool) : Array Bool := L.foldl (fun l i => if (f i).isSome then l.setIfInBounds i true else l) l

theorem put_comm' (a : Act) {x y : Nat} (v u : Value) (h : x ≠ y) : (a.put (some x) v).put (some y) u = (a.put (some y) u).put (some x) v :=
  Act.put_comm a v u (fun d hd he => h (by rw [← Option.some.inj hd] at he; exact (Option.some.inj he).symm))
theorem mk_put (d : Nat → Tmp) (f : St) (t : Nat) (v : Value) : ∀ (L : List Nat) (a : Act), (∀ j ∈ L, d j ≠ t) → (mk d f L a).put (some t) v = mk d f L (a.put (some t) v)
  | [], _, _ => rfl
  | j :: r, a, h => by
    show (mk d f r (stepA d f a j)).put (some t) v = mk d f r (stepA d f (a.put (some t) v) j)
    rw [mk_put d f t v r _ (fun k hk => h k (List.mem_cons_of_mem _ hk))]
    congr 1
    unfold stepA
    cases f j with
    | none => rfl
    | some u => exact put_comm' a u v (h j (List.mem_cons_self ..))
theorem mk_congr (d : Nat → Tmp) (f g : St) : ∀ (L : List Nat) (a : Act), (∀ j ∈ L, f j = g j) → mk d f L a = mk d g L a
  | [], _, _ => rfl
  | j :: r, a, h => by
    show mk d f r (stepA d f a j) = mk d g r (stepA d g a j)
    rw [mk_congr d f g r _ (fun k hk => h k (List.mem_cons_of_mem _ hk))]
    congr 1
    unfold stepA; rw [h j (List.mem_cons_self ..)]
theorem mk_upd (d : Nat → Tmp) (f : St) (i : Nat) (v : Value) (hf : f i = none) : ∀ (L : List Nat) (a : Act), (L.map d).Nodup → i ∈ L → (mk d f L a).put (some (d i)) v = mk d (upd f i v) L a
  | [], _, _, h => by cases h
  | j :: r, a, hn, h => by
    rw [List.map_cons, List.nodup_cons] at hn
    show (mk d f r (stepA d f a j)).put (some (d i)) v = mk d (upd f i v) r (stepA d (upd f i v) a j)
    by_cases hj : j = i
    · subst hj
      have hr : ∀ k ∈ r, d k ≠ d j := fun k hk he => hn.1 (by rw [← he]; exact List.mem_map_of_mem hk)
      rw [mk_put d f (d j) v r _ hr]
      have e1 : stepA d f a j = a := by unfold stepA; rw [hf]
      have e2 : stepA d (upd f j v) a j = a.put (some (d j)) v := by unfold stepA; rw [upd_same]
      rw [e1, e2]
      exact mk_congr d f _ r _ (fun k hk => (upd_ne (fun he => hr k hk (by rw [he]))).symm)
    · have hi : i ∈ r := by
        rcases List.mem_cons.1 h with h' | h'
        · exact absurd h'.symm hj
        · exact h'
      rw [mk_upd d f i v hf r _ hn.2 hi]
      congr 1
      unfold stepA; rw [upd_ne hj]
theorem mk_eval (d : Nat → Tmp) (f : St) (t : Nat) : ∀ (L : List Nat) (a : Act), (∀ j ∈ L, d j ≠ t) → (mk d f L a).eval (.tmp t) = a.eval (.tmp t)
  | [], _, _ => rfl
  | j :: r, a, h => by
    show (mk d f r (stepA d f a j)).eval (.tmp t) = _
    rw [mk_eval d f t r _ (fun k hk => h k (List.mem_cons_of_mem _ hk))]
    unfold stepA
    cases f j with
    | none => rfl
    | some u => exact Act.eval_put_ne _ _ _ _ (h j (List.mem_cons_self ..))
theorem put_size (a : Act) (t : Option Tmp) (v : Value) : (a.put t v).tmps.size = a.tmps.size := by
  cases t <;> simp [Act.put]
theorem mk_size (d : Nat → Tmp) (f : St) : ∀ (L : List Nat) (a : Act), (mk d f L a).tmps.size = a.tmps.size
  | [], _ => rfl
  | j :: r, a => by
    show (mk d f r (stepA d f a j)).tmps.size = _
    rw [mk_size d f r]
    unfold stepA
    cases f j with
    | none => rfl
    | some u => exact put_size _ _ _
theorem mk_at (d : Nat → Tmp) (f : St) (i : Nat) (v : Value) (hf : f i = some v) (L : List Nat) (a : Act) (hn : (L.map d).Nodup) (hi : i ∈ L) (hs : d i < a.tmps.size) : (mk d f L a).eval (.tmp (d i)) = v := by
  have e : f = upd (fun j => if j = i then none else f j) i v := by
    funext j
    unfold upd
    by_cases h : j = i
    · subst h; simp [hf]
    · simp [h]
  rw [e, ← mk_upd d _ i v (by simp) L a hn hi]
  exact Act.eval_put_same _ _ _ (by rw [mk_size]; exact hs)
theorem mk_all (d : Nat → Tmp) (g : Nat → Value) (f : St) : ∀ (L : List Nat) (a : Act), (∀ i ∈ L, f i = some (g i)) → mk d f L a = L.foldl (fun a i => a.put (some (d i)) (g i)) a
  | [], _, _ => rfl
  | j :: r, a, h => by
    show mk d f r (stepA d f a j) = _
    rw [mk_all d g f r _ (fun k hk => h k (List.mem_cons_of_mem _ hk)), List.foldl_cons]
    congr 1
    unfold stepA; rw [h j (List.mem_cons_self ..)]
theorem lst_size (f : St) : ∀ (L : List Nat) (l : Array Bool), (lst f L l).size = l.size
  | [], _ => rfl
  | j :: r, l => by
    show (lst f r (if (f j).isSome then l.setIfInBounds j true else l)).size = _
    rw [lst_size f r]; split <;> simp
theorem lst_get (f : St) (b : Bool) (i : Nat) : ∀ (L : List Nat) (l : Array Bool), (lst f L l).getD i b = (if i < l.size ∧ (i ∈ L ∧ (f i).isSome = true) then true else l.getD i b)
  | [], l => by simp [lst]
  | j :: r, l => by
    show (lst f r (if (f j).isSome then l.setIfInBounds j true else l)).getD i b = _
    rw [lst_get f b i r]
    by_cases hs : i < l.size
    · by_cases hj : j = i
      · subst hj
        by_cases hf : (f j).isSome = true
        · simp [hf, hs]
        · simp [hf]
      · have hj' : i ≠ j := fun h => hj h.symm
        by_cases hf : (f j).isSome = true
        · simp [hf, hs, hj, hj']
        · simp [hf, hs, hj']
    · have e : (if (f j).isSome = true then l.setIfInBounds j true else l).size = l.size := by split <;> simp
      have q1 : ¬ (i < (if (f j).isSome = true then l.setIfInBounds j true else l).size ∧ (i ∈ r ∧ (f i).isSome = true)) := fun h => hs (by have := h.1; rwa [e] at this)
      have q2 : ¬ (i < l.size ∧ (i ∈ j :: r ∧ (f i).isSome = true)) := fun h => hs h.1
      rw [if_neg q1, if_neg q2, Array.getD_eq_getD_getElem?, Array.getD_eq_getD_getElem?, Array.getElem?_eq_none (by omega), Array.getElem?_eq_none (by omega)]
theorem lst_upd (f : St) (i : Nat) (v : Value) : ∀ (L : List Nat) (l : Array Bool), i ∈ L → (lst f L l).setIfInBounds i true = lst (upd f i v) L l := by
  intro L l hi
  apply Array.ext_getElem?
  intro k
  have h1 := lst_get f true k L l
  have h2 := lst_get (upd f i v) true k L l
  by_cases hs : k < l.size
  · have s1 : k < (lst f L l).size := by rw [lst_size]; exact hs
    have s2 : k < (lst (upd f i v) L l).size := by rw [lst_size]; exact hs
    rw [Array.getElem?_eq_getElem (by simpa using s1), Array.getElem?_eq_getElem s2]
    simp only [Array.getD_eq_getD_getElem?, Array.getElem?_eq_getElem s1, Array.getElem?_eq_getElem s2, Array.getElem?_eq_getElem hs, Option.getD_some] at h1 h2
    rw [Array.getElem_setIfInBounds, h1, h2]
    by_cases hk : i = k
    · subst hk; simp [hs, hi, upd_same]
    · rw [if_neg hk, upd_ne (fun h => hk h.symm)]
    exact s1
  · rw [Array.getElem?_eq_none (by simp [lst_size]; omega), Array.getElem?_eq_none (by simp [lst_size]; omega)]
def need (ops : Array Oper) (md : Region.Mode) (i j : Nat) : Bool := match ops[i]? with
  | none => false
  | some o => o.after.any fun e => Region.binds md e && e.on == j
/-- it waits for all of L, or for one that is neither of L nor done -/
def cover (ops : Array Oper) (md : Region.Mode) (l : Array Bool) (L : List Nat) (i : Nat) : Bool :=
  (L.all fun j => need ops md i j || (L.any fun k => need ops md i k && (need ops md k j || L.any fun k' => need ops md k k' && need ops md k' j))) || ((List.range ops.size).any fun k => need ops md i k && !decide (k ∈ L) && !l.getD k true)
/-- what is asked of the operations that are left: L, each with a slot of its own, each waiting but for earlier ones; the others wait for L -/
def fit (ops : Array Oper) (md : Region.Mode) (l : Array Bool) (L : List Nat) (d : Nat → Tmp) : Bool :=
  decide (l.size = ops.size) && ((List.range ops.size).all fun i => decide (i ∈ L) || (l.getD i false || cover ops md l L i)) && (L.all fun i => !l.getD i true && match ops[i]? with
    | none => false
    | some o => (o.dst == some (d i)) && o.after.all fun e => !Region.binds md e || (decide (e.on < i) && (decide (e.on ∈ L) || l.getD e.on false))) && decide ((L.map d).Nodup)
def left (f : St) (L : List Nat) : Nat := (L.filter fun i => (f i).isNone).length
theorem left_upd (f : St) (i : Nat) (v : Value) (hf : f i = none) : ∀ (L : List Nat), L.Nodup → i ∈ L → left (upd f i v) L + 1 = left f L
  | [], _, h => by cases h
  | j :: r, hn, h => by
    rw [List.nodup_cons] at hn
    unfold left
    by_cases hj : j = i
    · subst hj
      have e : r.filter (fun k => (upd f j v k).isNone) = r.filter (fun k => (f k).isNone) := List.filter_congr (fun k hk => by rw [upd_ne (f := f) (v := v) (show k ≠ j from fun he => hn.1 (by rw [← he]; exact hk))])
      rw [List.filter_cons_of_neg (p := fun k => (upd f j v k).isNone) (by rw [upd_same]; simp), List.filter_cons_of_pos (p := fun k => (f k).isNone) (by rw [hf]; rfl), List.length_cons, e]
    · have hi : i ∈ r := by
        rcases List.mem_cons.1 h with h' | h'
        · exact absurd h'.symm hj
        · exact h'
      have := left_upd f i v hf r hn.2 hi
      unfold left at this
      by_cases hq : (f j).isNone = true
      · rw [List.filter_cons_of_pos (p := fun k => (upd f i v k).isNone) (by rw [upd_ne hj]; exact hq), List.filter_cons_of_pos (p := fun k => (f k).isNone) hq, List.length_cons, List.length_cons]; omega
      · rw [List.filter_cons_of_neg (p := fun k => (upd f i v k).isNone) (by rw [upd_ne hj]; exact hq), List.filter_cons_of_neg (p := fun k => (f k).isNone) hq]; exact this
theorem nodup_of (d : Nat → Tmp) : ∀ (L : List Nat), (L.map d).Nodup → L.Nodup
  | [], _ => List.nodup_nil
  | j :: r, h => by
    rw [List.map_cons, List.nodup_cons] at h
    exact List.nodup_cons.2 ⟨fun hj => h.1 (List.mem_map_of_mem hj), nodup_of d r h.2⟩
theorem stable (Step : Nat → World → World → Prop) (keep : Nat → Nat → Bool) (G : World → Prop) (hG : ∀ k w w', G w → Step k w w' → G w') (L : List Nat) (d : Nat → Tmp) (R : Nat → Value → World → Prop) (n : Nat) (a0 : Act) (l0 : Array Bool) (hfit : fit ops md l0 L d = true) (hsz : ∀ i ∈ L, d i < a0.tmps.size)
    (hst : ∀ i k v w w', keep i k = true → R i v w → Step k w w' → R i v w')
    (hop : ∀ i ∈ L, ∀ a w, S w → G w → (∀ t, (∀ j ∈ L, d j ≠ t) → a.eval (.tmp t) = a0.eval (.tmp t)) → (∀ j ∈ L, need ops md i j = true → (∀ k ∈ L, k ≠ i → k ≠ j → (keep j k || need ops md j k) = true) → R j (a.eval (.tmp (d j))) w) → wpOp P ops Q i (fun a' w' => S w' ∧ Step i w w' ∧ ∃ v, a' = a.put (some (d i)) v ∧ R i v w') a w)
    (hend : ∀ (g : Nat → Value) w, S w → G w → (∀ i ∈ L, (∀ k ∈ L, k ≠ i → (keep i k || need ops md i k) = true) → R i (g i) w) → wpAnyH P md ops Q S n (L.foldl (fun l i => l.setIfInBounds i true) l0) (L.foldl (fun a i => a.put (some (d i)) (g i)) a0) w) (w0 : World) (hS : S w0) (hG0 : G w0) : wpAnyH P md ops Q S (L.length + n) l0 a0 w0 := by
  simp only [fit, Bool.and_eq_true, decide_eq_true_eq, List.all_eq_true, Bool.or_eq_true, List.mem_range, Bool.not_eq_true'] at hfit
  obtain ⟨⟨⟨hl, hout⟩, hin⟩, hn⟩ := hfit
  have hop0 : ∀ i ∈ L, ∃ o, ops[i]? = some o ∧ o.dst = some (d i) ∧ ∀ e ∈ o.after, Region.binds md e = true → e.on < i ∧ (e.on ∈ L ∨ l0.getD e.on false = true) := fun i hi => by
    have := (hin i hi).2
    cases ho : ops[i]? with
    | none => rw [ho] at this; simp at this
    | some o =>
      rw [ho] at this
      simp only [Bool.and_eq_true, beq_iff_eq, Array.all_eq_true_iff_forall_mem, Bool.or_eq_true, Bool.not_eq_true', decide_eq_true_eq] at this
      exact ⟨o, rfl, this.1, fun e he hb => (this.2 e he).elim (fun h => by rw [hb] at h; cases h) id⟩
  have hlt : ∀ i ∈ L, i < l0.size := fun i hi => by
    obtain ⟨o, ho, _⟩ := hop0 i hi
    rw [hl]; exact (Array.getElem?_eq_some_iff.1 ho).1
  have undone : ∀ (f : St) j, j ∈ L → (lst f L l0).getD j false = true → (f j).isSome = true := fun f j hj h3 => by
    rw [lst_get] at h3
    split at h3
    · rename_i h; exact h.2.2
    · have h4 := (hin j hj).1
      rw [Array.getD_eq_getD_getElem?, Array.getElem?_eq_getElem (hlt j hj)] at h3 h4
      simp only [Option.getD_some] at h3 h4
      rw [h3] at h4; cases h4
  have needs : ∀ (f : St) i, i ∈ Region.ready md ops (lst f L l0) → ∀ j, need ops md i j = true → (lst f L l0).getD j false = true := fun f i hi j hjn => by
    obtain ⟨h1, o, ho, h2⟩ := mem_ready.1 hi
    unfold need at hjn
    rw [ho] at hjn
    obtain ⟨e, he, hb⟩ := Array.any_eq_true'.1 hjn
    simp only [Bool.and_eq_true, beq_iff_eq] at hb
    have h3 := h2 e he hb.1
    rwa [hb.2] at h3
  have rdy : ∀ (f : St) i, (∀ k ∈ L, (f k).isSome = true → ∀ j ∈ L, need ops md k j = true → (f j).isSome = true) → i ∈ Region.ready md ops (lst f L l0) → (i ∈ L ∧ f i = none ∧ ∀ j ∈ L, need ops md i j = true → (f j).isSome = true) ∨ ∀ j ∈ L, (f j).isSome = true := fun f i hc hi => by
    obtain ⟨h1, o, ho, h2⟩ := mem_ready.1 hi
    have hi' : i < ops.size := (Array.getElem?_eq_some_iff.1 ho).1
    have nd : ∀ j ∈ L, need ops md i j = true → (f j).isSome = true := fun j hj hjn => undone f j hj (needs f i hi j hjn)
    rcases hout i hi' with h | h | h
    · refine .inl ⟨h, ?_, nd⟩
      rw [lst_get] at h1
      cases hf : f i with
      | none => rfl
      | some v => rw [if_pos ⟨hlt i h, h, by rw [hf]; rfl⟩] at h1; cases h1
    · exfalso
      rw [lst_get] at h1
      split at h1
      · cases h1
      · rw [Array.getD_eq_getD_getElem?] at h h1
        rw [Array.getElem?_eq_getElem (by rw [hl]; exact hi')] at h h1
        simp only [Option.getD_some] at h h1
        rw [h] at h1; cases h1
    · right
      simp only [cover, Bool.or_eq_true, List.all_eq_true, List.any_eq_true, Bool.and_eq_true, List.mem_range, Bool.not_eq_true', decide_eq_false_iff_not] at h
      rcases h with h | ⟨k, hk, ⟨hk1, hk2⟩, hk3⟩
      · intro j hj
        rcases h j hj with h | ⟨k, hk, h1, h2 | ⟨k', hk', h2, h3⟩⟩
        · exact nd j hj h
        · exact hc k hk (nd k hk h1) j hj h2
        · exact hc k' hk' (hc k hk (nd k hk h1) k' hk' h2) j hj h3
      · exfalso
        have h4 := needs f i hi k hk1
        rw [lst_get, if_neg (fun h => hk2 h.2.1)] at h4
        rw [Array.getD_eq_getD_getElem?, Array.getElem?_eq_getElem (by rw [hl]; exact hk)] at h4 hk3
        simp only [Option.getD_some] at h4 hk3
        rw [h4] at hk3; cases hk3
  have non : ∀ (f : St), Region.ready md ops (lst f L l0) = [] → ∀ i ∈ L, (f i).isSome = true := fun f hr => by
    intro i
    induction i using Nat.strongRecOn with
    | _ i ih =>
      intro hi
      cases hf : f i with
      | some v => rfl
      | none =>
        obtain ⟨o, ho, _, ha⟩ := hop0 i hi
        have : i ∈ Region.ready md ops (lst f L l0) := by
          refine mem_ready.2 ⟨?_, o, ho, fun e he hb => ?_⟩
          · rw [lst_get, if_neg (fun h => by rw [hf] at h; cases h.2.2)]; exact (hin i hi).1
          · obtain ⟨hlt', hor⟩ := ha e he hb
            rw [lst_get]
            have hs : e.on < l0.size := Nat.lt_trans hlt' (hlt i hi)
            rcases hor with h | h
            · rw [if_pos ⟨hs, h, ih _ hlt' h⟩]
            · by_cases hc : e.on < l0.size ∧ (e.on ∈ L ∧ (f e.on).isSome = true)
              · rw [if_pos hc]
              · rw [if_neg hc]; exact h
        rw [hr] at this; cases this
  have all0 : ∀ (f : St), left f L = 0 → ∀ i ∈ L, (f i).isSome = true := fun f h0 i hi => by
    cases hf : f i with
    | some v => rfl
    | none =>
      have : i ∈ L.filter fun i => (f i).isNone := List.mem_filter.2 ⟨hi, by rw [hf]; rfl⟩
      unfold left at h0
      rw [List.eq_nil_of_length_eq_zero h0] at this; cases this
  have lall : ∀ (f : St) (L : List Nat) (l : Array Bool), (∀ i ∈ L, (f i).isSome = true) → lst f L l = L.foldl (fun l i => l.setIfInBounds i true) l := fun f L => by
    induction L with
    | nil => intro l _; rfl
    | cons j r ih =>
      intro l h
      show lst f r (if (f j).isSome then l.setIfInBounds j true else l) = _
      rw [if_pos (h j (List.mem_cons_self ..)), ih _ (fun k hk => h k (List.mem_cons_of_mem _ hk)), List.foldl_cons]
  have key : ∀ (p : Nat) (f : St) (w : World), left f L = p → S w → G w → (∀ i ∈ L, ∀ v, f i = some v → (∀ k ∈ L, k ≠ i → (f k).isSome = true → (keep i k || need ops md i k) = true) → R i v w) → (∀ k ∈ L, (f k).isSome = true → ∀ j ∈ L, need ops md k j = true → (f j).isSome = true) → wpAnyH P md ops Q S (p + n) (lst f L l0) (mk d f L a0) w := by
    intro p
    induction p with
    | zero =>
      intro f w hle hS hGw hR _
      have hall := all0 f hle
      have hg : ∀ i ∈ L, f i = some ((f i).getD undef) := fun i hi => by
        cases h : f i with
        | none => have := hall i hi; rw [h] at this; cases this
        | some v => rfl
      rw [mk_all d (fun i => (f i).getD undef) f L a0 hg, lall f L l0 hall, Nat.zero_add]
      exact hend _ w hS hGw (fun i hi hk => hR i hi _ (hg i hi) (fun k hkL hne _ => hk k hkL hne))
    | succ p ih =>
      intro f w hle hS hGw hR hc
      have hno : ¬ ∀ j ∈ L, (f j).isSome = true := fun h => by
        have : L.filter (fun i => (f i).isNone) = [] := List.filter_eq_nil_iff.2 (fun i hi => by have := h i hi; simp [Option.isSome_iff_ne_none] at this ⊢; exact this)
        unfold left at hle
        rw [this] at hle; cases hle
      rw [Nat.succ_add]
      refine ⟨fun hr => absurd (non f hr) hno, fun i hi => ?_⟩
      rcases rdy f i hc hi with ⟨h1, h2, h3⟩ | h
      · refine wpOp_mono (fun a' w' h => ?_) (hop i h1 (mk d f L a0) w hS hGw (fun t ht => mk_eval d f t L a0 ht) (fun j hj hjn hkj => ?_))
        · obtain ⟨hS', hst', v, rfl, hv⟩ := h
          refine ⟨hS', ?_⟩
          rw [mk_upd d f i v h2 L a0 hn h1, lst_upd f i v L l0 h1]
          refine ih (upd f i v) w' (by have := left_upd f i v h2 L (nodup_of d L hn) h1; omega) hS' (hG i w w' hGw hst') (fun j hj u hu hkp => ?_) (fun k hk hks j hj hkj => ?_)
          · by_cases e : j = i
            · subst e; rw [upd_same] at hu; cases hu; exact hv
            · rw [upd_ne e] at hu
              have hks : ∀ k ∈ L, k ≠ j → (f k).isSome = true → (keep j k || need ops md j k) = true := fun k hk hne hs => by
                refine hkp k hk hne ?_
                by_cases e2 : k = i
                · subst e2; rw [upd_same]; rfl
                · rw [upd_ne e2]; exact hs
              have hji : keep j i = true := by
                have := hkp i h1 (fun h => e h.symm) (by rw [upd_same]; rfl)
                rw [Bool.or_eq_true] at this
                refine this.elim id (fun hn => ?_)
                have h4 := hc j hj (by rw [hu]; rfl) i h1 hn
                rw [h2] at h4; cases h4
              exact hst j i u w w' hji (hR j hj u hu hks) hst'
          · by_cases e : j = i
            · subst e; rw [upd_same]; rfl
            · rw [upd_ne e]
              by_cases e' : k = i
              · subst e'; exact h3 j hj hkj
              · rw [upd_ne e'] at hks; exact hc k hk hks j hj hkj
        · obtain ⟨v, hv⟩ := Option.isSome_iff_exists.1 (h3 j hj hjn)
          rw [mk_at d f j v hv L a0 hn hj (hsz j hj)]
          exact hR j hj v hv (fun k hk hne hks => hkj k hk (fun e => by subst e; rw [h2] at hks; cases hks) hne)
      · exact absurd h hno
  have h := key L.length (fun _ => none) w0 (by unfold left; simp) hS hG0 (fun _ _ _ h => by cases h) (fun _ _ h => by cases h)
  have e1 : lst (fun _ => none) L l0 = l0 := by
    have : ∀ (L : List Nat) (l : Array Bool), lst (fun _ => none) L l = l := fun L => by
      induction L with
      | nil => intro l; rfl
      | cons j r ih => intro l; exact ih l
    exact this L l0
  have e2 : mk d (fun _ => none) L a0 = a0 := by
    have : ∀ (L : List Nat) (a : Act), mk d (fun _ => none) L a = a := fun L => by
      induction L with
      | nil => intro a; rfl
      | cons j r ih => intro a; exact ih a
    exact this L a0
  rwa [e1, e2] at h
/-- what an operation of L looks at, of what L leaves -/
def shy (ops : Array Oper) (md : Region.Mode) (L : List Nat) (d : Nat → Tmp) (dep : Nat → List Nat) : Bool := L.all fun i => ((dep i).all fun j => decide (j ∈ L) && need ops md i j) && decide (((dep i).map d).Nodup) && match ops[i]? with
  | none => false
  | some o => o.guard.isNone && (match o.op with | .select _ _ => false | _ => true) && o.op.operands.all fun x => match x with
    | .tmp t => L.all fun j => decide (j ∈ dep i) || decide (d j ≠ t)
    | _ => true
theorem wpOp_swap {i : Nat} {o : Oper} {a b : Act} {X : World} {d : Tmp} {R : Value → World → Prop} (hi : ops[i]? = some o) (hg : o.guard = none) (hsel : ∀ cs b, o.op ≠ .select cs b) (hd : o.dst = some d) (hs : d < b.tmps.size) (he : ∀ x ∈ o.op.operands, a.eval x = b.eval x)
    (h : o.wp P b X (fun a' w' => ∃ v, a' = b.put (some d) v ∧ R v w') (fun _ _ _ => False)) : wpOp P ops Q i (fun a' w' => ∃ v, a' = a.put (some d) v ∧ R v w') a X := by
  unfold wpOp
  simp only [hi]
  rw [if_pos (by unfold Region.wanted; rw [hg])]
  left
  unfold Oper.wp at h ⊢
  rw [execOp_congr o hsel he]
  have inj : ∀ u w', (∃ v, b.put (some d) u = b.put (some d) v ∧ R v w') → R u w' := fun u w' ⟨v, e, hv⟩ => by
    have := congrArg (fun z => z.eval (.tmp d)) e
    simp only [Act.eval_put_same _ _ _ hs] at this
    rw [this]; exact hv
  generalize (execOp b.eval o).run P X = r at *
  cases r with
  | ok n w' =>
    cases n <;> simp only [Oper.upon, hd] at h ⊢
    case value u => exact ⟨u, rfl, inj u w' h⟩
    case skip => exact ⟨undef, rfl, inj undef w' h⟩
    case defer z =>
      exfalso
      obtain ⟨v, e, _⟩ := h
      have := congrArg (fun z => z.defers.length) e
      simp [Act.put] at this
    case enter f args =>
      refine Calls.mono h fun e w'' he => ?_
      cases e with
      | returned u => exact ⟨u, rfl, inj u w'' he⟩
      | panicked c => exact he.elim
      | outgrown => obtain ⟨_, _, h⟩ := he; exact h.elim
    case row row args => exact Rows.mono h fun u w'' he => ⟨u, rfl, inj u w'' he⟩
  | halt x w' =>
    cases x <;> simp only [Oper.upon] at h ⊢
/-- THE LAW: each operation of L is walked once, in any world that meets S, with what it looks at -/
theorem each (Step : Nat → World → World → Prop) (keep : Nat → Nat → Bool) (G : World → Prop) (hG : ∀ k w w', G w → Step k w w' → G w') (L : List Nat) (d : Nat → Tmp) (dep : Nat → List Nat) (R : Nat → Value → World → Prop) (n : Nat) (a0 : Act) (l0 : Array Bool) (hfit : fit ops md l0 L d = true) (hshy : shy ops md L d dep = true) (hszB : (L.all fun i => decide (d i < a0.tmps.size)) = true)
    (hst : ∀ i k v w w', keep i k = true → R i v w → Step k w w' → R i v w')
    (hop : ∀ i ∈ L, ∀ o, ops[i]? = some o → ∀ (g : Nat → Value) w, S w → G w → (∀ j ∈ dep i, (∀ k ∈ L, k ≠ i → k ≠ j → (keep j k || need ops md j k) = true) → R j (g j) w) → o.wp P ((dep i).foldl (fun a j => a.put (some (d j)) (g j)) a0) w (fun a' w' => ∃ v, a' = ((dep i).foldl (fun a j => a.put (some (d j)) (g j)) a0).put (some (d i)) v ∧ (S w' ∧ Step i w w' ∧ R i v w')) (fun _ _ _ => False))
    (hend : ∀ (g : Nat → Value) w, S w → G w → (∀ i ∈ L, (∀ k ∈ L, k ≠ i → (keep i k || need ops md i k) = true) → R i (g i) w) → wpAnyH P md ops Q S n (L.foldl (fun l i => l.setIfInBounds i true) l0) (L.foldl (fun a i => a.put (some (d i)) (g i)) a0) w) (w0 : World) (hS : S w0) (hG0 : G w0) : wpAnyH P md ops Q S (L.length + n) l0 a0 w0 := by
  have hsz : ∀ i ∈ L, d i < a0.tmps.size := fun i hi => by simpa using List.all_eq_true.1 hszB i hi
  refine stable Step keep G hG L d R n a0 l0 hfit hsz hst (fun i hi a w hS hGw hold hdone => ?_) hend w0 hS hG0
  have hs := List.all_eq_true.1 hshy i hi
  simp only [Bool.and_eq_true, List.all_eq_true, decide_eq_true_eq] at hs
  obtain ⟨⟨hdp, hdn⟩, hs⟩ := hs
  cases ho : ops[i]? with
  | none => rw [ho] at hs; simp at hs
  | some o =>
    rw [ho] at hs
    simp only [Bool.and_eq_true, Array.all_eq_true_iff_forall_mem] at hs
    obtain ⟨⟨hg, hsel⟩, hall⟩ := hs
    have hg' : o.guard = none := by simpa using hg
    have hsel' : ∀ cs b, o.op ≠ .select cs b := fun cs b e => by rw [e] at hsel; cases hsel
    have hdst : o.dst = some (d i) := by
      simp only [fit, Bool.and_eq_true, List.all_eq_true] at hfit
      have := (hfit.1.2 i hi).2
      rw [ho] at this
      simp only [Bool.and_eq_true, beq_iff_eq] at this
      exact this.1
    have eb := mk_all d (fun j => a.eval (.tmp (d j))) (fun j => some (a.eval (.tmp (d j)))) (dep i) a0 (fun _ _ => rfl)
    have hw := hop i hi o ho (fun j => a.eval (.tmp (d j))) w hS hGw (fun j hj hk => hdone j (hdp j hj).1 (hdp j hj).2 hk)
    rw [← eb] at hw
    have key := wpOp_swap (Q := Q) (a := a) (X := w) (d := d i) (R := fun v w' => S w' ∧ Step i w w' ∧ R i v w') ho hg' hsel' hdst (by rw [mk_size]; exact hsz i hi) (fun x hx => ?_) hw
    · exact wpOp_mono (fun a' w' ⟨v, e, h1, h2, h3⟩ => ⟨h1, h2, v, e, h3⟩) key
    · have hx' := hall x hx
      cases x with
      | tmp t =>
        simp only [List.all_eq_true, Bool.or_eq_true, decide_eq_true_eq] at hx'
        by_cases hex : ∃ j ∈ L, d j = t
        · obtain ⟨j, hj, rfl⟩ := hex
          have hnj : j ∈ dep i := (hx' j hj).elim id (fun h => absurd rfl h)
          rw [mk_at d _ j (a.eval (.tmp (d j))) rfl (dep i) a0 hdn hnj (hsz j hj)]
        · have hne : ∀ j ∈ L, d j ≠ t := fun j hj e => hex ⟨j, hj, e⟩
          rw [mk_eval d _ t (dep i) a0 (fun j hj => hne j (hdp j hj).1), hold t hne]
      | _ => rfl
theorem call {o : Oper} {a : Act} {w : World} {K : Act → World → Prop} {f : FuncId} {args : Array Value} {R : Value → World → Prop} (he : (execOp a.eval o).run P w = .ok (.enter f args) w) (hc : Calls P f args w fun e w' => ∃ v, e = .returned v ∧ R v w') (h : ∀ v w', R v w' → K (a.put o.dst v) w') : o.wp P a w K Q := by
  unfold Oper.wp
  rw [he]
  exact hc.mono fun e w' ⟨v, h1, h2⟩ => by subst h1; exact h v w' h2
theorem val {o : Oper} {a : Act} {w w' : World} {K : Act → World → Prop} (v : Value) (he : (execOp a.eval o).run P w = .ok (.value v) w') (h : K (a.put o.dst v) w') : o.wp P a w K Q := by
  unfold Oper.wp
  rw [he]
  exact h
end Sb
end Go.Proofs.Ytomiefhfkdfgbaa
