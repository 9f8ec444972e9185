/-
  The mathematics of layer 5, more: what is read leads back to its bytes; what is in it; no error is none.
-/
import Derived.Test.YtghhdbkgibpebaaRd11
import Derived.Test.YtghhdbkgibpebaaLen5
namespace Go.Proofs.Ytghhdbkgibpebaa
open Go.RowKit Go.Sort

/-! no error is none -/
def Ne {α : Type} (p : Pr α) : Prop := ∀ x e, p x = .error e → e ≠ 0
theorem ne_int (l : List UInt8) : Ne (pInt l) := fun x e h => by
  unfold pInt at h; split at h
  · cases h
  · rename_i h'; cases h; exact h'
theorem ne_count (l : List UInt8) (m : Int) : Ne (pCount l m) := fun x e h => by
  unfold pCount at h; split at h
  · cases h
  · rename_i h'; cases h; exact h'
theorem ne_text (l : List UInt8) : Ne (pText l) := fun x e h => by
  unfold pText at h; split at h
  · cases h
  · rename_i h'; cases h; exact h'
theorem ne_kind (l : List UInt8) (m : Nat) : Ne (pKind l m) := fun x e h => by
  unfold pKind at h; split at h
  · cases h; decide
  · split at h
    · cases h; decide
    · cases h
theorem ne_bnd {α β : Type} {p : Pr α} {q : α → Pr β} (hp : Ne p) (hq : ∀ v, Ne (q v)) : Ne (p.bnd q) := fun x e h => by
  cases hx : p x with
  | error e' => rw [Pr.bnd_err hx] at h; cases h; exact hp x _ hx
  | ok r => obtain ⟨v, j⟩ := r; rw [Pr.bnd_ok hx] at h; exact hq v j e h
theorem ne_ret {α : Type} (v : α) : Ne (Pr.ret v) := fun x e h => by cases h
theorem ne_const (l : List UInt8) : Ne (pConst l) := ne_bnd (ne_kind l 1) fun k => by
  split
  · exact ne_bnd (ne_int l) fun _ => ne_ret _
  · exact ne_bnd (ne_text l) fun _ => ne_ret _
theorem ne_term (l : List UInt8) : Ne (pTerm l) := ne_bnd (ne_kind l 2) fun k => by
  split
  · exact ne_ret _
  · split
    · exact ne_bnd (ne_text l) fun _ => ne_ret _
    · exact ne_bnd (ne_const l) fun _ => ne_ret _
theorem ne_many {α : Type} {p : Pr α} (hp : Ne p) : ∀ n, Ne (pMany p n)
  | 0 => ne_ret _
  | n + 1 => ne_bnd (ne_many hp n) fun _ => ne_bnd hp fun _ => ne_ret _
theorem ne_list {α : Type} {l : List UInt8} {m : Int} {p : Pr α} (hp : Ne p) : Ne (pList l m p) := ne_bnd (ne_count l m) fun _ => ne_many hp _
theorem ne_fact (l : List UInt8) : Ne (pFact l) := ne_bnd (ne_text l) fun _ => ne_bnd (ne_text l) fun _ => ne_bnd (ne_text l) fun _ => ne_bnd (ne_list (ne_const l)) fun _ => ne_ret _
theorem ne_lit (l : List UInt8) : Ne (pLit l) := ne_bnd (ne_term l) fun _ => ne_bnd (ne_text l) fun _ => ne_bnd (ne_list (ne_term l)) fun _ => ne_bnd (ne_term l) fun _ => ne_ret _
theorem ne_rule (l : List UInt8) : Ne (pRule l) := ne_bnd (ne_term l) fun _ => ne_bnd (ne_text l) fun _ => ne_bnd (ne_list (ne_term l)) fun _ => ne_bnd (ne_term l) fun _ => ne_bnd (ne_list (ne_lit l)) fun _ => ne_ret _
theorem ne_rule2 (l : List UInt8) : Ne (pRule2 l) := ne_bnd (ne_rule l) fun r => by
  cases r.bad
  · exact ne_ret _
  · intro x e h; cases h; decide
theorem ne_prog (l : List UInt8) : Ne (pProg l) := ne_list (ne_rule2 l)

/-! what is in it -/
def All {α : Type} (p : Pr α) (Q : α → Prop) : Prop := ∀ x v j, p x = .ok (v, j) → Q v
theorem all_many {α : Type} {p : Pr α} {Q : α → Prop} (hp : All p Q) : ∀ n, All (pMany p n) fun xs => ∀ v ∈ xs, Q v
  | 0 => fun x v j h => by obtain ⟨rfl, _⟩ := ret_inv h; simp
  | n + 1 => fun x v j h => by
    obtain ⟨ys, i, h1, h2⟩ := Pr.bnd_inv h
    obtain ⟨u, i', h3, h4⟩ := Pr.bnd_inv h2
    obtain ⟨rfl, _⟩ := ret_inv h4
    intro v hv
    rcases List.mem_append.1 hv with hv | hv
    · exact all_many hp n x ys i h1 v hv
    · rw [List.mem_singleton] at hv; subst hv; exact hp _ _ _ h3
theorem all_list {α : Type} {l : List UInt8} {m : Int} {p : Pr α} {Q : α → Prop} (hp : All p Q) : All (pList l m p) fun xs => (∀ v ∈ xs, Q v) ∧ (xs.length : Int) ≤ m := fun x v j h => by
  obtain ⟨n, i, h1, h2⟩ := Pr.bnd_inv h
  refine ⟨all_many hp _ _ _ _ h2, ?_⟩
  have := pCount_range h1
  rw [pMany_len h2]; omega
theorem all_const (l : List UInt8) : All (pConst l) KIn := fun x v j h => by
  obtain ⟨k, i, h1, h2⟩ := Pr.bnd_inv h
  split at h2
  · obtain ⟨n, i', h3, h4⟩ := Pr.bnd_inv h2
    obtain ⟨rfl, _⟩ := ret_inv h4
    exact (pInt_range h3).1
  · obtain ⟨n, i', h3, h4⟩ := Pr.bnd_inv h2
    obtain ⟨rfl, _⟩ := ret_inv h4
    exact ⟨by show (-9223372036854775808 : Int) ≤ 0; decide, by show (0 : Int) ≤ 9223372036854775807; decide⟩
theorem kin0 : KIn k0 := ⟨by decide, by decide⟩
theorem all_term (l : List UInt8) : All (pTerm l) fun t => KIn t.t.k := fun x v j h => by
  obtain ⟨k, i, h1, h2⟩ := Pr.bnd_inv h
  split at h2
  · obtain ⟨rfl, _⟩ := ret_inv h2
    exact kin0
  · split at h2
    · obtain ⟨n, i', h3, h4⟩ := Pr.bnd_inv h2
      obtain ⟨rfl, _⟩ := ret_inv h4
      exact kin0
    · obtain ⟨n, i', h3, h4⟩ := Pr.bnd_inv h2
      obtain ⟨rfl, _⟩ := ret_inv h4
      exact all_const l _ _ _ h3
theorem all_fact (l : List UInt8) : All (pFact l) fun f => ∀ k ∈ f.ks, KIn k := fun x v j h => by
  obtain ⟨_, _, _, h⟩ := Pr.bnd_inv h
  obtain ⟨_, _, _, h⟩ := Pr.bnd_inv h
  obtain ⟨_, _, _, h⟩ := Pr.bnd_inv h
  obtain ⟨ks, _, h4, h⟩ := Pr.bnd_inv h
  obtain ⟨rfl, _⟩ := ret_inv h
  exact (all_list (all_const l) _ _ _ h4).1
theorem all_lit (l : List UInt8) : All (pLit l) fun x => LIn x.l := fun x v j h => by
  obtain ⟨_, _, h1, h⟩ := Pr.bnd_inv h
  obtain ⟨_, _, _, h⟩ := Pr.bnd_inv h
  obtain ⟨_, _, h3, h⟩ := Pr.bnd_inv h
  obtain ⟨_, _, h4, h⟩ := Pr.bnd_inv h
  obtain ⟨rfl, _⟩ := ret_inv h
  refine ⟨all_term l _ _ _ h1, all_term l _ _ _ h4, fun t ht => ?_⟩
  obtain ⟨r, hr, rfl⟩ := List.mem_map.1 ht
  exact (all_list (all_term l) _ _ _ h3).1 r hr
theorem all_rule (l : List UInt8) : All (pRule l) fun x => RIn x.r := fun x v j h => by
  obtain ⟨_, _, h1, h⟩ := Pr.bnd_inv h
  obtain ⟨_, _, _, h⟩ := Pr.bnd_inv h
  obtain ⟨_, _, h3, h⟩ := Pr.bnd_inv h
  obtain ⟨_, _, h4, h⟩ := Pr.bnd_inv h
  obtain ⟨_, _, h5, h⟩ := Pr.bnd_inv h
  obtain ⟨rfl, _⟩ := ret_inv h
  refine ⟨all_term l _ _ _ h1, all_term l _ _ _ h4, fun t ht => ?_, fun t ht => ?_⟩
  · obtain ⟨r, hr, rfl⟩ := List.mem_map.1 ht
    exact (all_list (all_term l) _ _ _ h3).1 r hr
  · obtain ⟨r, hr, rfl⟩ := List.mem_map.1 ht
    exact (all_list (all_lit l) _ _ _ h5).1 r hr
theorem all_rule2 (l : List UInt8) : All (pRule2 l) fun x => RIn x.r ∧ x.bad = false := fun x v j h => by
  obtain ⟨r, i, h1, h2⟩ := Pr.bnd_inv h
  cases hb : r.bad
  · rw [hb] at h2
    obtain ⟨rfl, _⟩ := ret_inv h2
    exact ⟨all_rule l _ _ _ h1, hb⟩
  · rw [hb] at h2; cases h2

/-! what was read is laid as it was -/
theorem rt_B {t : Rt} (h : t.hollow = false) : t.B = termB t.t := by
  have e : kindT t.t = t.kind := by simpa [Rt.hollow] using h
  unfold termB
  rw [e]
  rcases t with ⟨_ | _ | _⟩ <;> rfl
theorem listB_congr {α β : Type} {f : α → List UInt8} {g : β → List UInt8} {h : α → β} {xs : List α} (hf : ∀ x ∈ xs, f x = g (h x)) : listB f xs = listB g (xs.map h) := by
  unfold listB
  rw [List.length_map, List.flatMap_map]
  congr 1
  induction xs with
  | nil => rfl
  | cons x r ih => rw [List.flatMap_cons, List.flatMap_cons, hf x (by simp), ih fun y hy => hf y (by simp [hy])]
theorem rl_B {x : Rl} (h : x.flag Rt.hollow = false) : x.B = litB x.l := by
  simp only [Rl.flag, Bool.or_eq_false_iff, List.any_eq_false] at h
  unfold Rl.B litB
  rw [rt_B h.1.1, rt_B h.2, listB_congr (g := termB) (h := Rt.t) fun t ht => rt_B (by simpa using h.1.2 t ht)]
  rfl
theorem rr_B {x : Rr} (h : x.flag Rt.hollow = false) : x.B = ruleB x.r := by
  simp only [Rr.flag, Bool.or_eq_false_iff, List.any_eq_false] at h
  unfold Rr.B ruleB
  rw [rt_B h.1.1.1, rt_B h.1.2, listB_congr (g := termB) (h := Rt.t) fun t ht => rt_B (by simpa using h.1.1.2 t ht), listB_congr (g := litB) (h := Rl.l) fun t ht => rl_B (by simpa using h.2 t ht)]
  rfl

theorem fR_ok {l : List UInt8} {x : Int} {f : F} {j : Int} (h : fR l x = (f, j, 0)) : okB f = true ∧ (∀ k ∈ f.ks, KIn k) ∧ 0 ≤ x ∧ x < j ∧ j ≤ l.length ∧ factB f = (l.drop x.toNat).take (j.toNat - x.toNat) := by
  unfold fR at h
  cases hp : pFact l x with
  | error e => rw [hp] at h; simp only [Prod.mk.injEq] at h; exact (ne_fact l x e hp h.2.2).elim
  | ok r =>
    obtain ⟨g, i⟩ := r
    rw [hp] at h
    simp only at h
    cases hok : okB g
    · rw [hok] at h; simp at h
    · rw [hok] at h
      simp only [cond_true, Prod.mk.injEq] at h
      obtain ⟨rfl, rfl, _⟩ := h
      obtain ⟨s, i1, h1, h2⟩ := Pr.bnd_inv hp
      have r1 := pText_range h1
      obtain ⟨b1, b2, b3⟩ := snd_fact l x g i r1.2.1 hp
      obtain ⟨s2, i2, h3, h4⟩ := Pr.bnd_inv h2
      have r2 := pText_range h3
      obtain ⟨s3, i3, h5, h6⟩ := Pr.bnd_inv h4
      have r3 := pText_range h5
      obtain ⟨ks, i4, h7, h8⟩ := Pr.bnd_inv h6
      have r4 := snd_list (snd_const l) 48 i3 ks i4 (by omega) h7
      obtain ⟨_, rfl⟩ := ret_inv h8
      exact ⟨hok, all_fact l _ _ _ hp, by omega, by omega, b2, b3⟩
theorem dR_ok {l : List UInt8} (h : (dR l).2 = 0) : (dR l).1.length ≤ 768 ∧ (dR l).1.all mayR = true ∧ (∀ r ∈ (dR l).1, RIn r) ∧ progB (dR l).1 = l := by
  unfold dR at h ⊢
  cases hp : pProg l 0 with
  | error e => rw [hp] at h; exact (ne_prog l 0 e hp h).elim
  | ok q =>
    obtain ⟨rs, j⟩ := q
    rw [hp] at h
    simp only at h ⊢
    split at h
    · rename_i hj
      rw [if_pos hj]
      obtain ⟨ha, hl⟩ := all_list (all_rule2 l) _ _ _ hp
      have hs := snd_prog l 0 rs j (by omega) hp
      have hbad : ∀ r ∈ rs, r.flag Rt.hollow = false ∧ mayR r.r = true := fun r hr => by
        have := (ha r hr).2
        unfold Rr.bad at this
        simpa using this
      refine ⟨by rw [List.length_map]; omega, ?_, fun r hr => ?_, ?_⟩
      · rw [List.all_map, List.all_eq_true]
        exact fun r hr => (hbad r hr).2
      · obtain ⟨q, hq, rfl⟩ := List.mem_map.1 hr
        exact (ha q hq).1
      · have e := hs.2.2
        rw [listB_congr (g := ruleB) (h := Rr.r) fun r hr => rr_B (hbad r hr).1] at e
        unfold progB
        simp only at e ⊢
        rw [e, hj]
        simp
    · cases h
theorem dR_no {l : List UInt8} (h : (dR l).2 ≠ 0) : (dR l).1 = [] := by
  unfold dR at h ⊢
  split
  · rfl
  · rename_i rs j hp
    rw [hp] at h
    simp only at h
    split
    · rename_i hj; rw [if_pos hj] at h; exact absurd rfl h
    · rfl
theorem fR_range {l : List UInt8} {x : Int} : (fR l x).2.2 = 0 → fR l x = ((fR l x).1, (fR l x).2.1, 0) := fun h => Prod.ext rfl (Prod.ext rfl h)
end Go.Proofs.Ytghhdbkgibpebaa
