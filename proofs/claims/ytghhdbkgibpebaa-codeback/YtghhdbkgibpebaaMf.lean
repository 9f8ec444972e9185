/-
  The mathematics of layer 5, more: what is laid is read as it was; unlike facts have unlike bytes, and none begins another's.
-/
import Derived.Test.YtghhdbkgibpebaaMo
namespace Go.Proofs.Ytghhdbkgibpebaa
open Go.RowKit Go.Sort

def Fw {α β : Type} (p : List UInt8 → Pr β) (B : α → List UInt8) (raw : α → β) (ok : α → Prop) : Prop :=
  ∀ (b r : List UInt8) (v : α), ok v → p (b ++ B v ++ r) (b.length : Int) = .ok (raw v, ((b ++ B v).length : Int))
theorem fw_int : Fw pInt intB id fun n => -9223372036854775808 ≤ n ∧ n ≤ 9223372036854775807 := fun b r n h => by
  have := Pm.rd_put b r n h.1 h.2
  unfold pInt intB
  rw [this]; rfl
theorem fw_count (m : Int) (hm : m ≤ 1000000) : Fw (fun l => pCount l m) intB id fun n => 0 ≤ n ∧ n ≤ m := fun b r n h => by
  have hr := Pm.rd_put b r n (by omega) (by omega)
  show pCount (b ++ intB n ++ r) m _ = _
  have hc : Pm.ct (b ++ Pm.vb (Pm.tb n) ++ r) (b.length : Int) m = (n, ((b ++ Pm.vb (Pm.tb n)).length : Int), 0) := by
    unfold Pm.ct
    rw [hr, if_neg (by simp), if_neg (by simp only; omega)]
  unfold pCount intB
  rw [hc]; rfl
theorem fw_text : Fw pText textB id fun s => s.length ≤ 65536 := fun b r s h => by
  have := Pm.tx_put b r s h
  unfold pText textB
  rw [← List.append_assoc, this]; rfl
theorem kind_put (m : Nat) (c : UInt8) (b r : List UInt8) (h : c.toNat ≤ m) : pKind (b ++ c :: r) m (b.length : Int) = .ok (c.toNat, ((b ++ [c]).length : Int)) := by
  unfold pKind
  rw [Int.toNat_natCast, List.getElem?_append_right (Nat.le_refl _), Nat.sub_self]
  simp only [List.getElem?_cons_zero]
  rw [if_neg (by omega), List.length_append]; rfl
theorem fits_le {s : List UInt8} (h : fitsB s = true) : s.length ≤ 65536 := by
  unfold fitsB at h
  simp only [Bool.and_eq_true, decide_eq_true_eq] at h; omega
theorem fw_const : Fw pConst constB id fun k => goodB k = true ∧ KIn k := fun b r k h => by
  obtain ⟨nm, n, s⟩ := k
  obtain ⟨h1, h2⟩ := h
  cases nm
  · simp only [goodB, Bool.false_eq_true, if_false, Bool.and_eq_true, decide_eq_true_eq] at h1
    obtain ⟨rfl, hs⟩ := h1
    have e : b ++ constB ⟨false, 0, s⟩ ++ r = b ++ 1 :: (textB s ++ r) := by simp [constB]
    rw [e, pConst, Pr.bnd_ok (kind_put 1 1 b (textB s ++ r) (by decide))]
    have e2 : b ++ 1 :: (textB s ++ r) = (b ++ [1]) ++ textB s ++ r := by simp
    rw [e2]
    have hne : ¬ (1 : UInt8).toNat = 0 := by decide
    simp only [hne, if_false]
    rw [Pr.bnd_ok (fw_text (b ++ [1]) r s (fits_le hs))]
    simp [Pr.ret, constB]
  · simp only [goodB, if_true, List.isEmpty_iff] at h1
    subst h1
    have e : b ++ constB ⟨true, n, []⟩ ++ r = b ++ 0 :: (intB n ++ r) := by simp [constB]
    rw [e, pConst, Pr.bnd_ok (kind_put 1 0 b (intB n ++ r) (by decide))]
    have e2 : b ++ 0 :: (intB n ++ r) = (b ++ [0]) ++ intB n ++ r := by simp
    rw [e2]
    have hne : (0 : UInt8).toNat = 0 := by decide
    simp only [hne, if_true]
    rw [Pr.bnd_ok (fw_int (b ++ [0]) r n h2)]
    simp [Pr.ret, constB]
theorem fw_many {α β : Type} {p : List UInt8 → Pr β} {B : α → List UInt8} {raw : α → β} {ok : α → Prop} (hp : Fw p B raw ok) (b r : List UInt8) (xs : List α) (h : ∀ x ∈ xs, ok x) : ∀ k, k ≤ xs.length →
    pMany (p (b ++ xs.flatMap B ++ r)) k (b.length : Int) = .ok ((xs.take k).map raw, ((b ++ (xs.take k).flatMap B).length : Int)) := by
  intro k
  induction k with
  | zero => intro _; simp [pMany, Pr.ret]
  | succ k ih =>
    intro hk
    have hlt : k < xs.length := by omega
    refine (pMany_ok (ih (by omega)) (v := raw xs[k]) (j := ((b ++ (xs.take (k + 1)).flatMap B).length : Int)) ?_).trans ?_
    · have e : b ++ xs.flatMap B ++ r = (b ++ (xs.take k).flatMap B) ++ B xs[k] ++ ((xs.drop (k + 1)).flatMap B ++ r) := by
        have e0 : xs.take k ++ xs[k] :: xs.drop (k + 1) = xs := by rw [← List.drop_eq_getElem_cons hlt, List.take_append_drop]
        have e1 := congrArg (List.flatMap B) e0
        rw [List.flatMap_append, List.flatMap_cons] at e1
        rw [← e1]
        simp only [List.append_assoc]
      rw [e, hp _ _ _ (h _ (List.getElem_mem hlt)), take_bytes B xs k hlt]
      simp [List.append_assoc]
    · rw [List.take_succ_eq_append_getElem hlt, List.map_append]; rfl
theorem fw_list {α β : Type} {p : List UInt8 → Pr β} {B : α → List UInt8} {raw : α → β} {ok : α → Prop} (hp : Fw p B raw ok) (m : Nat) (hm : m ≤ 1000000) : Fw (fun l => pList l (m : Int) (p l)) (listB B) (fun xs => xs.map raw) fun xs => xs.length ≤ m ∧ ∀ x ∈ xs, ok x := fun b r xs h => by
  have e : b ++ listB B xs ++ r = b ++ intB (xs.length : Int) ++ (xs.flatMap B ++ r) := by simp [listB, List.append_assoc]
  have h1 := fw_count (m : Int) (by omega) b (xs.flatMap B ++ r) (xs.length : Int) ⟨by omega, by omega⟩
  have h2 := fw_many hp (b ++ intB (xs.length : Int)) r xs h.2 xs.length (Nat.le_refl _)
  have e2 : b ++ intB (xs.length : Int) ++ xs.flatMap B ++ r = b ++ intB (xs.length : Int) ++ (xs.flatMap B ++ r) := by simp [List.append_assoc]
  rw [e2] at h2
  simp only [e]
  unfold pList
  rw [Pr.bnd_ok h1]
  simp only [id, Int.toNat_natCast]
  rw [h2, List.take_length]
  simp [listB, List.append_assoc]
theorem fw_fact : Fw pFact factB id fun f => okB f = true ∧ ∀ k ∈ f.ks, KIn k := fun b r f h => by
  obtain ⟨x1, x2, x3, ks⟩ := f
  obtain ⟨h, hk⟩ := h
  unfold okB okP at h
  simp only [Bool.and_eq_true, Bool.not_eq_true', decide_eq_false_iff_not, List.all_eq_true] at h hk
  obtain ⟨⟨⟨⟨h1, h2⟩, h3⟩, h4⟩, h5⟩ := h
  have a1 := fw_text b (textB x2 ++ textB x3 ++ listB constB ks ++ r) x1 (fits_le h1)
  have a2 := fw_text (b ++ textB x1) (textB x3 ++ listB constB ks ++ r) x2 (fits_le h2)
  have a3 := fw_text (b ++ textB x1 ++ textB x2) (listB constB ks ++ r) x3 (fits_le h3)
  have a4 := fw_list fw_const 48 (by omega) (b ++ textB x1 ++ textB x2 ++ textB x3) r ks ⟨by omega, fun k hm => ⟨h5 k hm, hk k hm⟩⟩
  simp only [List.append_assoc, id] at a1 a2 a3 a4
  unfold factB
  simp only [List.append_assoc]
  rw [pFact, Pr.bnd_ok a1, Pr.bnd_ok a2, Pr.bnd_ok a3]
  have : (((48 : Nat) : Int)) = 48 := rfl
  rw [this] at a4
  rw [Pr.bnd_ok a4]
  simp [Pr.ret]

/-- unlike facts have unlike bytes, and none is a beginning of another one's -/
theorem fact_apart {f g : F} (hf : okB f = true) (hg : okB g = true) (kf : ∀ k ∈ f.ks, KIn k) (kg : ∀ k ∈ g.ks, KIn k) (h : (factB f).take (min (factB f).length (factB g).length) = (factB g).take (min (factB f).length (factB g).length)) : f = g := by
  have key : ∀ {f g : F}, okB f = true → okB g = true → (∀ k ∈ f.ks, KIn k) → (∀ k ∈ g.ks, KIn k) → (factB f).length ≤ (factB g).length → (factB g).take (factB f).length = factB f → f = g := fun {f g} hf hg kf kg hl h => by
    have h1 := fw_fact [] ((factB g).drop (factB f).length) f ⟨hf, kf⟩
    have h2 := fw_fact [] [] g ⟨hg, kg⟩
    simp only [List.nil_append, List.append_nil, id] at h1 h2
    have e : factB f ++ (factB g).drop (factB f).length = factB g := by
      conv => lhs; lhs; rw [← h]
      exact List.take_append_drop _ _
    rw [e, h2] at h1
    simp only [Except.ok.injEq, Prod.mk.injEq] at h1
    exact h1.1.symm
  rcases Nat.le_total (factB f).length (factB g).length with hl | hl
  · rw [Nat.min_eq_left hl, List.take_length] at h
    exact key hf hg kf kg hl h.symm
  · rw [Nat.min_eq_right hl, List.take_length] at h
    exact (key hg hf kg kf hl h).symm
theorem fact_pos (f : F) : 0 < (factB f).length := by
  have := Pm.vb_pos (Pm.tb (f.at_.length : Int))
  unfold factB textB
  simp only [List.length_append]; omega

/-! rules -/
def rawT (t : Tm) : Rt := if kindT t = 0 then .none else if kindT t = 1 then .var t.v else .val t.k
def rawL (l : Lt) : Rl := ⟨rawT l.by_, l.pred, l.args.map rawT, rawT l.at_⟩
def rawR (r : Ru) : Rr := ⟨rawT r.home, r.pred, r.args.map rawT, rawT r.to_, r.body.map rawL⟩
theorem rawT_t {t : Tm} (h : mayT t = true) : (rawT t).t = t ∧ (rawT t).hollow = false := by
  have key : (rawT t).t = t → (rawT t).kind = kindT t → (rawT t).t = t ∧ (rawT t).hollow = false := fun h1 h2 => ⟨h1, by unfold Rt.hollow; rw [h1, h2]; simp⟩
  obtain ⟨v, k⟩ := t
  rcases kind_cases ⟨v, k⟩ with ⟨h1, h2⟩ | ⟨h1, h2⟩ | ⟨h1, h2⟩
  · refine key ?_ (by unfold rawT; rw [h1]; rfl)
    unfold rawT; rw [h1]
    simp only [kindT] at h1
    cases hv : v.isEmpty
    · simp [hv] at h1
    · cases hz : zeroK k
      · simp [hv, hz] at h1
      · have := (zeroK_iff k).1 hz
        subst this
        have : v = [] := by simpa using hv
        subst this; rfl
  · refine key ?_ (by unfold rawT; rw [h1]; rfl)
    unfold rawT; rw [h1]
    rw [h2] at h
    simp only [Bool.and_eq_true] at h
    have := (zeroK_iff k).1 h.2
    subst this; rfl
  · refine key ?_ (by unfold rawT; rw [h1]; rfl)
    unfold rawT; rw [h1]
    simp only [kindT] at h1
    cases hv : v.isEmpty
    · simp [hv] at h1
    · have : v = [] := by simpa using hv
      subst this; rfl
theorem fw_term : Fw pTerm termB rawT fun t => mayT t = true ∧ KIn t.k := fun b r t h => by
  obtain ⟨hm, hk⟩ := h
  rcases kind_cases t with ⟨h1, h2⟩ | ⟨h1, h2⟩ | ⟨h1, h2⟩
  · have e : termB t = [0] := by unfold termB; rw [h1]; rfl
    have e2 : rawT t = .none := by unfold rawT; rw [h1]; rfl
    rw [e, e2, List.append_assoc, List.singleton_append, pTerm, Pr.bnd_ok (kind_put 2 0 b r (by decide))]
    rfl
  · have e : termB t = [1] ++ textB t.v := by unfold termB; rw [h1]; rfl
    have e2 : rawT t = .var t.v := by unfold rawT; rw [h1]; rfl
    have e3 : b ++ ([1] ++ textB t.v) ++ r = b ++ 1 :: (textB t.v ++ r) := by simp
    have e4 : b ++ 1 :: (textB t.v ++ r) = (b ++ [1]) ++ textB t.v ++ r := by simp
    rw [h2, Bool.and_eq_true] at hm
    rw [e, e2, e3, pTerm, Pr.bnd_ok (kind_put 2 1 b (textB t.v ++ r) (by decide)), e4]
    have hne : ¬ (1 : UInt8).toNat = 0 := by decide
    simp only [hne, if_false]
    rw [show (if (1 : UInt8).toNat = 1 then (pText (b ++ [1] ++ textB t.v ++ r)).bnd fun s => Pr.ret (Rt.var s) else (pConst (b ++ [1] ++ textB t.v ++ r)).bnd fun c => Pr.ret (Rt.val c)) = (pText (b ++ [1] ++ textB t.v ++ r)).bnd fun s => Pr.ret (Rt.var s) from if_pos (by decide)]
    rw [Pr.bnd_ok (fw_text (b ++ [1]) r t.v (fits_le hm.1))]
    simp [Pr.ret]
  · have e : termB t = [2] ++ constB t.k := by unfold termB; rw [h1]; rfl
    have e2 : rawT t = .val t.k := by unfold rawT; rw [h1]; rfl
    have e3 : b ++ ([2] ++ constB t.k) ++ r = b ++ 2 :: (constB t.k ++ r) := by simp
    have e4 : b ++ 2 :: (constB t.k ++ r) = (b ++ [2]) ++ constB t.k ++ r := by simp
    rw [h2] at hm
    rw [e, e2, e3, pTerm, Pr.bnd_ok (kind_put 2 2 b (constB t.k ++ r) (by decide)), e4]
    have hne : ¬ (2 : UInt8).toNat = 0 := by decide
    have hne' : ¬ (2 : UInt8).toNat = 1 := by decide
    simp only [hne, hne', if_false]
    rw [Pr.bnd_ok (fw_const (b ++ [2]) r t.k ⟨hm, hk⟩)]
    simp [Pr.ret]
theorem fw_lit : Fw pLit litB rawL fun l => mayL l = true ∧ LIn l := fun b r x h => by
  obtain ⟨t, p, ts, u⟩ := x
  obtain ⟨h, hk1, hk2, hk3⟩ := h
  unfold mayL mayA at h
  simp only [Bool.and_eq_true, decide_eq_true_eq, List.all_eq_true] at h hk1 hk2 hk3
  obtain ⟨⟨h1, h2⟩, ⟨h3, h4⟩, h5⟩ := h
  have a1 := fw_term b (textB p ++ listB termB ts ++ termB u ++ r) t ⟨h1, hk1⟩
  have a2 := fw_text (b ++ termB t) (listB termB ts ++ termB u ++ r) p (fits_le h3)
  have a3 := fw_list fw_term 48 (by omega) (b ++ termB t ++ textB p) (termB u ++ r) ts ⟨h4, fun k hm => ⟨h5 k hm, hk3 k hm⟩⟩
  have a4 := fw_term (b ++ termB t ++ textB p ++ listB termB ts) r u ⟨h2, hk2⟩
  simp only [List.append_assoc, id] at a1 a2 a3 a4
  have : (((48 : Nat) : Int)) = 48 := rfl
  rw [this] at a3
  unfold litB
  simp only [List.append_assoc]
  rw [pLit, Pr.bnd_ok a1, Pr.bnd_ok a2, Pr.bnd_ok a3, Pr.bnd_ok a4]
  simp [Pr.ret, rawL]
theorem fw_rule : Fw pRule ruleB rawR fun x => mayR x = true ∧ RIn x := fun b r x h => by
  obtain ⟨t, p, ts, u, ls⟩ := x
  obtain ⟨h, hk1, hk2, hk3, hk4⟩ := h
  unfold mayR mayA at h
  simp only [Bool.and_eq_true, decide_eq_true_eq, List.all_eq_true] at h hk1 hk2 hk3 hk4
  obtain ⟨⟨⟨⟨h1, h2⟩, ⟨h3, h4⟩, h5⟩, h6⟩, h7⟩ := h
  have a1 := fw_term b (textB p ++ listB termB ts ++ termB u ++ listB litB ls ++ r) t ⟨h1, hk1⟩
  have a2 := fw_text (b ++ termB t) (listB termB ts ++ termB u ++ listB litB ls ++ r) p (fits_le h3)
  have a3 := fw_list fw_term 48 (by omega) (b ++ termB t ++ textB p) (termB u ++ listB litB ls ++ r) ts ⟨h4, fun k hm => ⟨h5 k hm, hk3 k hm⟩⟩
  have a4 := fw_term (b ++ termB t ++ textB p ++ listB termB ts) (listB litB ls ++ r) u ⟨h2, hk2⟩
  have a5 := fw_list fw_lit 5 (by omega) (b ++ termB t ++ textB p ++ listB termB ts ++ termB u) r ls ⟨h6, fun k hm => ⟨h7 k hm, hk4 k hm⟩⟩
  simp only [List.append_assoc, id] at a1 a2 a3 a4 a5
  have e1 : (((48 : Nat) : Int)) = 48 := rfl
  have e2 : (((5 : Nat) : Int)) = 5 := rfl
  rw [e1] at a3
  rw [e2] at a5
  unfold ruleB
  simp only [List.append_assoc]
  rw [pRule, Pr.bnd_ok a1, Pr.bnd_ok a2, Pr.bnd_ok a3, Pr.bnd_ok a4, Pr.bnd_ok a5]
  simp [Pr.ret, rawR]
theorem map_raw {α β : Type} {f : α → β} {g : β → α} {xs : List α} (h : ∀ x ∈ xs, g (f x) = x) : (xs.map f).map g = xs := by
  rw [List.map_map]
  conv => rhs; rw [← List.map_id xs]
  exact List.map_congr_left fun x hx => h x hx
theorem atom_may {p : List UInt8} {ts : List Tm} (h : mayA p ts = true) : (ts.map rawT).map Rt.t = ts ∧ (ts.map rawT).any Rt.hollow = false := by
  unfold mayA at h
  simp only [Bool.and_eq_true, List.all_eq_true] at h
  refine ⟨map_raw fun t ht => (rawT_t (h.2 t ht)).1, ?_⟩
  rw [List.any_eq_false]
  intro r hr
  obtain ⟨t, ht, rfl⟩ := List.mem_map.1 hr
  rw [(rawT_t (h.2 t ht)).2]; simp
theorem rawL_l {x : Lt} (h : mayL x = true) : (rawL x).l = x ∧ (rawL x).flag Rt.hollow = false := by
  unfold mayL at h
  simp only [Bool.and_eq_true] at h
  obtain ⟨⟨h1, h2⟩, h3⟩ := h
  obtain ⟨a1, a2⟩ := rawT_t h1
  obtain ⟨b1, b2⟩ := rawT_t h2
  obtain ⟨c1, c2⟩ := atom_may h3
  exact ⟨by unfold Rl.l rawL; simp only [a1, b1, c1], by unfold Rl.flag rawL; simp only [a2, b2, c2]; rfl⟩
theorem rawR_r {x : Ru} (h : mayR x = true) : (rawR x).r = x ∧ (rawR x).bad = false := by
  have hm := h
  unfold mayR at h
  simp only [Bool.and_eq_true, List.all_eq_true] at h
  obtain ⟨⟨⟨⟨h1, h2⟩, h3⟩, h4⟩, h5⟩ := h
  obtain ⟨a1, a2⟩ := rawT_t h1
  obtain ⟨b1, b2⟩ := rawT_t h2
  obtain ⟨c1, c2⟩ := atom_may h3
  have e1 : (x.body.map rawL).map Rl.l = x.body := map_raw fun l hl => (rawL_l (h5 l hl)).1
  have e2 : (x.body.map rawL).any (Rl.flag Rt.hollow) = false := by
    rw [List.any_eq_false]
    intro r hr
    obtain ⟨t, ht, rfl⟩ := List.mem_map.1 hr
    rw [(rawL_l (h5 t ht)).2]; simp
  have hr : (rawR x).r = x := by unfold Rr.r rawR; simp only [a1, b1, c1, e1]
  refine ⟨hr, ?_⟩
  unfold Rr.bad
  rw [hr, hm]
  unfold Rr.flag rawR
  simp only [a2, b2, c2, e2]; rfl
theorem fw_rule2 : Fw pRule2 ruleB rawR fun x => mayR x = true ∧ RIn x := fun b r x h => by
  rw [pRule2, Pr.bnd_ok (fw_rule b r x h), (rawR_r h.1).2]; rfl
theorem dR_put {l : List Ru} (hl : l.length ≤ 768) (hm : l.all mayR = true) (hk : ∀ r ∈ l, RIn r) : dR (progB l) = (l, 0) := by
  rw [List.all_eq_true] at hm
  have h := fw_list fw_rule2 768 (by omega) [] [] l ⟨hl, fun r hr => ⟨hm r hr, hk r hr⟩⟩
  simp only [List.nil_append, List.append_nil, List.length_nil] at h
  have e : (((768 : Nat) : Int)) = 768 := rfl
  rw [e] at h
  have e2 : (l.map rawR).map Rr.r = l := map_raw fun r hr => (rawR_r (hm r hr)).1
  unfold dR pProg progB
  have e3 : pList (listB ruleB l) 768 (pRule2 (listB ruleB l)) 0 = .ok (l.map rawR, ((listB ruleB l).length : Int)) := h
  rw [e3]
  simp only [if_true, e2]
theorem fR_put {f : F} (b r : List UInt8) (h : okB f = true) (hk : ∀ k ∈ f.ks, KIn k) : fR (b ++ factB f ++ r) (b.length : Int) = (f, ((b ++ factB f).length : Int), 0) := by
  unfold fR
  rw [fw_fact b r f ⟨h, hk⟩]
  simp only [id, h, cond_true]
end Go.Proofs.Ytghhdbkgibpebaa
