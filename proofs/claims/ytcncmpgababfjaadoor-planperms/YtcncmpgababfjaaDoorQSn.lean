/-
  The mathematics of layer 8: programs one behind the other; tokens at other places; tokens that are cut off. No program in this text.
-/
import Derived.Test.YtcncmpgababfjaaDoorQPa
namespace Go.Proofs.YtcncmpgababfjaaDoor
namespace Ps
open Lx

/-! tokens behind others -/
theorem Pre.ne {L L1 : List Tok} (h : Pre L L1) (h1 : L1 ≠ []) : L ≠ [] := by
  obtain ⟨x, rfl⟩ := h; simp [h1]
theorem need_ext {E E' : Nat} {k : Int} {s : List UInt8} {L L1 : List Tok} {u : Unit} (hk : k ≠ 0) (h : need E k s L = .ok (u, L1)) (M : List Tok) : need E' k s (L ++ M) = .ok (u, L1 ++ M) := by
  obtain ⟨t, rfl, ht⟩ := need_inv hk h
  show (if isT k s t = true then _ else _) = _
  rw [if_pos ht]; rfl
theorem term_ext {E E' : Nat} {L L1 : List Tok} {v : Tm} (h : term E L = .ok (v, L1)) (M : List Tok) : term E' (L ++ M) = .ok (v, L1 ++ M) := by
  obtain ⟨t, rfl, ht, rfl⟩ := term_inv h
  show (if mayT t = true then _ else _) = _
  rw [if_pos ht]; rfl
theorem word_ext {E E' : Nat} {L L1 : List Tok} {v : List UInt8} (h : word E L = .ok (v, L1)) (M : List Tok) : word E' (L ++ M) = .ok (v, L1 ++ M) := by
  obtain ⟨t, rfl, ht, rfl⟩ := word_inv h
  show (if mayW t = true then _ else _) = _
  rw [if_pos ht]; rfl
theorem args_ext {E E' : Nat} (M : List Tok) : ∀ {n : Nat} {L L1 : List Tok} {v : List Tm}, args E n L = .ok (v, L1) → L1 ≠ [] → args E' n (L ++ M) = .ok (v, L1 ++ M)
  | 0, L, L1, v, h, _ => by cases h
  | n + 1, L, L1, v, h, h1 => by
    obtain ⟨t, L2, h2, h⟩ := bnd_inv h
    rw [args, term_ext h2, bnd_ok]
    split at h
    · rename_i hc
      obtain ⟨ts, L3, h3, h⟩ := bnd_inv h
      cases h
      have hne := hd_ne (by decide) hc
      rw [hd_app M hne, if_pos hc, tail_app M hne, args_ext M h3 h1, bnd_ok]
    · rename_i hc
      cases h
      rw [hd_app M h1, if_neg hc]
theorem atom_ext {E E' : Nat} {L L1 : List Tok} {v : List UInt8 × List Tm} (h : atom E L = .ok (v, L1)) (M : List Tok) : atom E' (L ++ M) = .ok (v, L1 ++ M) := by
  obtain ⟨p, L2, h1, h⟩ := bnd_inv h
  obtain ⟨_, L3, h2, h⟩ := bnd_inv h
  unfold atom
  rw [word_ext h1, bnd_ok, need_ext (by decide) h2, bnd_ok]
  split at h
  · rename_i hc
    cases h
    have hne := hd_ne (by decide) hc
    rw [hd_app M hne, if_pos hc, tail_app M hne]
  · rename_i hc
    obtain ⟨ts, L4, h3, h⟩ := bnd_inv h
    obtain ⟨_, L5, h4, h⟩ := bnd_inv h
    cases h
    obtain ⟨x, hx, _⟩ := need_inv (by decide) h4
    have hne4 : L4 ≠ [] := by rw [hx]; simp
    rw [hd_app M ((args_pre h3).ne hne4), if_neg hc, args_ext M h3 hne4, bnd_ok, need_ext (by decide) h4, bnd_ok]
theorem opt_ext {E E' : Nat} {s : List UInt8} {L L1 : List Tok} {v : Tm} (h : opt E s L = .ok (v, L1)) (hne : L ≠ []) (M : List Tok) : opt E' s (L ++ M) = .ok (v, L1 ++ M) := by
  unfold opt at h ⊢
  rw [hd_app M hne]
  split at h
  · rename_i hc
    rw [if_pos hc, tail_app M hne, term_ext h]
  · rename_i hc
    cases h
    rw [if_neg hc]
theorem said_app {L : List Tok} (M : List Tok) (h : 2 ≤ L.length) : said (L ++ M) = said L := by
  match L, h with
  | a :: b :: L, _ => rfl
theorem by_ext {E E' : Nat} {L L1 : List Tok} {v : Tm} (h : by_ E L = .ok (v, L1)) (h2 : 2 ≤ L.length) (M : List Tok) : by_ E' (L ++ M) = .ok (v, L1 ++ M) := by
  unfold by_ at h ⊢
  rw [said_app M h2]
  split at h
  · rename_i hc
    obtain ⟨p, L2, h1, h⟩ := bnd_inv h
    obtain ⟨_, L3, h2, h⟩ := bnd_inv h
    cases h
    rw [if_pos hc, term_ext h1, bnd_ok, need_ext (by decide) h2, bnd_ok]
  · rename_i hc
    cases h
    rw [if_neg hc]
theorem atom_two {E : Nat} {L L1 : List Tok} {v : List UInt8 × List Tm} (h : atom E L = .ok (v, L1)) : 2 ≤ L.length := by
  obtain ⟨p, L2, h1, h⟩ := bnd_inv h
  obtain ⟨_, L3, h2, h⟩ := bnd_inv h
  obtain ⟨t, rfl, _⟩ := word_inv h1
  obtain ⟨t', rfl, _⟩ := need_inv (by decide) h2
  simp
theorem pre_len {L L1 : List Tok} (h : Pre L L1) : L1.length ≤ L.length := by
  obtain ⟨x, rfl⟩ := h; simp
theorem lit_ext {E E' : Nat} {L L1 : List Tok} {v : Lt} (h : lit E L = .ok (v, L1)) (hne : L1 ≠ []) (M : List Tok) : lit E' (L ++ M) = .ok (v, L1 ++ M) := by
  obtain ⟨b, L2, h1, h⟩ := bnd_inv h
  obtain ⟨p, L3, h2, h⟩ := bnd_inv h
  obtain ⟨a, L4, h3, h⟩ := bnd_inv h
  cases h
  have q := Nat.le_trans (atom_two h2) (pre_len (by_pre h1))
  unfold lit
  rw [by_ext h1 q, bnd_ok, atom_ext h2, bnd_ok, opt_ext h3 ((opt_pre h3).ne hne), bnd_ok]
theorem body_ext {E E' : Nat} (M : List Tok) : ∀ {n : Nat} {L L1 : List Tok} {v : List Lt}, body E n L = .ok (v, L1) → L1 ≠ [] → body E' n (L ++ M) = .ok (v, L1 ++ M)
  | 0, L, L1, v, h, _ => by cases h
  | n + 1, L, L1, v, h, h1 => by
    obtain ⟨t, L2, h2, h⟩ := bnd_inv h
    have hne2 : L2 ≠ [] := by
      split at h
      · rename_i hc; exact hd_ne (by decide) hc
      · cases h; exact h1
    rw [body, lit_ext h2 hne2, bnd_ok]
    split at h
    · rename_i hc
      obtain ⟨ts, L3, h3, h⟩ := bnd_inv h
      cases h
      rw [hd_app M hne2, if_pos hc, tail_app M hne2, body_ext M h3 h1, bnd_ok]
    · rename_i hc
      cases h
      rw [hd_app M h1, if_neg hc]
theorem need_ne {E : Nat} {k : Int} {s : List UInt8} {L L1 : List Tok} {u : Unit} (hk : k ≠ 0) (h : need E k s L = .ok (u, L1)) : L ≠ [] := by
  obtain ⟨t, rfl, _⟩ := need_inv hk h; simp
theorem rule_ext {E E' : Nat} {L L1 : List Tok} {r : Ru} (h : rule E L = .ok (r, L1)) (M : List Tok) : rule E' (L ++ M) = .ok (r, L1 ++ M) := by
  obtain ⟨h0, L2, L3, p, L4, t, L5, L6, b, L7, h1, h2, h3, h4, h5, h6, h7, rfl⟩ := rule_inv h
  have n5 := need_ne (by decide) h5
  have n7 := need_ne (by decide) h7
  exact rule_mk (term_ext h1 M) (need_ext (by decide) h2 M) (atom_ext h3 M) (opt_ext h4 ((opt_pre h4).ne n5) M) (need_ext (by decide) h5 M) (body_ext M h6 n7) (need_ext (by decide) h7 M)
def rprep (l : List Ru) : Rs → Rs
  | .ok m => .ok (l ++ m)
  | .error e => .error e
theorem rprep_nil (x : Rs) : rprep [] x = x := by cases x <;> rfl
theorem rprep_cons (r : Ru) (l : List Ru) (x : Rs) : rcons r (rprep l x) = rprep (r :: l) x := by cases x <;> rfl
theorem rprep_snoc (r : Ru) (l : List Ru) (x : Rs) : rprep l (rcons r x) = rprep (l ++ [r]) x := by cases x <;> simp [rprep, rcons]
theorem rules_join {E E' : Nat} (M : List Tok) : ∀ {n k : Nat} {L : List Tok} {l : List Ru}, rules E n L = .ok l → l.length ≤ k → rules E' k (L ++ M) = rprep l (rules E' (k - l.length) M)
  | 0, k, [], l, h, hk => by cases h; rw [rprep_nil]; rfl
  | 0, k, t :: L, l, h, hk => by cases h
  | n + 1, k, [], l, h, hk => by cases h; rw [rprep_nil]; rfl
  | n + 1, k, t :: L, l, h, hk => by
    rw [rules] at h
    unfold rthen at h
    split at h
    · cases h
    · rename_i r L1 h1
      cases h2 : rules E n L1 with
      | error x => rw [h2] at h; cases h
      | ok l' =>
        rw [h2] at h; cases h
        simp only [List.length_cons] at hk ⊢
        obtain ⟨k', rfl⟩ : ∃ k', k = k' + 1 := ⟨k - 1, by omega⟩
        rw [List.cons_append, rules, ← List.cons_append, rule_ext h1, rthen, rules_join M h2 (by omega), rprep_cons]
        congr 2; omega

/-! tokens at other places -/
def strip (t : Tok) : Tok := ⟨t.kind, t.text, t.n, 0⟩
def Sm (L L' : List Tok) : Prop := L.map strip = L'.map strip
theorem Sm.refl (L : List Tok) : Sm L L := Eq.refl (L.map strip)
theorem Sm.symm {L L' : List Tok} (h : Sm L L') : Sm L' L := Eq.symm h
theorem Sm.cases {L L' : List Tok} (h : Sm L L') : (L = [] ∧ L' = []) ∨ ∃ t R t' R', L = t :: R ∧ L' = t' :: R' ∧ strip t = strip t' ∧ Sm R R' := by
  unfold Sm at h
  match L, L', h with
  | [], [], _ => exact .inl ⟨rfl, rfl⟩
  | t :: R, t' :: R', h =>
    simp only [List.map_cons, List.cons.injEq] at h
    exact .inr ⟨t, R, t', R', rfl, rfl, h.1, h.2⟩
theorem Sm.hd {L L' : List Tok} (h : Sm L L') : strip (hd L) = strip (hd L') := by
  rcases h.cases with ⟨rfl, rfl⟩ | ⟨t, R, t', R', rfl, rfl, h1, _⟩
  · rfl
  · exact h1
theorem Sm.tail {L L' : List Tok} (h : Sm L L') : Sm L.tail L'.tail := by
  rcases h.cases with ⟨rfl, rfl⟩ | ⟨t, R, t', R', rfl, rfl, _, h2⟩
  · rfl
  · exact h2
theorem isT_sm {k : Int} {s : List UInt8} {t t' : Tok} (h : strip t = strip t') : isT k s t = isT k s t' := by
  simp only [strip, Tok.mk.injEq] at h
  unfold isT; rw [h.1, h.2.1]
theorem mayW_sm {t t' : Tok} (h : strip t = strip t') : mayW t = mayW t' := by
  simp only [strip, Tok.mk.injEq] at h
  unfold mayW; rw [h.1, h.2.1]
theorem mayT_sm {t t' : Tok} (h : strip t = strip t') : mayT t = mayT t' := by
  have hw := mayW_sm h
  simp only [strip, Tok.mk.injEq] at h
  unfold mayT; rw [h.1, h.2.1, hw]
theorem tm_sm {t t' : Tok} (h : strip t = strip t') : tm t = tm t' := by
  simp only [strip, Tok.mk.injEq] at h
  unfold tm; rw [h.1, h.2.1, h.2.2.1]
theorem text_sm {t t' : Tok} (h : strip t = strip t') : t.text = t'.text := by
  simp only [strip, Tok.mk.injEq] at h; exact h.2.1
def Rel {α : Type} : Rz α → Rz α → Prop
  | .ok (v, L), .ok (v', L') => v = v' ∧ Sm L L'
  | .error x, .error x' => x.2 = x'.2
  | _, _ => False
theorem Rel.ok {α : Type} {v : α} {L L' : List Tok} (h : Sm L L') : Rel (.ok (v, L)) (.ok (v, L')) := ⟨rfl, h⟩
theorem Rel.bnd {α β : Type} {r r' : Rz α} {f f' : α → List Tok → Rz β} (h : Rel r r') (hf : ∀ v L L', Sm L L' → Rel (f v L) (f' v L')) : Rel (bnd r f) (bnd r' f') := by
  match r, r', h with
  | .ok (v, L), .ok (v', L'), h =>
    obtain ⟨rfl, h2⟩ := h
    exact hf v L L' h2
  | .error x, .error x', h => exact h
theorem need_sm {E E' : Nat} {k : Int} {s : List UInt8} {L L' : List Tok} (h : Sm L L') : Rel (need E k s L) (need E' k s L') := by
  unfold need; rw [isT_sm h.hd]
  split
  · exact Rel.ok h.tail
  · rfl
theorem term_sm {E E' : Nat} {L L' : List Tok} (h : Sm L L') : Rel (term E L) (term E' L') := by
  unfold term; rw [mayT_sm h.hd, tm_sm h.hd]
  split
  · exact Rel.ok h.tail
  · rfl
theorem word_sm {E E' : Nat} {L L' : List Tok} (h : Sm L L') : Rel (word E L) (word E' L') := by
  unfold word; rw [mayW_sm h.hd, text_sm h.hd]
  split
  · exact Rel.ok h.tail
  · rfl
theorem many_sm {α : Type} {E E' : Nat} {L L' : List Tok} (h : Sm L L') : Rel (.error (many E L) : Rz α) (.error (many E' L')) := by
  show (many E L).2 = (many E' L').2
  unfold many; rw [mayT_sm h.hd]
theorem args_sm {E E' : Nat} : ∀ {n : Nat} {L L' : List Tok}, Sm L L' → Rel (args E n L) (args E' n L')
  | 0, L, L', h => many_sm h
  | n + 1, L, L', h => by
    rw [args, args]
    refine Rel.bnd (term_sm h) fun t L1 L1' h1 => ?_
    rw [isT_sm h1.hd]
    split
    · exact Rel.bnd (args_sm h1.tail) fun ts L2 L2' h2 => Rel.ok h2
    · exact Rel.ok h1
theorem atom_sm {E E' : Nat} {L L' : List Tok} (h : Sm L L') : Rel (atom E L) (atom E' L') := by
  unfold atom
  refine Rel.bnd (word_sm h) fun p L1 L1' h1 => Rel.bnd (need_sm h1) fun _ L2 L2' h2 => ?_
  rw [isT_sm h2.hd]
  split
  · exact Rel.ok h2.tail
  · exact Rel.bnd (args_sm h2) fun ts L3 L3' h3 => Rel.bnd (need_sm h3) fun _ L4 L4' h4 => Rel.ok h4
theorem opt_sm {E E' : Nat} {s : List UInt8} {L L' : List Tok} (h : Sm L L') : Rel (opt E s L) (opt E' s L') := by
  unfold opt; rw [isT_sm h.hd]
  split
  · exact term_sm h.tail
  · exact Rel.ok h
theorem by_sm {E E' : Nat} {L L' : List Tok} (h : Sm L L') : Rel (by_ E L) (by_ E' L') := by
  unfold by_ said; rw [mayW_sm h.hd, isT_sm h.tail.hd]
  split
  · exact Rel.bnd (term_sm h) fun p L1 L1' h1 => Rel.bnd (need_sm h1) fun _ L2 L2' h2 => Rel.ok h2
  · exact Rel.ok h
theorem lit_sm {E E' : Nat} {L L' : List Tok} (h : Sm L L') : Rel (lit E L) (lit E' L') :=
  Rel.bnd (by_sm h) fun _ _ _ h1 => Rel.bnd (atom_sm h1) fun _ _ _ h2 => Rel.bnd (opt_sm h2) fun _ _ _ h3 => Rel.ok h3
theorem body_sm {E E' : Nat} : ∀ {n : Nat} {L L' : List Tok}, Sm L L' → Rel (body E n L) (body E' n L')
  | 0, L, L', h => many_sm h
  | n + 1, L, L', h => by
    rw [body, body]
    refine Rel.bnd (lit_sm h) fun t L1 L1' h1 => ?_
    rw [isT_sm h1.hd]
    split
    · exact Rel.bnd (body_sm h1.tail) fun ts L2 L2' h2 => Rel.ok h2
    · exact Rel.ok h1
theorem rule_sm {E E' : Nat} {L L' : List Tok} (h : Sm L L') : Rel (rule E L) (rule E' L') :=
  Rel.bnd (term_sm h) fun _ _ _ h1 => Rel.bnd (need_sm h1) fun _ _ _ h2 => Rel.bnd (atom_sm h2) fun _ _ _ h3 => Rel.bnd (opt_sm h3) fun _ _ _ h4 => Rel.bnd (need_sm h4) fun _ _ _ h5 =>
    Rel.bnd (body_sm h5) fun _ _ _ h6 => Rel.bnd (need_sm h6) fun _ _ _ h7 => Rel.ok h7
def RelS : Rs → Rs → Prop
  | .ok l, .ok l' => l = l'
  | .error x, .error x' => x.2 = x'.2
  | _, _ => False
theorem RelS.cons {r : Ru} {x x' : Rs} (h : RelS x x') : RelS (rcons r x) (rcons r x') := by
  match x, x', h with
  | .ok l, .ok l', h => exact congrArg (r :: ·) h
  | .error _, .error _, h => exact h
theorem rules_sm {E E' : Nat} : ∀ {n : Nat} {L L' : List Tok}, Sm L L' → RelS (rules E n L) (rules E' n L')
  | n, L, L', h => by
    rcases h.cases with ⟨rfl, rfl⟩ | ⟨t, R, t', R', rfl, rfl, h1, h2⟩
    · rw [rules_nil, rules_nil]; rfl
    · cases n with
      | zero => exact many_sm (α := Unit) h
      | succ n =>
        rw [rules, rules]
        have hr := rule_sm (E := E) (E' := E') h
        generalize rule E (t :: R) = x at hr
        generalize rule E' (t' :: R') = x' at hr
        match x, x', hr with
        | .ok (v, L1), .ok (v', L1'), hr =>
          obtain ⟨rfl, h3⟩ := hr
          exact RelS.cons (rules_sm h3)
        | .error x, .error x', h => exact h
theorem RelS.err {x x' : Rs} (h : RelS x x') : err x = err x' ∧ rs x = rs x' := by
  match x, x', h with
  | .ok l, .ok l', h => exact ⟨rfl, h⟩
  | .error _, .error _, h => exact ⟨h, rfl⟩
theorem sm_shift (n : Nat) (M : List Tok) : Sm (M.map (sh n)) M := by
  unfold Sm; rw [List.map_map]; rfl

/-! two programs -/
theorem rules_over {E E' : Nat} {X : List Tok → Prop} (hX : ∀ L L1, Pre L L1 → X L → X L1) : ∀ {n k : Nat} {L : List Tok} {l : List Ru}, rules E n L = .ok l → k < l.length → X L → ∃ t R, X (t :: R) ∧ rules E' k L = .error (t.pl, 81)
  | 0, k, [], l, h, hk, _ => by cases h; simp at hk
  | 0, k, t :: L, l, h, hk, _ => by cases h
  | n + 1, k, [], l, h, hk, _ => by cases h; simp at hk
  | n + 1, k, t :: L, l, h, hk, hx => by
    rw [rules] at h
    unfold rthen at h
    split at h
    · cases h
    · rename_i r L1 h1
      cases h2 : rules E n L1 with
      | error x => rw [h2] at h; cases h
      | ok l' =>
        rw [h2] at h; cases h
        cases k with
        | zero =>
          refine ⟨t, L, hx, ?_⟩
          show Except.error (many E' (t :: L)) = _
          unfold many; rw [if_pos (rule_begins h1)]; rfl
        | succ k =>
          obtain ⟨u, R, q1, q2⟩ := rules_over (E' := E') hX h2 (by simpa using hk) (hX _ _ (rule_pre h1) hx)
          refine ⟨u, R, q1, ?_⟩
          have e := rule_ext (E' := E') h1 []
          rw [List.append_nil, List.append_nil] at e
          rw [rules, e, rthen, q2]; rfl
theorem prog_join {a b : List UInt8} {l m : List Ru} (ha : prog a = .ok l) (hb : prog b = .ok m) (h : a.length + 1 + b.length ≤ 4096) :
    (l.length + m.length ≤ 16 → prog (a ++ 10 :: b) = .ok (l ++ m)) ∧ (16 < l.length + m.length → ∃ p, a.length < p ∧ prog (a ++ 10 :: b) = .error (p, 81)) := by
  have fl := prog_few ha
  unfold prog at ha hb
  cases h1 : ans a with
  | error x => rw [h1] at ha; cases ha
  | ok L =>
    rw [h1] at ha
    cases h2 : ans b with
    | error x => rw [h2] at hb; cases hb
    | ok M =>
      rw [h2] at hb
      simp only at ha hb
      have hj := ans_join h1 h2 h
      have e : prog (a ++ 10 :: b) = rprep l (rules (a ++ 10 :: b).length (16 - l.length) (M.map (sh (a.length + 1)))) := by
        unfold prog; rw [hj]; exact rules_join _ ha fl
      generalize (a ++ 10 :: b).length = E at e
      have hs := rules_sm (E := b.length) (E' := E) (n := 16) (sm_shift (a.length + 1) M).symm
      rw [hb] at hs
      generalize hM : M.map (sh (a.length + 1)) = M' at hs e
      cases h3 : rules E 16 M' with
      | error x => rw [h3] at hs; exact absurd hs (by simp [RelS])
      | ok m' =>
        rw [h3] at hs
        have hs : m = m' := hs
        subst hs
        refine ⟨fun hle => ?_, fun hgt => ?_⟩
        · have q := rules_join (E' := E) [] h3 (k := 16 - l.length) (by omega)
          rw [List.append_nil, rules_nil] at q
          rw [e, q]; simp [rprep]
        · have hall : ∀ t ∈ M', a.length < t.pl := by
            intro t ht
            rw [← hM] at ht
            obtain ⟨u, _, rfl⟩ := List.mem_map.1 ht
            show a.length < a.length + 1 + u.pl
            omega
          obtain ⟨t, R, q1, q2⟩ := rules_over (E' := E) (X := fun L => ∀ t ∈ L, a.length < t.pl) (fun L L1 p hx t ht => hx t (p.mem ht)) h3 (k := 16 - l.length) (by omega) hall
          exact ⟨t.pl, q1 t (by simp), by rw [e, q2]; rfl⟩

/-! tokens that are cut off -/
def CutS {α : Type} (E : Nat) (B : List Tok) (v : α) (L1 : List Tok) (r : Rz α) : Prop := (∃ A1, L1 = A1 ++ B ∧ r = .ok (v, A1)) ∨ r = .error (E, 80)
def Dry {α : Type} (E : Nat) (r : Rz α) : Prop := (∃ v, r = .ok (v, [])) ∨ r = .error (E, 80)
def Cut {α : Type} (E : Nat) (B : List Tok) (v : α) (L1 : List Tok) (r : Rz α) : Prop := (∃ A1, A1 ≠ [] ∧ L1 = A1 ++ B ∧ r = .ok (v, A1)) ∨ Dry E r
theorem CutS.cut {α : Type} {E : Nat} {B : List Tok} {v : α} {L1 : List Tok} {r : Rz α} (h : CutS E B v L1 r) : Cut E B v L1 r := by
  rcases h with ⟨A1, h1, h2⟩ | h
  · cases A1 with
    | nil => exact .inr (.inl ⟨v, h2⟩)
    | cons a A => exact .inl ⟨a :: A, by simp, h1, h2⟩
  · exact .inr (.inr h)
theorem Cut.bnd {α β : Type} {E : Nat} {B : List Tok} {v : α} {L1 : List Tok} {r : Rz α} {f : α → List Tok → Rz β} {u : β} {M : List Tok} (h : Cut E B v L1 r) (hf : ∀ A1, A1 ≠ [] → L1 = A1 ++ B → Cut E B u M (f v A1)) (hd : ∀ v', Dry E (f v' [])) : Cut E B u M (bnd r f) := by
  rcases h with ⟨A1, h1, h2, rfl⟩ | ⟨v', rfl⟩ | rfl
  · exact hf A1 h1 h2
  · exact .inr (hd v')
  · exact .inr (.inr rfl)
theorem CutS.bnd {α β : Type} {E : Nat} {B : List Tok} {v : α} {L1 : List Tok} {r : Rz α} {f : α → List Tok → Rz β} {u : β} {M : List Tok} (h : CutS E B v L1 r) (hf : ∀ A1, L1 = A1 ++ B → CutS E B u M (f v A1)) : CutS E B u M (bnd r f) := by
  rcases h with ⟨A1, h2, rfl⟩ | rfl
  · exact hf A1 h2
  · exact .inr rfl
theorem Cut.bndS {α β : Type} {E : Nat} {B : List Tok} {v : α} {L1 : List Tok} {r : Rz α} {f : α → List Tok → Rz β} {u : β} {M : List Tok} (h : Cut E B v L1 r) (hf : ∀ A1, A1 ≠ [] → L1 = A1 ++ B → CutS E B u M (f v A1)) (hd : ∀ v', f v' [] = .error (E, 80)) : CutS E B u M (Ps.bnd r f) := by
  rcases h with ⟨A1, h1, h2, rfl⟩ | ⟨v', rfl⟩ | rfl
  · exact hf A1 h1 h2
  · exact .inr (hd v')
  · exact .inr rfl
theorem need_dry (E : Nat) {k : Int} (s : List UInt8) (hk : k ≠ 0) : need E k s [] = .error (E, 80) := by
  unfold need
  rw [if_neg fun h => absurd rfl (hd_ne hk h)]; rfl
theorem term_dry (E : Nat) : term E [] = .error (E, 80) := rfl
theorem word_dry (E : Nat) : word E [] = .error (E, 80) := rfl
theorem need_cut {E E' : Nat} {k : Int} {s : List UInt8} {A B L1 : List Tok} {u : Unit} (hk : k ≠ 0) (h : need E k s (A ++ B) = .ok (u, L1)) : CutS E' B u L1 (need E' k s A) := by
  obtain ⟨t, h1, h2⟩ := need_inv hk h
  cases A with
  | nil => exact .inr (need_dry E' s hk)
  | cons a A =>
    simp only [List.cons_append, List.cons.injEq] at h1
    obtain ⟨rfl, rfl⟩ := h1
    exact .inl ⟨A, rfl, by show (if isT k s a = true then _ else _) = _; rw [if_pos h2]; rfl⟩
theorem term_cut {E E' : Nat} {A B L1 : List Tok} {v : Tm} (h : term E (A ++ B) = .ok (v, L1)) : CutS E' B v L1 (term E' A) := by
  obtain ⟨t, h1, h2, rfl⟩ := term_inv h
  cases A with
  | nil => exact .inr (term_dry E')
  | cons a A =>
    simp only [List.cons_append, List.cons.injEq] at h1
    obtain ⟨rfl, rfl⟩ := h1
    exact .inl ⟨A, rfl, by show (if mayT a = true then _ else _) = _; rw [if_pos h2]; rfl⟩
theorem word_cut {E E' : Nat} {A B L1 : List Tok} {v : List UInt8} (h : word E (A ++ B) = .ok (v, L1)) : CutS E' B v L1 (word E' A) := by
  obtain ⟨t, h1, h2, rfl⟩ := word_inv h
  cases A with
  | nil => exact .inr (word_dry E')
  | cons a A =>
    simp only [List.cons_append, List.cons.injEq] at h1
    obtain ⟨rfl, rfl⟩ := h1
    exact .inl ⟨A, rfl, by show (if mayW a = true then _ else _) = _; rw [if_pos h2]; rfl⟩
theorem comma_dry : isT 5 [44] (hd []) = true → False := by decide
theorem args_cut {E E' : Nat} {B : List Tok} : ∀ {n : Nat} {A L1 : List Tok} {v : List Tm}, args E n (A ++ B) = .ok (v, L1) → Cut E' B v L1 (args E' n A)
  | 0, A, L1, v, h => by cases h
  | n + 1, A, L1, v, h => by
    obtain ⟨t, L2, h2, h⟩ := bnd_inv h
    rw [args]
    rcases term_cut (E' := E') h2 with ⟨A2, rfl, e⟩ | e
    · rw [e, bnd_ok]
      by_cases hA : A2 = []
      · subst hA
        rw [if_neg comma_dry]
        exact .inr (.inl ⟨_, rfl⟩)
      · rw [hd_app B hA] at h
        split at h
        · rename_i hc
          rw [tail_app B hA] at h
          obtain ⟨ts, L3, h3, h⟩ := bnd_inv h
          cases h
          rw [if_pos hc]
          exact Cut.bnd (args_cut h3) (fun A1 n1 e1 => .inl ⟨A1, n1, e1, rfl⟩) (fun v' => .inl ⟨_, rfl⟩)
        · rename_i hc
          cases h
          rw [if_neg hc]
          exact .inl ⟨A2, hA, rfl, rfl⟩
    · rw [e]; exact .inr (.inr rfl)
theorem args_dry (E n : Nat) : args E n [] = .error (E, 80) := by cases n <;> rfl
theorem atom_cut {E E' : Nat} {A B L1 : List Tok} {v : List UInt8 × List Tm} (h : atom E (A ++ B) = .ok (v, L1)) : CutS E' B v L1 (atom E' A) := by
  obtain ⟨p, L2, h1, h⟩ := bnd_inv h
  obtain ⟨_, L3, h2, h⟩ := bnd_inv h
  unfold atom
  refine CutS.bnd (word_cut h1) fun A1 e1 => ?_
  subst e1
  refine CutS.bnd (need_cut (by decide) h2) fun A2 e2 => ?_
  subst e2
  by_cases hA : A2 = []
  · subst hA
    rw [if_neg (by decide), args_dry]; exact .inr rfl
  · rw [hd_app B hA] at h
    split at h
    · rename_i hc
      rw [tail_app B hA] at h
      cases h
      rw [if_pos hc]; exact .inl ⟨_, rfl, rfl⟩
    · rename_i hc
      obtain ⟨ts, L4, h3, h⟩ := bnd_inv h
      obtain ⟨_, L5, h4, h⟩ := bnd_inv h
      cases h
      rw [if_neg hc]
      refine Cut.bndS (args_cut h3) ?_ ?_
      rotate_left
      · intro v'; rw [need_dry E' _ (by decide)]; rfl
      intro A4 _ e4
      subst e4
      exact CutS.bnd (need_cut (by decide) h4) fun A5 e5 => .inl ⟨A5, e5, rfl⟩
theorem atom_dry (E : Nat) : atom E [] = .error (E, 80) := rfl
theorem opt_cut {E E' : Nat} {s : List UInt8} {A B L1 : List Tok} {v : Tm} (h : opt E s (A ++ B) = .ok (v, L1)) : Cut E' B v L1 (opt E' s A) := by
  by_cases hA : A = []
  · subst hA
    refine .inr (.inl ⟨t0, ?_⟩)
    unfold opt; rw [if_neg fun h => absurd rfl (hd_ne (by decide) h)]
  · unfold opt at h ⊢
    rw [hd_app B hA] at h
    split at h
    · rename_i hc
      rw [tail_app B hA] at h
      rw [if_pos hc]
      exact (term_cut h).cut
    · rename_i hc
      cases h
      rw [if_neg hc]; exact .inl ⟨A, hA, rfl, rfl⟩
theorem opt_dry (E : Nat) (s : List UInt8) : opt E s [] = .ok (t0, []) := by
  unfold opt; rw [if_neg fun h => absurd rfl (hd_ne (by decide) h)]
theorem lit_dry (E : Nat) : lit E [] = .error (E, 80) := rfl
theorem lit_cut {E E' : Nat} {A B L1 : List Tok} {v : Lt} (h : lit E (A ++ B) = .ok (v, L1)) : Cut E' B v L1 (lit E' A) := by
  obtain ⟨b, L2, h1, h⟩ := bnd_inv h
  obtain ⟨p, L3, h2, h⟩ := bnd_inv h
  obtain ⟨a, L4, h3, h⟩ := bnd_inv h
  cases h
  by_cases hA : A = []
  · subst hA; rw [lit_dry]; exact .inr (.inr rfl)
  have rest : ∀ A1 b', L2 = A1 ++ B → b' = b → Cut E' B (⟨b, p.1, p.2, a⟩ : Lt) L1 (Ps.bnd (atom E' A1) fun p L2 => Ps.bnd (opt E' at_ L2) fun a L3 => .ok (⟨b', p.1, p.2, a⟩, L3)) := by
    intro A1 b' e1 e2
    subst e1 e2
    refine Cut.bnd (atom_cut h2).cut (fun A2 _ e2 => ?_) (fun v' => by rw [opt_dry]; exact .inl ⟨_, rfl⟩)
    subst e2
    exact Cut.bnd (opt_cut h3) (fun A3 n3 e3 => .inl ⟨A3, n3, e3, rfl⟩) (fun v' => .inl ⟨_, rfl⟩)
  unfold lit by_
  unfold by_ at h1
  by_cases hs : said A = true
  · rw [if_pos hs]
    have hs' : said (A ++ B) = true := by
      match A, hA, hs with
      | [x], _, hs =>
        have hm : mayW x = false := by
          have : (!mayW x || false) = true := hs
          simpa using this
        show (!mayW x || _) = true
        rw [hm]; rfl
      | x :: y :: A, _, hs => exact hs
    rw [if_pos hs'] at h1
    obtain ⟨q, L5, h4, h1⟩ := bnd_inv h1
    obtain ⟨_, L6, h5, h1⟩ := bnd_inv h1
    cases h1
    have hq : CutS E' B b L2 (Ps.bnd (term E' A) fun t L1 => Ps.bnd (need E' 1 says L1) fun _ L2 => .ok (t, L2)) := by
      refine CutS.bnd (term_cut h4) fun A1 e1 => ?_
      subst e1
      exact CutS.bnd (need_cut (by decide) h5) fun A2 e2 => .inl ⟨A2, e2, rfl⟩
    rcases hq with ⟨A1, e1, e2⟩ | e2
    · rw [e2, bnd_ok]; exact rest A1 b e1 rfl
    · rw [e2]; exact .inr (.inr rfl)
  · rw [if_neg hs, bnd_ok]
    by_cases hl : 2 ≤ A.length
    · rw [said_app B hl, if_neg hs] at h1
      cases h1
      exact rest A t0 rfl rfl
    · obtain ⟨x, rfl⟩ : ∃ x, A = [x] := by
        match A, hA, hl with
        | [x], _, _ => exact ⟨x, rfl⟩
        | x :: y :: A, _, hl => simp at hl
      have hm : mayW x = true := by
        have : ¬ ((!mayW x || false) = true) := hs
        simpa using this
      refine .inr (.inr ?_)
      have e : atom E' [x] = .error (E', 80) := by
        unfold atom word
        show Ps.bnd (if mayW x = true then _ else _) _ = _
        rw [if_pos hm]; rfl
      rw [e]; rfl
theorem body_cut {E E' : Nat} {B : List Tok} : ∀ {n : Nat} {A L1 : List Tok} {v : List Lt}, body E n (A ++ B) = .ok (v, L1) → Cut E' B v L1 (body E' n A)
  | 0, A, L1, v, h => by cases h
  | n + 1, A, L1, v, h => by
    obtain ⟨t, L2, h2, h⟩ := bnd_inv h
    rw [body]
    refine Cut.bnd (lit_cut h2) (fun A2 hA e => ?_) (fun v' => by rw [if_neg comma_dry]; exact .inl ⟨_, rfl⟩)
    subst e
    rw [hd_app B hA] at h
    split at h
    · rename_i hc
      rw [tail_app B hA] at h
      obtain ⟨ts, L3, h3, h⟩ := bnd_inv h
      cases h
      rw [if_pos hc]
      exact Cut.bnd (body_cut h3) (fun A1 n1 e1 => .inl ⟨A1, n1, e1, rfl⟩) (fun v' => .inl ⟨_, rfl⟩)
    · rename_i hc
      cases h
      rw [if_neg hc]
      exact .inl ⟨A2, hA, rfl, rfl⟩
theorem body_dry (E n : Nat) : body E n [] = .error (E, 80) := by cases n <;> rfl
theorem rule_cut {E E' : Nat} {A B L1 : List Tok} {r : Ru} (h : rule E (A ++ B) = .ok (r, L1)) : CutS E' B r L1 (rule E' A) := by
  obtain ⟨h0, L2, L3, p, L4, t, L5, L6, b, L7, h1, h2, h3, h4, h5, h6, h7, rfl⟩ := rule_inv h
  unfold rule
  refine CutS.bnd (term_cut h1) fun A2 e => ?_
  subst e
  refine CutS.bnd (need_cut (by decide) h2) fun A3 e => ?_
  subst e
  refine CutS.bnd (atom_cut h3) fun A4 e => ?_
  subst e
  refine Cut.bndS (opt_cut h4) ?_ ?_
  rotate_left
  · intro v'; rw [need_dry E' _ (by decide)]; rfl
  intro A5 _ e
  subst e
  refine CutS.bnd (need_cut (by decide) h5) fun A6 e => ?_
  subst e
  refine Cut.bndS (body_cut h6) ?_ ?_
  rotate_left
  · intro v'; rw [need_dry E' _ (by decide)]; rfl
  intro A7 _ e
  subst e
  exact CutS.bnd (need_cut (by decide) h7) fun A8 e => .inl ⟨A8, e, rfl⟩
theorem rules_cut {E E' : Nat} {B : List Tok} (hB : B ≠ []) : ∀ {n : Nat} {A : List Tok} {l : List Ru}, rules E n (A ++ B) = .ok l → (∃ m, rules E' n A = .ok m ∧ m.length < l.length ∧ m = l.take m.length) ∨ rules E' n A = .error (E', 80)
  | n, [], l, h => by
    refine .inl ⟨[], rules_nil E' n, ?_, rfl⟩
    cases n with
    | zero => rw [List.nil_append, rules_zero hB] at h; cases h
    | succ n =>
      rw [List.nil_append, rules_succ hB] at h
      unfold rthen at h
      split at h
      · cases h
      · rename_i r L1 h1
        cases h2 : rules E n L1 with
        | error x => rw [h2] at h; cases h
        | ok l' => rw [h2] at h; cases h; simp
  | 0, a :: A, l, h => by cases h
  | n + 1, a :: A, l, h => by
    rw [List.cons_append, rules, ← List.cons_append] at h
    unfold rthen at h
    split at h
    · cases h
    · rename_i r L1 h1
      cases h2 : rules E n L1 with
      | error x => rw [h2] at h; cases h
      | ok l' =>
        rw [h2] at h; cases h
        rw [rules]
        rcases rule_cut (E' := E') h1 with ⟨A1, rfl, e⟩ | e
        · rw [e, rthen]
          rcases rules_cut (E' := E') hB h2 with ⟨m, q1, q2, q3⟩ | q
          · refine .inl ⟨r :: m, by rw [q1]; rfl, by simpa using q2, ?_⟩
            simp only [List.length_cons, List.take_succ_cons]
            rw [← q3]
          · rw [q]; exact .inr rfl
        · rw [e]; exact .inr rfl
end Ps
end Go.Proofs.YtcncmpgababfjaaDoor

/-
  The mathematics of texts that are cut off ahead of a token, and of texts with blanks and remarks more between their tokens. No program in this text.
-/
namespace Go.Proofs.YtcncmpgababfjaaDoor
namespace Lx
open Go.Lib

/-! a text that is cut off -/
theorem run_cut {p : UInt8 → Bool} {A m : List UInt8} {i : Nat} (hi : i ≤ A.length) (h : run p (A ++ m) i ≤ A.length) : run p A i = run p (A ++ m) i := by
  obtain ⟨h1, h2⟩ := run_pre (p := p) (l := A) (m := m) A.length i (by omega) hi
  rcases Nat.lt_or_ge (run p A i) A.length with h3 | h3
  · exact (h1 h3).symm
  · have := h2 h3
    have := run_le p hi
    omega
theorem one_cut {A m : List UInt8} {i e : Nat} {t : Tok} (h : one (A ++ m) i = some (t, e)) (hl : i < (A ++ m).length) (he : e ≤ A.length) : one A i = some (t, e) := by
  have hg := one_gt hl h
  have hi : i < A.length := by omega
  rw [one_at hl, at_app hi] at h
  rw [one_at hi]
  unfold oneC at h ⊢
  have hw : ∀ k, word k (A ++ m) i = some (t, e) → word k A i = some (t, e) := fun k hk => by
    unfold word at hk ⊢
    simp only [Option.some.injEq, Prod.mk.injEq] at hk
    have hr := run_cut (p := inner) (A := A) (m := m) (i := i) (by omega) (by omega)
    rw [hr, ← sub_app (m := m) (by omega) (by omega)]
    simp only [Option.some.injEq, Prod.mk.injEq]; exact hk
  split at h
  · rename_i hc; rw [if_pos hc]; exact hw 1 h
  rename_i hc1
  rw [if_neg hc1]
  split at h
  · rename_i hc; rw [if_pos hc]; exact hw 2 h
  rename_i hc2
  rw [if_neg hc2]
  split at h
  · rename_i hc
    rw [if_pos hc]
    unfold number at h ⊢
    have hf : first (A ++ m) i = first A i := by unfold first; rw [isNeg_app hi]
    have hl := first_lt hi
    rw [hf, isNeg_app hi] at h
    have he' : run digit (A ++ m) (first A i) = e := by
      rw [Option.map_eq_some_iff] at h
      obtain ⟨v, _, hv⟩ := h
      simp only [Prod.mk.injEq] at hv; exact hv.2
    have hr := run_cut (p := digit) (A := A) (m := m) (i := first A i) hl (by omega)
    rw [hr, ← sub_app (m := m) hl (by omega)]; exact h
  rename_i hc3
  rw [if_neg hc3]
  split at h
  · rename_i hc
    rw [if_pos hc]
    unfold quote at h ⊢
    split at h
    · rename_i hq
      simp only [Option.some.injEq, Prod.mk.injEq] at h
      have hr := run_cut (p := plain) (A := A) (m := m) (i := i + 1) hi (by omega)
      rw [hr, ← get_app (m := m) (by omega), if_pos hq, ← sub_app (m := m) hi (by omega)]
      simp only [Option.some.injEq, Prod.mk.injEq]; exact h
    · cases h
  · rename_i hc
    rw [if_neg hc]
    unfold sign at h ⊢
    split at h
    · rename_i hq
      simp only [Option.some.injEq, Prod.mk.injEq] at h
      rw [get_app (by omega)] at hq
      rw [if_pos hq]
      simp only [Option.some.injEq, Prod.mk.injEq]; exact h
    · rename_i hq
      have hq' : ¬ (A[i].toNat = 58 ∧ A[i + 1]?.map (·.toNat) = some 45) := fun hh => by
        refine hq ⟨hh.1, ?_⟩
        rcases Nat.lt_or_ge (i + 1) A.length with h1 | h1
        · rw [get_app h1]; exact hh.2
        · rw [List.getElem?_eq_none h1] at hh; simp at hh
      rw [if_neg hq']; exact h
theorem skip_cut {A m : List UInt8} {e : Nat} (he : e ≤ A.length) (h : skip (A ++ m) e ≤ A.length) : skip A e = skip (A ++ m) e := by
  obtain ⟨h1, h2⟩ := skip_app (m := m) he
  have hle := skip_le he
  rcases Nat.lt_or_ge (skip A e) A.length with h3 | h3
  · exact (h1 h3).symm
  · obtain ⟨n, hn⟩ := h2 h3
    omega
theorem tks_short {l : List UInt8} {i e : Nat} {t : Tok} {R : List Tok} (h : tks l i = .ok (t :: R)) (ho : one l i = some (t, e)) (hi : i < l.length) : ¬ 32 < t.text.length := fun h32 => by
  rw [tks_long hi ho h32] at h; cases h
theorem tks_rise {l : List UInt8} : ∀ (M : List Tok) (e : Nat), tks l (skip l e) = .ok M → ∀ t ∈ M, e ≤ t.pl
  | [], _, _, t, ht => by simp at ht
  | u :: R, e, h, t, ht => by
    obtain ⟨hi, e', ho, hn⟩ := tks_inv h
    have hp := one_pl ho
    have hg := one_gt hi ho
    have hs := le_skip l e
    rcases List.mem_cons.1 ht with rfl | ht
    · omega
    · have := tks_rise R e' hn t ht
      omega
theorem tks_cut {A m : List UInt8} {t : Tok} {R : List Tok} (ht : t.pl = A.length) : ∀ (L : List Tok) (e : Nat), e ≤ A.length → tks (A ++ m) (skip (A ++ m) e) = .ok (L ++ t :: R) → tks A (skip A e) = .ok L
  | [], e, he, h => by
    obtain ⟨hi, e', ho, hn⟩ := tks_inv h
    have hp := one_pl ho
    rw [skip_cut (m := m) he (by omega)]
    exact tks_end (by omega)
  | u :: L, e, he, h => by
    obtain ⟨hi, e', ho, hn⟩ := tks_inv h
    have hsh := tks_short h ho hi
    have hr := tks_rise _ _ hn t (by simp)
    have hg := one_gt hi ho
    have hs : skip A e = skip (A ++ m) e := skip_cut he (by omega)
    have ho' := one_cut ho hi (by omega)
    have hi' : skip (A ++ m) e < A.length := by omega
    rw [hs, tks_cons hi' ho' hsh, tks_cut ht L e' (by omega) hn]; rfl
theorem ans_cut {l : List UInt8} {L : List Tok} {k : Nat} (h : ans l = .ok L) (hk : k < L.length) : ans (l.take L[k].pl) = .ok (L.take k) := by
  have hp := ans_pl h L[k] (List.getElem_mem hk)
  unfold ans at h
  split at h
  · cases h
  rename_i hl
  have hA : (l.take L[k].pl).length = L[k].pl := by rw [List.length_take]; omega
  unfold ans
  rw [if_neg (by omega)]
  refine tks_cut (m := l.drop L[k].pl) (t := L[k]) (R := L.drop (k + 1)) hA.symm (L.take k) 0 (Nat.zero_le _) ?_
  rw [List.take_append_drop, ← List.drop_eq_getElem_cons hk, List.take_append_drop]; exact h

/-! blanks and remarks more -/
theorem one_some_app {l m : List UInt8} {i e : Nat} {t : Tok} (hm : ∀ c, m.head? = some c → inner c = false ∧ c.toNat ≠ 45) (h : i < l.length) (h1 : one l i = some (t, e)) : one (l ++ m) i = some (t, e) := by
  rw [one_at (l := l ++ m) (by rw [List.length_append]; omega), at_app h]
  rw [one_at h] at h1
  unfold oneC at h1 ⊢
  have hw : ∀ k, word k (l ++ m) i = word k l i := fun k => by
    unfold word
    rw [run_app (fun c hc => (hm c hc).1) l.length i (by omega) (by omega), sub_app (by omega) (run_le inner (by omega))]
  rw [hw, hw]
  split at h1
  · rename_i hc; rw [if_pos hc]; exact h1
  rename_i hc1
  rw [if_neg hc1]
  split at h1
  · rename_i hc; rw [if_pos hc]; exact h1
  rename_i hc2
  rw [if_neg hc2]
  split at h1
  · rename_i hc
    rw [if_pos hc]
    have hf : first (l ++ m) i = first l i := by unfold first; rw [isNeg_app h]
    have hl := first_lt h
    have hr : run digit (l ++ m) (first l i) = run digit l (first l i) := run_app (fun c hc => digit_inner (hm c hc).1) l.length _ (by omega) hl
    unfold number at h1 ⊢
    rw [hf, isNeg_app h, hr, sub_app hl (run_le digit hl)]; exact h1
  rename_i hc3
  rw [if_neg hc3]
  split at h1
  · rename_i hc
    rw [if_pos hc]
    unfold quote at h1 ⊢
    split at h1
    · rename_i hq
      have hr : run plain l (i + 1) < l.length := by
        rcases Nat.lt_or_ge (run plain l (i + 1)) l.length with h' | h'
        · exact h'
        · rw [List.getElem?_eq_none h'] at hq; simp at hq
      have e1 := (run_pre (p := plain) (l := l) (m := m) l.length (i + 1) (by omega) h).1 hr
      rw [e1, get_app hr, if_pos hq, sub_app h (by omega)]; exact h1
    · cases h1
  · rename_i hc
    rw [if_neg hc]
    have e1 : ((l ++ m)[i + 1]?.map (·.toNat) = some 45) ↔ (l[i + 1]?.map (·.toNat) = some 45) := by
      rcases Nat.lt_or_ge (i + 1) l.length with h2 | h2
      · rw [get_app h2]
      · rw [List.getElem?_append_right h2, List.getElem?_eq_none h2, show i + 1 - l.length = 0 by omega]
        cases m with
        | nil => simp
        | cons d r => simpa using (hm d rfl).2
    unfold sign at h1 ⊢
    by_cases hq : l[i].toNat = 58 ∧ l[i + 1]?.map (·.toNat) = some 45
    · rw [if_pos hq] at h1; rw [if_pos ⟨hq.1, e1.2 hq.2⟩]; exact h1
    · rw [if_neg hq] at h1; rw [if_neg (fun h' => hq ⟨h'.1, e1.1 h'.2⟩)]; exact h1
/-- is one in a remark behind some bytes? -/
def en (n : Bool) (x : List UInt8) : Bool := x.foldl note n
theorem sk_over : ∀ (x : List UInt8) (n : Bool), x.length ≤ sk n x → ∀ m, sk n (x ++ m) = x.length + sk (en n x) m
  | [], n, _, m => by simp [en]
  | c :: r, n, h, m => by
    rw [sk] at h
    rw [List.cons_append, sk]
    by_cases hc : note n c = false ∧ blank c = false
    · rw [if_pos hc] at h; simp at h
    · rw [if_neg hc] at h ⊢
      rw [List.length_cons] at h ⊢
      rw [sk_over r (note n c) (by omega) m]
      simp only [en, List.foldl_cons]; omega
theorem sk_zero {n : Bool} {c : UInt8} {r : List UInt8} (h : sk n (c :: r) = 0) : note n c = false ∧ blank c = false := by
  rw [sk] at h
  by_cases hc : note n c = false ∧ blank c = false
  · exact hc
  · rw [if_neg hc] at h; omega
theorem note_false {n : Bool} {c : UInt8} (h : note n c = false) (hb : blank c = false) : n = false := by
  unfold note at h
  split at h
  · cases h
  split at h
  · rename_i h10; simp [blank, h10] at hb
  · exact h
/-- blanks that end at a byte that is none: whatever stands there instead of it, they are skipped -/
theorem sk_known {x : List UInt8} {c : UInt8} {r : List UInt8} (h : sk false (x ++ c :: r) = x.length) (m : List UInt8) : sk false (x ++ m) = x.length + sk false m := by
  have h1 : x.length ≤ sk false x := by
    rcases Nat.lt_or_ge (sk false x) x.length with h' | h'
    · have := (sk_app (c :: r) x false).1 h'
      omega
    · exact h'
  have h2 := sk_over x false h1 (c :: r)
  have h3 := sk_zero (n := en false x) (c := c) (r := r) (by omega)
  rw [sk_over x false h1 m, note_false h3.1 h3.2]
theorem one_first {l : List UInt8} {i e : Nat} {t : Tok} (hi : i < l.length) (h : one l i = some (t, e)) : note false l[i] = false ∧ blank l[i] = false := by
  rw [one_at hi] at h
  unfold oneC at h
  generalize l[i] = c at h
  have key : c.toNat ≠ 37 ∧ c.toNat ≠ 32 ∧ c.toNat ≠ 9 ∧ c.toNat ≠ 10 ∧ c.toNat ≠ 13 := by
    split at h
    · rename_i hc; simp only [small, Bool.and_eq_true, decide_eq_true_eq] at hc; omega
    split at h
    · rename_i hc; simp only [great, Bool.and_eq_true, decide_eq_true_eq] at hc; omega
    split at h
    · rename_i hc; simp only [digit, Bool.or_eq_true, Bool.and_eq_true, decide_eq_true_eq] at hc; omega
    split at h
    · rename_i hc; omega
    · unfold sign at h
      split at h
      · rename_i hc; omega
      split at h
      · rename_i hc; simp only [signs, Bool.or_eq_true, decide_eq_true_eq] at hc; omega
      · cases h
  refine ⟨?_, ?_⟩
  · unfold note; rw [if_neg key.1, if_neg key.2.2.2.1]
  · simp [blank, key]
theorem sk_token {l : List UInt8} {M : List Tok} {t : Tok} (h : tks l 0 = .ok (t :: M)) : sk false l = 0 := by
  obtain ⟨hi, e, ho, _⟩ := tks_inv h
  have := one_first hi ho
  cases l with
  | nil => simp at hi
  | cons c r => rw [sk]; exact if_pos this
theorem tks_unshift (a b : List UInt8) : ∀ (N : List Tok) (i : Nat), tks (a ++ b) (a.length + i) = .ok N → ∃ M, tks b i = .ok M ∧ N = M.map (sh a.length)
  | [], i, h => by
    have := tks_nil h
    rw [List.length_append] at this
    exact ⟨[], tks_end (by omega), rfl⟩
  | u :: N, i, h => by
    obtain ⟨hi, e, ho, hn⟩ := tks_inv h
    have hsh := tks_short h ho hi
    rw [List.length_append] at hi
    rw [one_shift] at ho
    cases h1 : one b i with
    | none => rw [h1] at ho; cases ho
    | some r =>
      obtain ⟨t', e'⟩ := r
      rw [h1] at ho
      simp only [shR, Option.map_some, Option.some.injEq, Prod.mk.injEq] at ho
      obtain ⟨rfl, rfl⟩ := ho
      rw [skip_shift] at hn
      obtain ⟨M, h2, rfl⟩ := tks_unshift a b N (skip b e') hn
      exact ⟨t' :: M, by rw [tks_cons (by omega) h1 hsh, h2]; rfl, rfl⟩
/-- what may be laid between tokens -/
structure More (m : List UInt8) : Prop where
  head : ∀ v c, (m ++ v).head? = some c → inner c = false ∧ c.toNat ≠ 45
  over : ∀ v, sk false (m ++ v) = m.length + sk false v
def wide (l m : List UInt8) : Nat → List Tok → List UInt8
  | f, [] => l.drop f
  | f, t :: L => sub l f t.pl ++ (m ++ wide l m t.pl L)
theorem take_two' (l : List UInt8) {p q : Nat} (h : p ≤ q) : l.take q = l.take p ++ sub l p q := by
  unfold sub
  rw [← List.take_add, show p + (q - p) = q by omega]
theorem drop_two (l : List UInt8) {p q : Nat} (h : p ≤ q) : l.drop p = sub l p q ++ l.drop q := by
  unfold sub
  conv => lhs; rw [← List.take_append_drop (q - p) (l.drop p), List.drop_drop, show p + (q - p) = q by omega]
theorem skip_known {l m v : List UInt8} {e : Nat} (hm : More m) (hq : skip l e < l.length) (hv : sk false v = 0) : sk false (sub l e (skip l e) ++ (m ++ v)) = (sub l e (skip l e)).length + m.length := by
  have hle := le_skip l e
  have hd := drop_two l hle
  have hs : sk false (l.drop e) = skip l e - e := by unfold skip skipN; omega
  have hlen : (sub l e (skip l e)).length = skip l e - e := sub_length (Nat.le_of_lt hq)
  rw [hd, List.drop_eq_getElem_cons hq] at hs
  rw [sk_known (by rw [hs, hlen]) (m ++ v), hm.over, hv]; omega
theorem tks_wide {l m : List UInt8} (hm : More m) : ∀ (L : List Tok) (t : Tok), tks l t.pl = .ok (t :: L) → ∃ u M, tks (wide l m t.pl L) 0 = .ok (u :: M) ∧ Ps.Sm (u :: M) (t :: L)
  | [], t, h => by
    obtain ⟨hi, e, ho, hn⟩ := tks_inv h
    have e1 : l.take t.pl ++ l.drop t.pl = l := List.take_append_drop _ _
    have e2 : (l.take t.pl).length = t.pl := by rw [List.length_take]; omega
    have h' : tks (l.take t.pl ++ l.drop t.pl) ((l.take t.pl).length + 0) = .ok [t] := by rw [e1, e2]; exact h
    obtain ⟨M, h1, h2⟩ := tks_unshift _ _ _ _ h'
    cases M with
    | nil => cases h2
    | cons u M =>
      refine ⟨u, M, h1, ?_⟩
      rw [h2]; exact (Ps.sm_shift _ _).symm
  | t' :: L, t, h => by
    obtain ⟨hi, e, ho, hn⟩ := tks_inv h
    have hsh := tks_short h ho hi
    obtain ⟨hi', e', ho', hn'⟩ := tks_inv hn
    have hp' := one_pl ho'
    have hg := one_gt hi ho
    have hle := le_skip l e
    obtain ⟨u, M, h1, h2⟩ := tks_wide hm L t' (by rw [hp']; exact hn)
    have hz := sk_token h1
    have hf := one_first hi' ho'
    show ∃ u M, tks (sub l t.pl t'.pl ++ (m ++ wide l m t'.pl L)) 0 = .ok (u :: M) ∧ _
    generalize wide l m t'.pl L = v at h1 hz ⊢
    rw [hp']
    generalize hq : skip l e = q at *
    have a1 : (l.take q).length = q := by rw [List.length_take]; omega
    have a2 : (l.take t.pl).length = t.pl := by rw [List.length_take]; omega
    have b1 := one_cut (A := l.take q) (m := l.drop q) (by rw [List.take_append_drop]; exact ho) (by rw [List.take_append_drop]; exact hi) (by omega)
    rw [take_two' l (show t.pl ≤ q by omega)] at b1
    have b2 : one (l.take t.pl ++ sub l t.pl q) ((l.take t.pl).length + 0) = some (t, e) := by rw [a2]; exact b1
    rw [one_shift] at b2
    cases b3 : one (sub l t.pl q) 0 with
    | none => rw [b3] at b2; cases b2
    | some r =>
      obtain ⟨w, e0⟩ := r
      rw [b3, a2] at b2
      simp only [shR, Option.map_some, Option.some.injEq, Prod.mk.injEq] at b2
      obtain ⟨b4, b5⟩ := b2
      have ls : (sub l t.pl q).length = q - t.pl := sub_length (by omega)
      have b6 := one_some_app (m := m ++ v) (hm.head v) (by omega) b3
      have hw : ¬ 32 < w.text.length := by
        have : w.text = t.text := by rw [← b4]; rfl
        rw [this]; exact hsh
      have hsk : skip (sub l t.pl q ++ (m ++ v)) e0 = (sub l t.pl q ++ m).length + 0 := by
        have c1 : sub l t.pl q = sub l t.pl e ++ sub l e q := by
          unfold sub
          rw [show q - t.pl = (e - t.pl) + (q - e) by omega, List.take_add, List.drop_drop, show t.pl + (e - t.pl) = e by omega]
        have c2 : (sub l t.pl e).length = e0 := by rw [sub_length (by omega)]; omega
        have c3 := skip_known (l := l) (m := m) (v := v) (e := e) hm (by omega) hz
        rw [hq] at c3
        unfold skip skipN
        rw [c1, List.append_assoc, ← c2, List.drop_left, c3]
        simp only [List.length_append]; omega
      have c4 := tks_shift (sub l t.pl q ++ m) v v.length 0 (u :: M) (by omega) h1
      rw [List.append_assoc] at c4
      refine ⟨w, (u :: M).map (sh (sub l t.pl q ++ m).length), ?_, ?_⟩
      · rw [tks_cons (by rw [List.length_append]; omega) b6 hw, hsk, c4]; rfl
      · have d1 := Ps.sm_shift (sub l t.pl q ++ m).length (u :: M)
        have d2 : Ps.strip w = Ps.strip t := by rw [← b4]; rfl
        unfold Ps.Sm at *
        rw [List.map_cons, List.map_cons (f := Ps.strip) (a := t), d1, h2, d2]
theorem ans_wide {l m : List UInt8} {L : List Tok} (hm : More m) (h : ans l = .ok L) (hw : (wide l m 0 L).length ≤ 4096) : ∃ M, ans (wide l m 0 L) = .ok M ∧ Ps.Sm M L := by
  unfold ans at h ⊢
  split at h
  · cases h
  rw [if_neg (by omega)]
  cases L with
  | nil =>
    have := tks_nil h
    refine ⟨[], ?_, rfl⟩
    show tks (l.drop 0) _ = _
    rw [List.drop_zero]; exact h
  | cons t L =>
    obtain ⟨hi, e, ho, hn⟩ := tks_inv h
    have hp := one_pl ho
    obtain ⟨u, M, h1, h2⟩ := tks_wide hm L t (by rw [hp]; exact h)
    have hz := sk_token h1
    have hf := one_first hi ho
    show ∃ N, tks (sub l 0 t.pl ++ (m ++ wide l m t.pl L)) _ = .ok N ∧ _
    simp only [wide]
    generalize wide l m t.pl L = v at h1 hz ⊢
    rw [hp]
    have c3 := skip_known (l := l) (m := m) (v := v) (e := 0) hm hi hz
    have hsk : skip (sub l 0 (skip l 0) ++ (m ++ v)) 0 = (sub l 0 (skip l 0) ++ m).length + 0 := by
      unfold skip skipN at c3 ⊢
      rw [List.drop_zero, Nat.zero_add, c3, List.length_append]; rfl
    have c4 := tks_shift (sub l 0 (skip l 0) ++ m) v v.length 0 (u :: M) (by omega) h1
    rw [List.append_assoc] at c4
    refine ⟨_, by rw [hsk, c4], ?_⟩
    unfold Ps.Sm at *
    rw [Ps.sm_shift]; exact h2
theorem more_of {m : List UInt8} (h0 : m ≠ []) (h1 : ∀ c, m.head? = some c → inner c = false ∧ c.toNat ≠ 45) (h2 : m.length ≤ sk false m) (h3 : en false m = false) : More m := by
  refine ⟨fun v c hc => ?_, fun v => ?_⟩
  · cases m with
    | nil => exact absurd rfl h0
    | cons d r => exact h1 c hc
  · rw [sk_over m false h2 v, h3]
theorem more0 : More [32] := more_of (by decide) (fun c hc => by simp at hc; subst hc; decide) (by decide) (by decide)
theorem more1 : More [10] := more_of (by decide) (fun c hc => by simp at hc; subst hc; decide) (by decide) (by decide)
theorem more2 : More [32, 37, 32, 120, 40, 10] := more_of (by decide) (fun c hc => by simp at hc; subst hc; decide) (by decide) (by decide)
theorem more3 : More [9, 13, 10, 32] := more_of (by decide) (fun c hc => by simp at hc; subst hc; decide) (by decide) (by decide)
end Lx
namespace Ps
open Lx
theorem prog_wide {l m : List UInt8} {L : List Tok} (hm : More m) (h : ans l = .ok L) (hw : (wide l m 0 L).length ≤ 4096) : err (prog l) = err (prog (wide l m 0 L)) ∧ rs (prog l) = rs (prog (wide l m 0 L)) := by
  obtain ⟨M, h1, h2⟩ := ans_wide hm h hw
  unfold prog
  rw [h, h1]
  exact (rules_sm h2.symm).err
theorem prog_big {l : List UInt8} (h : 4096 < l.length) : err (prog l) = 3 := by
  unfold prog ans; rw [if_pos h]; rfl
theorem prog_cut {l : List UInt8} {L : List Tok} {r : List Ru} {k : Nat} (h : ans l = .ok L) (hp : prog l = .ok r) (hk : k < L.length) : (∃ m, prog (l.take L[k].pl) = .ok m ∧ m.length < r.length ∧ m = r.take m.length) ∨ prog (l.take L[k].pl) = .error ((l.take L[k].pl).length, 80) := by
  have hc := ans_cut h hk
  unfold prog at hp ⊢
  rw [h] at hp
  rw [hc]
  simp only at hp ⊢
  refine rules_cut (E := l.length) (B := L.drop k) (A := L.take k) ?_ ?_
  · intro e
    have := congrArg List.length e
    simp at this; omega
  · rw [List.take_append_drop]; exact hp
end Ps
end Go.Proofs.YtcncmpgababfjaaDoor

/-
  The mathematics of layer 9: terms, literals, rules, programs as texts; what is shown is cut into the tokens of just that. No program in this text.
-/
namespace Go.Proofs.YtcncmpgababfjaaDoor
namespace Sh
open Lx Ps

def namedB (p : UInt8 → Bool) (s : List UInt8) : Bool := decide (1 ≤ s.length) && decide (s.length ≤ 32) && (match s with | [] => false | c :: _ => p c) && s.all inner
def wordB (s : List UInt8) : Bool := namedB small s && !kept s
def zk (k : K) : Bool := !k.num && decide (k.n = 0) && k.s.isEmpty
def plainB (s : List UInt8) : Bool := decide (1 ≤ s.length) && decide (s.length ≤ 32) && s.all plain
def termS (t : Tm) : Option (List UInt8) :=
  if t.v ≠ [] then (if (zk t.k && namedB great t.v) = true then some t.v else none)
  else if t.k.num = true then (if t.k.s = [] then some (Go.Lib.itoa t.k.n) else none)
  else if t.k.n = 0 ∧ plainB t.k.s = true then (if wordB t.k.s = true then some t.k.s else some (34 :: (t.k.s ++ [34]))) else none
def noneT (t : Tm) : Bool := t.v.isEmpty && zk t.k
def maybeS (a : List UInt8) (t : Tm) (b : List UInt8) : Option (List UInt8) := if noneT t = true then some [] else (termS t).map fun s => a ++ (s ++ b)
def argsS : List Tm → Option (List UInt8)
  | [] => some []
  | [t] => termS t
  | t :: u :: r => (termS t).bind fun s => (argsS (u :: r)).map fun x => s ++ (44 :: 32 :: x)
def atomS (p : List UInt8) (ts : List Tm) : Option (List UInt8) := if wordB p = true ∧ ts.length ≤ 4 then (argsS ts).map fun s => p ++ (40 :: (s ++ [41])) else none
def litS (l : Lt) : Option (List UInt8) :=
  (maybeS [] l.by_ [32, 115, 97, 121, 115, 32]).bind fun b => (atomS l.pred l.args).bind fun x => (maybeS [32, 97, 116, 32] l.at_ []).map fun a => b ++ (x ++ a)
def litsS : List Lt → Option (List UInt8)
  | [] => some []
  | [l] => litS l
  | l :: u :: r => (litS l).bind fun s => (litsS (u :: r)).map fun x => s ++ (44 :: 32 :: x)
def ruleS (r : Ru) : Option (List UInt8) :=
  if 1 ≤ r.body.length ∧ r.body.length ≤ 4 then
    (termS r.home).bind fun h => (atomS r.pred r.args).bind fun x => (maybeS [32, 116, 111, 32] r.to_ []).bind fun t => (litsS r.body).map fun b =>
      h ++ (58 :: 32 :: (x ++ (t ++ (32 :: 58 :: 45 :: 32 :: (b ++ [46])))))
  else none
def allS : List Ru → Option (List UInt8)
  | [] => some []
  | r :: l => (ruleS r).bind fun s => (allS l).map fun x => s ++ (10 :: x)
/-- what show.Program answers: the text, or the error -/
def progS (l : List Ru) : Except Int (List UInt8) :=
  if 16 < l.length then .error 81 else match allS l with
  | none => .error 100
  | some s => if 4096 < s.length then .error 3 else .ok s

/-! tokens -/
def tokOf (t : Tm) : Tok := if t.v ≠ [] then ⟨2, t.v, 0, 0⟩ else if t.k.num = true then ⟨3, [], t.k.n, 0⟩ else if wordB t.k.s = true then ⟨1, t.k.s, 0, 0⟩ else ⟨4, t.k.s, 0, 0⟩
def sg (s : List UInt8) : Tok := ⟨5, s, 0, 0⟩
def wd (s : List UInt8) : Tok := ⟨1, s, 0, 0⟩
def argsT : List Tm → List Tok
  | [] => []
  | [t] => [tokOf t]
  | t :: u :: r => tokOf t :: sg [44] :: argsT (u :: r)
def atomT (p : List UInt8) (ts : List Tm) : List Tok := wd p :: sg [40] :: (argsT ts ++ [sg [41]])
def maybeT (a : List Tok) (t : Tm) (b : List Tok) : List Tok := if noneT t = true then [] else a ++ (tokOf t :: b)
def litT (l : Lt) : List Tok := maybeT [] l.by_ [wd says] ++ (atomT l.pred l.args ++ maybeT [wd at_] l.at_ [])
def litsT : List Lt → List Tok
  | [] => []
  | [l] => litT l
  | l :: u :: r => litT l ++ (sg [44] :: litsT (u :: r))
def ruleT (r : Ru) : List Tok := tokOf r.home :: sg [58] :: (atomT r.pred r.args ++ (maybeT [wd Ps.to] r.to_ [] ++ (sg [58, 45] :: (litsT r.body ++ [sg [46]]))))
def allT (l : List Ru) : List Tok := l.flatMap ruleT

/-! a number that an int holds -/
def KIn (t : Tm) : Prop := -9223372036854775808 ≤ t.k.n ∧ t.k.n ≤ 9223372036854775807
def LIn (l : Lt) : Prop := KIn l.by_ ∧ (∀ t ∈ l.args, KIn t) ∧ KIn l.at_
def RIn (r : Ru) : Prop := KIn r.home ∧ (∀ t ∈ r.args, KIn t) ∧ KIn r.to_ ∧ ∀ l ∈ r.body, LIn l

/-! texts that are cut -/
def Hd (m : List UInt8) : Prop := ∀ c, m.head? = some c → inner c = false ∧ c.toNat ≠ 45
theorem hd_nil : Hd [] := fun c h => by simp at h
theorem hd_cons {c : UInt8} (m : List UInt8) (h : inner c = false ∧ c.toNat ≠ 45) : Hd (c :: m) := fun d hd => by simp at hd; subst hd; exact h
def Cuts (m : List UInt8) (T : List Tok) : Prop := ∃ M, tks m (skip m 0) = .ok M ∧ M.map strip = T
theorem cuts_nil : Cuts [] [] := ⟨[], rfl, rfl⟩
theorem strip_sh (n : Nat) (M : List Tok) : (M.map (sh n)).map strip = M.map strip := sm_shift n M
theorem cuts_blank {c : UInt8} {m : List UInt8} {T : List Tok} (hc : Lx.blank c = true) (h : Cuts m T) : Cuts (c :: m) T := by
  obtain ⟨M, h1, h2⟩ := h
  have e1 : skip (c :: m) 0 = skip (c :: m) 1 := skip_blank (l := c :: m) (i := 0) (by simp) hc
  have e2 := skip_shift [c] m 0
  have e3 := tks_shift [c] m m.length (skip m 0) M (by omega) h1
  simp only [List.singleton_append, List.length_singleton, Nat.add_zero] at e2 e3
  exact ⟨M.map (sh 1), by rw [e1, e2, e3], by rw [strip_sh, h2]⟩
theorem cuts_tok {s m : List UInt8} {t : Tok} {T : List Tok} (hs : one s 0 = some (t, s.length)) (h0 : 0 < s.length) (hl : ¬ 32 < t.text.length) (hm : Hd m) (h : Cuts m T) : Cuts (s ++ m) (strip t :: T) := by
  obtain ⟨M, h1, h2⟩ := h
  have hlen : 0 < (s ++ m).length := by rw [List.length_append]; omega
  have ho := one_some_app hm h0 hs
  have hf := one_first hlen ho
  have e0 : skip (s ++ m) 0 = 0 := by unfold skip; exact skipN_stop hlen hf.1 hf.2
  have e2 := skip_shift s m 0
  have e3 := tks_shift s m m.length (skip m 0) M (by omega) h1
  rw [Nat.add_zero] at e2
  exact ⟨t :: M.map (sh s.length), by rw [e0, tks_cons hlen ho hl, e2, e3]; rfl, by rw [List.map_cons, strip_sh, h2]⟩
theorem run_all {p : UInt8 → Bool} {s : List UInt8} {i : Nat} (h : ∀ c ∈ s.drop i, p c = true) (hi : i ≤ s.length) : run p s i = s.length := by
  unfold run; rw [tw_all _ h, List.length_drop]; omega
theorem one_word {s : List UInt8} (h : namedB small s = true) : one s 0 = some (⟨1, s, 0, 0⟩, s.length) := by
  unfold namedB at h
  cases s with
  | nil => simp at h
  | cons c r =>
    simp only [Bool.and_eq_true, List.all_eq_true] at h
    rw [one_at (by simp)]
    show oneC (c :: r) 0 c = _
    unfold oneC
    rw [if_pos h.1.2]
    unfold Lx.word
    rw [run_all (fun d hd => h.2 d (by simpa using hd)) (Nat.zero_le _), sub_tail]; rfl
theorem great_small {c : UInt8} (h : great c = true) : ¬ small c = true := by
  simp only [great, small, Bool.and_eq_true, decide_eq_true_eq] at *; omega
theorem one_var {s : List UInt8} (h : namedB great s = true) : one s 0 = some (⟨2, s, 0, 0⟩, s.length) := by
  unfold namedB at h
  cases s with
  | nil => simp at h
  | cons c r =>
    simp only [Bool.and_eq_true, List.all_eq_true] at h
    rw [one_at (by simp)]
    show oneC (c :: r) 0 c = _
    unfold oneC
    rw [if_neg (great_small h.1.2), if_pos h.1.2]
    unfold Lx.word
    rw [run_all (fun d hd => h.2 d (by simpa using hd)) (Nat.zero_le _), sub_tail]; rfl
theorem one_quote {s : List UInt8} (h : ∀ c ∈ s, plain c = true) : one (34 :: (s ++ [34])) 0 = some (⟨4, s, 0, 0⟩, (34 :: (s ++ [34])).length) := by
  rw [one_at (by simp)]
  show oneC (34 :: (s ++ [34])) 0 34 = _
  unfold oneC
  rw [if_neg (by decide), if_neg (by decide), if_neg (by decide), if_pos (by decide)]
  have hr : run plain (34 :: (s ++ [34])) 1 = s.length + 1 := by
    unfold run
    show 1 + ((s ++ [34]).takeWhile plain).length = _
    rw [List.takeWhile_append_of_pos h]
    have : List.takeWhile plain [34] = [] := by decide
    rw [this]; simp; omega
  unfold quote
  rw [hr]
  have e1 : (34 :: (s ++ [34]))[s.length + 1]?.map (·.toNat) = some 34 := by simp
  rw [if_pos e1]
  have e2 : sub (34 :: (s ++ [34])) (0 + 1) (s.length + 1) = s := by unfold sub; simp
  rw [e2]; simp
theorem one_num (n : Int) (h : -9223372036854775808 ≤ n ∧ n ≤ 9223372036854775807) : one (Go.Lib.itoa n) 0 = some (⟨3, [], n, 0⟩, (Go.Lib.itoa n).length) := by
  have key : ∀ (neg : Bool) (u : Nat), n = (if neg = true then -(u : Int) else u) → (neg = true → 1 ≤ u ∧ u ≤ 9223372036854775808) → (neg = false → u < 9223372036854775808) → one (txt neg (Go.Lib.decDigits u)) 0 = some (⟨3, [], n, 0⟩, (txt neg (Go.Lib.decDigits u)).length) := by
    intro neg u hn h1 h2
    have hv := num_self hn h1 h2
    have hd := dec_digits u
    obtain ⟨a, q, hq⟩ := List.exists_cons_of_ne_nil (dec_ne u)
    rw [hq] at hv hd ⊢
    have ha := digit_le (hd a (by simp))
    have hlen : 0 < (txt neg (a :: q)).length := by cases neg <;> simp [txt]
    have hneg : isNeg (txt neg (a :: q)) 0 = neg := by
      cases neg with
      | true => rfl
      | false =>
        have h0 : a.toNat ≠ 45 := by omega
        simp [isNeg, txt, h0]
    have hc : (digit ((txt neg (a :: q))[0]'hlen) || decide (((txt neg (a :: q))[0]'hlen).toNat = 45)) = true := by
      cases neg with
      | true => rfl
      | false => simp [txt, hd a (by simp)]
    have hfirst : (txt neg (a :: q)).drop (first (txt neg (a :: q)) 0) = a :: q := by
      unfold first; rw [hneg]
      cases neg <;> rfl
    have hrun : run digit (txt neg (a :: q)) (first (txt neg (a :: q)) 0) = (txt neg (a :: q)).length :=
      run_all (by rw [hfirst]; exact hd) (first_lt hlen)
    rw [one_at hlen]
    unfold oneC
    rw [if_neg, if_neg, if_pos hc]
    · unfold number
      rw [hneg, hrun, sub_tail, hfirst, hv]; rfl
    · cases neg with
      | true => show ¬ great (45 : UInt8) = true; decide
      | false => simp [txt, great]; omega
    · cases neg with
      | true => show ¬ small (45 : UInt8) = true; decide
      | false => simp [txt, small]; omega
  unfold Go.Lib.itoa
  by_cases hn : n < 0
  · rw [if_pos hn]
    exact key true n.natAbs (by simp; omega) (fun _ => by omega) (fun h => by cases h)
  · rw [if_neg hn]
    exact key false n.toNat (by simp; omega) (fun h => by cases h) (fun _ => by omega)

/-! what is shown is cut into its tokens -/
theorem named_len {p : UInt8 → Bool} {s : List UInt8} (h : namedB p s = true) : 0 < s.length ∧ s.length ≤ 32 := by
  unfold namedB at h
  simp only [Bool.and_eq_true, decide_eq_true_eq] at h
  exact ⟨h.1.1.1, h.1.1.2⟩
theorem word_named {s : List UInt8} (h : wordB s = true) : namedB small s = true ∧ kept s = false := by
  unfold wordB at h
  simpa using h
theorem wd_cuts {p m : List UInt8} {T : List Tok} (hp : namedB small p = true) (hm : Hd m) (h : Cuts m T) : Cuts (p ++ m) (wd p :: T) :=
  cuts_tok (t := ⟨1, p, 0, 0⟩) (one_word hp) (named_len hp).1 (by have := (named_len hp).2; simp only; omega) hm h
theorem sg_cuts {c : UInt8} {m : List UInt8} {T : List Tok} (hc : signs c = true) (h1 : c.toNat ≠ 58 ∨ Hd m) (h : Cuts m T) : Cuts (c :: m) (sg [c] :: T) := by
  obtain ⟨M, q1, q2⟩ := h
  have hlen : 0 < (c :: m).length := by simp
  have hcc : c.toNat = 40 ∨ c.toNat = 41 ∨ c.toNat = 44 ∨ c.toNat = 46 ∨ c.toNat = 58 := by
    simp only [signs, Bool.or_eq_true, decide_eq_true_eq] at hc; omega
  have ho : one (c :: m) 0 = some (sg [c], 1) := by
    rw [one_at hlen]
    show oneC (c :: m) 0 c = _
    unfold oneC
    rw [if_neg (by simp only [small, Bool.and_eq_true, decide_eq_true_eq]; omega), if_neg (by simp only [great, Bool.and_eq_true, decide_eq_true_eq]; omega), if_neg (by simp only [digit, Bool.or_eq_true, Bool.and_eq_true, decide_eq_true_eq]; omega), if_neg (by omega)]
    unfold sign
    rw [if_neg, if_pos hc]
    · rfl
    · rintro ⟨e1, e2⟩
      rcases h1 with h1 | h1
      · exact h1 e1
      · cases m with
        | nil => simp at e2
        | cons d r =>
          have := (h1 d rfl).2
          simp at e2; exact this e2
  have hf := one_first hlen ho
  have e0 : skip (c :: m) 0 = 0 := by unfold skip; exact skipN_stop hlen hf.1 hf.2
  have e2 := skip_shift [c] m 0
  have e3 := tks_shift [c] m m.length (skip m 0) M (by omega) q1
  simp only [List.singleton_append, List.length_singleton, Nat.add_zero] at e2 e3
  exact ⟨sg [c] :: M.map (sh 1), by rw [e0, tks_cons hlen ho (by simp [sg]), e2, e3]; rfl, by rw [List.map_cons, strip_sh, q2]; rfl⟩
theorem turn_cuts {m : List UInt8} {T : List Tok} (h : Cuts m T) : Cuts (58 :: 45 :: m) (sg [58, 45] :: T) := by
  obtain ⟨M, q1, q2⟩ := h
  have hlen : 0 < (58 :: 45 :: m).length := by simp
  have ho : one (58 :: 45 :: m) 0 = some (sg [58, 45], 2) := by
    rw [one_at hlen]
    show oneC (58 :: 45 :: m) 0 58 = _
    unfold oneC
    rw [if_neg (by decide), if_neg (by decide), if_neg (by decide), if_neg (by decide)]
    unfold sign
    rw [if_pos (by simp)]; rfl
  have hf := one_first hlen ho
  have e0 : skip (58 :: 45 :: m) 0 = 0 := by unfold skip; exact skipN_stop hlen hf.1 hf.2
  have e2 := skip_shift [58, 45] m 0
  have e3 := tks_shift [58, 45] m m.length (skip m 0) M (by omega) q1
  simp only [List.cons_append, List.nil_append, List.length_cons, List.length_nil, Nat.add_zero, Nat.zero_add] at e2 e3
  exact ⟨sg [58, 45] :: M.map (sh 2), by rw [e0, tks_cons hlen ho (by simp [sg]), e2, e3]; rfl, by rw [List.map_cons, strip_sh, q2]; rfl⟩
theorem term_cuts {t : Tm} {s m : List UInt8} {T : List Tok} (hi : KIn t) (hs : termS t = some s) (hm : Hd m) (h : Cuts m T) : Cuts (s ++ m) (tokOf t :: T) := by
  unfold termS at hs
  unfold tokOf
  by_cases hv : t.v ≠ []
  · rw [if_pos hv] at hs ⊢
    split at hs
    · rename_i hn
      cases hs
      simp only [Bool.and_eq_true] at hn
      exact cuts_tok (t := ⟨2, t.v, 0, 0⟩) (one_var hn.2) (named_len hn.2).1 (by have := (named_len hn.2).2; simp only; omega) hm h
    · cases hs
  rw [if_neg hv] at hs ⊢
  by_cases hn : t.k.num = true
  · rw [if_pos hn] at hs ⊢
    split at hs
    · cases hs
      have ho := one_num t.k.n hi
      refine cuts_tok (t := ⟨3, [], t.k.n, 0⟩) ho ?_ (by simp) hm h
      unfold Go.Lib.itoa
      split
      · simp
      · exact List.length_pos_iff.2 (dec_ne _)
    · cases hs
  rw [if_neg hn] at hs ⊢
  split at hs
  · rename_i hp
    have hpl := hp.2
    unfold plainB at hpl
    simp only [Bool.and_eq_true, decide_eq_true_eq, List.all_eq_true] at hpl
    by_cases hw : wordB t.k.s = true
    · rw [if_pos hw] at hs ⊢
      cases hs
      exact wd_cuts (word_named hw).1 hm h
    · rw [if_neg hw] at hs ⊢
      cases hs
      exact cuts_tok (t := ⟨4, t.k.s, 0, 0⟩) (one_quote hpl.2) (by simp) (by have := hpl.1.2; simp only; omega) hm h
  · cases hs
theorem args_cuts : ∀ {ts : List Tm} {s m : List UInt8} {T : List Tok}, (∀ t ∈ ts, KIn t) → argsS ts = some s → Hd m → Cuts m T → Cuts (s ++ m) (argsT ts ++ T)
  | [], s, m, T, _, hs, _, h => by cases hs; exact h
  | [t], s, m, T, hi, hs, hm, h => term_cuts (hi t (by simp)) hs hm h
  | t :: u :: r, s, m, T, hi, hs, hm, h => by
    rw [argsS, Option.bind_eq_some_iff] at hs
    obtain ⟨a, ha, hs⟩ := hs
    rw [Option.map_eq_some_iff] at hs
    obtain ⟨x, hx, rfl⟩ := hs
    have h1 := args_cuts (ts := u :: r) (fun t ht => hi t (by simp at ht ⊢; exact .inr ht)) hx hm h
    have h2 := sg_cuts (c := 44) (by decide) (.inl (by decide)) (cuts_blank (c := 32) (by decide) h1)
    have h3 := term_cuts (hi t (by simp)) ha (hd_cons (c := 44) _ (by decide)) h2
    simpa [argsT] using h3
theorem atom_cuts {p : List UInt8} {ts : List Tm} {s m : List UInt8} {T : List Tok} (hi : ∀ t ∈ ts, KIn t) (hs : atomS p ts = some s) (h : Cuts m T) : Cuts (s ++ m) (atomT p ts ++ T) := by
  unfold atomS at hs
  split at hs
  · rename_i hp
    rw [Option.map_eq_some_iff] at hs
    obtain ⟨x, hx, rfl⟩ := hs
    have h1 := sg_cuts (c := 41) (by decide) (.inl (by decide)) h
    have h2 := args_cuts hi hx (hd_cons (c := 41) _ (by decide)) h1
    have h3 := sg_cuts (c := 40) (by decide) (.inl (by decide)) h2
    have h4 := wd_cuts (word_named hp.1).1 (hd_cons (c := 40) _ (by decide)) h3
    simpa [atomT] using h4
  · cases hs
theorem hd_blank (m : List UInt8) : Hd (32 :: m) := hd_cons m (by decide)
theorem word_kept_cuts {p m : List UInt8} {T : List Tok} (hp : p = says ∨ p = Ps.to ∨ p = at_) (h : Cuts m T) : Cuts (32 :: (p ++ (32 :: m))) (wd p :: T) := by
  have hn : namedB small p = true := by rcases hp with rfl | rfl | rfl <;> decide
  exact cuts_blank (by decide) (wd_cuts hn (hd_blank _) (cuts_blank (by decide) h))
theorem by_cuts {t : Tm} {s m : List UInt8} {T : List Tok} (hi : KIn t) (hs : maybeS [] t [32, 115, 97, 121, 115, 32] = some s) (h : Cuts m T) : Cuts (s ++ m) (maybeT [] t [wd says] ++ T) := by
  unfold maybeS at hs
  unfold maybeT
  split at hs
  · rename_i hn
    cases hs
    rw [if_pos hn]; exact h
  · rename_i hn
    rw [if_neg hn]
    rw [Option.map_eq_some_iff] at hs
    obtain ⟨x, hx, rfl⟩ := hs
    have h1 := term_cuts hi hx (hd_blank _) (word_kept_cuts (.inl rfl) h)
    simpa [says] using h1
theorem tail_cuts {t : Tm} {s m p : List UInt8} {T : List Tok} (hp : p = Ps.to ∨ p = at_) (hi : KIn t) (hs : maybeS (32 :: (p ++ [32])) t [] = some s) (hm : Hd m) (h : Cuts m T) : Cuts (s ++ m) (maybeT [wd p] t [] ++ T) := by
  unfold maybeS at hs
  unfold maybeT
  split at hs
  · rename_i hn
    cases hs
    rw [if_pos hn]; exact h
  · rename_i hn
    rw [if_neg hn]
    rw [Option.map_eq_some_iff] at hs
    obtain ⟨x, hx, rfl⟩ := hs
    have h1 := word_kept_cuts (p := p) (.inr hp) (term_cuts hi hx hm h)
    simpa using h1
theorem lit_cuts {l : Lt} {s m : List UInt8} {T : List Tok} (hi : LIn l) (hs : litS l = some s) (hm : Hd m) (h : Cuts m T) : Cuts (s ++ m) (litT l ++ T) := by
  unfold litS at hs
  rw [Option.bind_eq_some_iff] at hs
  obtain ⟨b, hb, hs⟩ := hs
  rw [Option.bind_eq_some_iff] at hs
  obtain ⟨x, hx, hs⟩ := hs
  rw [Option.map_eq_some_iff] at hs
  obtain ⟨a, ha, rfl⟩ := hs
  have h1 := tail_cuts (p := at_) (.inr rfl) hi.2.2 ha hm h
  have h2 := atom_cuts hi.2.1 hx h1
  have h3 := by_cuts hi.1 hb h2
  simpa [litT] using h3
theorem lits_cuts : ∀ {ls : List Lt} {s m : List UInt8} {T : List Tok}, (∀ l ∈ ls, LIn l) → litsS ls = some s → Hd m → Cuts m T → Cuts (s ++ m) (litsT ls ++ T)
  | [], s, m, T, _, hs, _, h => by cases hs; exact h
  | [l], s, m, T, hi, hs, hm, h => lit_cuts (hi l (by simp)) hs hm h
  | l :: u :: r, s, m, T, hi, hs, hm, h => by
    rw [litsS, Option.bind_eq_some_iff] at hs
    obtain ⟨a, ha, hs⟩ := hs
    rw [Option.map_eq_some_iff] at hs
    obtain ⟨x, hx, rfl⟩ := hs
    have h1 := lits_cuts (ls := u :: r) (fun t ht => hi t (by simp at ht ⊢; exact .inr ht)) hx hm h
    have h2 := sg_cuts (c := 44) (by decide) (.inl (by decide)) (cuts_blank (c := 32) (by decide) h1)
    have h3 := lit_cuts (hi l (by simp)) ha (hd_cons (c := 44) _ (by decide)) h2
    simpa [litsT] using h3
theorem rule_cuts {r : Ru} {s m : List UInt8} {T : List Tok} (hi : RIn r) (hs : ruleS r = some s) (h : Cuts m T) : Cuts (s ++ m) (ruleT r ++ T) := by
  unfold ruleS at hs
  split at hs
  · rw [Option.bind_eq_some_iff] at hs
    obtain ⟨a, ha, hs⟩ := hs
    rw [Option.bind_eq_some_iff] at hs
    obtain ⟨x, hx, hs⟩ := hs
    rw [Option.bind_eq_some_iff] at hs
    obtain ⟨t, ht, hs⟩ := hs
    rw [Option.map_eq_some_iff] at hs
    obtain ⟨b, hb, rfl⟩ := hs
    have h1 := sg_cuts (c := 46) (by decide) (.inl (by decide)) h
    have h2 := lits_cuts hi.2.2.2 hb (hd_cons (c := 46) _ (by decide)) h1
    have h3 := cuts_blank (c := 32) (by decide) (turn_cuts (cuts_blank (c := 32) (by decide) h2))
    have h4 := tail_cuts (p := Ps.to) (.inl rfl) hi.2.2.1 ht (hd_blank _) h3
    have h5 := atom_cuts hi.2.1 hx h4
    have h6 := sg_cuts (c := 58) (by decide) (.inr (hd_blank _)) (cuts_blank (c := 32) (by decide) h5)
    have h7 := term_cuts hi.1 ha (hd_cons (c := 58) _ (by decide)) h6
    simpa [ruleT] using h7
  · cases hs
theorem all_cuts : ∀ {l : List Ru} {s : List UInt8}, (∀ r ∈ l, RIn r) → allS l = some s → Cuts s (allT l)
  | [], s, _, hs => by cases hs; exact cuts_nil
  | r :: l, s, hi, hs => by
    rw [allS, Option.bind_eq_some_iff] at hs
    obtain ⟨a, ha, hs⟩ := hs
    rw [Option.map_eq_some_iff] at hs
    obtain ⟨x, hx, rfl⟩ := hs
    have h1 := all_cuts (l := l) (fun t ht => hi t (by simp [ht])) hx
    have h2 := rule_cuts (hi r (by simp)) ha (cuts_blank (c := 10) (by decide) h1)
    simpa [allT] using h2
end Sh
end Go.Proofs.YtcncmpgababfjaaDoor

/-
  The mathematics of layer 9: the tokens of what is shown are read as what was shown; unlike terms and rules have unlike texts. No program in this text.
-/
namespace Go.Proofs.YtcncmpgababfjaaDoor
namespace Sh
open Lx Ps

theorem zk_is {k : K} (h : zk k = true) : k = k0 := by
  obtain ⟨a, n, s⟩ := k
  simp only [zk, Bool.and_eq_true, Bool.not_eq_true', decide_eq_true_eq, List.isEmpty_iff] at h
  obtain ⟨⟨rfl, rfl⟩, rfl⟩ := h; rfl
theorem none_is {t : Tm} (h : noneT t = true) : t = t0 := by
  obtain ⟨v, k⟩ := t
  simp only [noneT, Bool.and_eq_true, List.isEmpty_iff] at h
  obtain ⟨rfl, hk⟩ := h
  rw [zk_is hk]; rfl
theorem tok_may {t : Tm} {s : List UInt8} (hs : termS t = some s) : mayT (tokOf t) = true ∧ tm (tokOf t) = t := by
  obtain ⟨v, ⟨b, n, x⟩⟩ := t
  unfold termS at hs
  unfold tokOf
  dsimp only at hs ⊢
  by_cases hv : v ≠ []
  · rw [if_pos hv] at hs ⊢
    split at hs
    · rename_i hn
      simp only [Bool.and_eq_true] at hn
      have hk := zk_is hn.1
      exact ⟨rfl, by rw [hk]; rfl⟩
    · cases hs
  rw [if_neg hv] at hs ⊢
  have hv := Classical.not_not.1 hv
  subst hv
  by_cases hn : b = true
  · rw [if_pos hn] at hs ⊢
    split at hs
    · rename_i hx
      subst hx; subst hn; exact ⟨rfl, rfl⟩
    · cases hs
  rw [if_neg hn] at hs ⊢
  have hn : b = false := by simpa using hn
  subst hn
  split at hs
  · rename_i hp
    obtain ⟨rfl, hpl⟩ := hp
    by_cases hw : wordB x = true
    · rw [if_pos hw]
      refine ⟨mayW_T ?_, rfl⟩
      show (true && !kept x) = true
      rw [(word_named hw).2]; rfl
    · rw [if_neg hw]
      refine ⟨?_, rfl⟩
      unfold plainB at hpl
      cases x with
      | nil => simp at hpl
      | cons c r => rfl
  · cases hs
theorem tok_kind (t : Tm) : (tokOf t).kind ≠ 5 := by
  unfold tokOf
  split
  · simp
  split
  · simp
  split <;> simp
theorem tok_sign (t : Tm) (s : List UInt8) : isT 5 s (tokOf t) = false := by
  have := tok_kind t
  simp [isT, this]
theorem term_read {E : Nat} {t : Tm} {s : List UInt8} (hs : termS t = some s) (M : List Tok) : term E (tokOf t :: M) = .ok (t, M) := by
  have h := tok_may hs
  unfold term
  rw [if_pos (by exact h.1)]
  show Except.ok (tm (tokOf t), M) = _
  rw [h.2]
theorem need_read {E : Nat} {k : Int} {s : List UInt8} (M : List Tok) : need E k s (⟨k, s, 0, 0⟩ :: M) = .ok ((), M) := by
  unfold need
  rw [if_pos (by simp [isT, hd])]; rfl
theorem args_read {E : Nat} {M : List Tok} (hM : isT 5 [44] (hd M) = false) : ∀ {ts : List Tm} {s : List UInt8} {n : Nat}, argsS ts = some s → ts ≠ [] → ts.length ≤ n → args E n (argsT ts ++ M) = .ok (ts, M)
  | [], _, _, _, h, _ => absurd rfl h
  | _ :: _, _, 0, _, _, h => by simp at h
  | [t], s, n + 1, hs, _, _ => by
    show args E (n + 1) (tokOf t :: M) = _
    rw [args, term_read hs, bnd_ok, if_neg (by rw [hM]; decide)]
  | t :: u :: r, s, n + 1, hs, _, hl => by
    rw [argsS, Option.bind_eq_some_iff] at hs
    obtain ⟨a, ha, hs⟩ := hs
    rw [Option.map_eq_some_iff] at hs
    obtain ⟨x, hx, rfl⟩ := hs
    show args E (n + 1) (tokOf t :: sg [44] :: (argsT (u :: r) ++ M)) = _
    rw [args, term_read ha, bnd_ok, if_pos (by rfl)]
    show bnd (args E n (argsT (u :: r) ++ M)) _ = _
    rw [args_read hM hx (by simp) (by simp at hl ⊢; omega), bnd_ok]
theorem word_read {E : Nat} {p : List UInt8} (hp : wordB p = true) (M : List Tok) : Ps.word E (wd p :: M) = .ok (p, M) := by
  unfold Ps.word
  rw [if_pos]
  · rfl
  · show (true && !kept p) = true
    rw [(word_named hp).2]; rfl
theorem atom_read {E : Nat} {p : List UInt8} {ts : List Tm} {s : List UInt8} (hs : atomS p ts = some s) (M : List Tok) : atom E (atomT p ts ++ M) = .ok ((p, ts), M) := by
  unfold atomS at hs
  split at hs
  · rename_i hp
    rw [Option.map_eq_some_iff] at hs
    obtain ⟨x, hx, rfl⟩ := hs
    show atom E (wd p :: sg [40] :: ((argsT ts ++ [sg [41]]) ++ M)) = _
    unfold atom
    rw [word_read hp.1, bnd_ok, sg, need_read, bnd_ok]
    cases ts with
    | nil => rfl
    | cons t r =>
      have h1 : isT 5 [41] (hd (argsT (t :: r) ++ [sg [41]] ++ M)) = false := by
        cases r <;> exact tok_sign t [41]
      rw [List.append_assoc, ← List.append_assoc, h1, if_neg (by decide), List.append_assoc, args_read (by rfl) hx (by simp) hp.2, bnd_ok]
      show bnd (need E 5 [41] (⟨5, [41], 0, 0⟩ :: M)) _ = _
      rw [need_read, bnd_ok]
  · cases hs
theorem opt_read {E : Nat} {w a b s : List UInt8} {t : Tm} {M : List Tok} (hs : maybeS a t b = some s) (hM : isT 1 w (hd M) = false) : opt E w (maybeT [wd w] t [] ++ M) = .ok (t, M) := by
  unfold maybeS at hs
  unfold maybeT
  by_cases hn : noneT t = true
  · rw [if_pos hn, none_is hn]
    show opt E w M = _
    unfold opt
    rw [if_neg (by rw [hM]; decide)]
  · rw [if_neg hn] at hs ⊢
    rw [Option.map_eq_some_iff] at hs
    obtain ⟨x, hx, rfl⟩ := hs
    show opt E w (wd w :: tokOf t :: M) = _
    unfold opt
    rw [if_pos (by simp [isT, hd, wd])]
    exact term_read hx M
theorem by_read {E : Nat} {a b s : List UInt8} {t : Tm} {M : List Tok} (hs : maybeS a t b = some s) (hM : said M = false) : by_ E (maybeT [] t [wd says] ++ M) = .ok (t, M) := by
  unfold maybeS at hs
  unfold maybeT
  by_cases hn : noneT t = true
  · rw [if_pos hn, none_is hn]
    show by_ E M = _
    unfold by_
    rw [if_neg (by rw [hM]; decide)]
  · rw [if_neg hn] at hs ⊢
    rw [Option.map_eq_some_iff] at hs
    obtain ⟨x, hx, rfl⟩ := hs
    show by_ E (tokOf t :: wd says :: M) = _
    have h1 : said (tokOf t :: wd says :: M) = true := by
      unfold said
      show (!mayW (tokOf t) || isT 1 says (wd says)) = true
      have : isT 1 says (wd says) = true := by decide
      rw [this]; simp
    unfold by_
    rw [if_pos h1, term_read hx, bnd_ok, wd, need_read, bnd_ok]
theorem atom_said {p : List UInt8} {ts : List Tm} {s : List UInt8} (hs : atomS p ts = some s) (M : List Tok) : said (atomT p ts ++ M) = false := by
  unfold atomS at hs
  split at hs
  · rename_i hp
    unfold said
    show (!(true && !kept p) || isT 1 says (sg [40])) = false
    rw [(word_named hp.1).2]; rfl
  · cases hs
theorem lit_read {E : Nat} {l : Lt} {s : List UInt8} {M : List Tok} (hs : litS l = some s) (hM : isT 1 at_ (hd M) = false) : lit E (litT l ++ M) = .ok (l, M) := by
  unfold litS at hs
  rw [Option.bind_eq_some_iff] at hs
  obtain ⟨b, hb, hs⟩ := hs
  rw [Option.bind_eq_some_iff] at hs
  obtain ⟨x, hx, hs⟩ := hs
  rw [Option.map_eq_some_iff] at hs
  obtain ⟨a, ha, rfl⟩ := hs
  unfold litT
  rw [List.append_assoc, List.append_assoc]
  unfold lit
  rw [by_read hb (atom_said hx _), bnd_ok, atom_read hx, bnd_ok, opt_read ha hM, bnd_ok]
theorem body_read {E : Nat} {M : List Tok} (hM : isT 5 [44] (hd M) = false) (hA : isT 1 at_ (hd M) = false) : ∀ {ts : List Lt} {s : List UInt8} {n : Nat}, litsS ts = some s → ts ≠ [] → ts.length ≤ n → body E n (litsT ts ++ M) = .ok (ts, M)
  | [], _, _, _, h, _ => absurd rfl h
  | _ :: _, _, 0, _, _, h => by simp at h
  | [t], s, n + 1, hs, _, _ => by
    show body E (n + 1) (litT t ++ M) = _
    rw [body, lit_read hs hA, bnd_ok, if_neg (by rw [hM]; decide)]
  | t :: u :: r, s, n + 1, hs, _, hl => by
    rw [litsS, Option.bind_eq_some_iff] at hs
    obtain ⟨a, ha, hs⟩ := hs
    rw [Option.map_eq_some_iff] at hs
    obtain ⟨x, hx, rfl⟩ := hs
    rw [litsT, List.append_assoc, List.cons_append]
    rw [body, lit_read ha (by rfl), bnd_ok, if_pos (by rfl)]
    show bnd (body E n (litsT (u :: r) ++ M)) _ = _
    rw [body_read hM hA hx (by simp) (by simp at hl ⊢; omega), bnd_ok]
theorem rule_read {E : Nat} {r : Ru} {s : List UInt8} (hs : ruleS r = some s) (M : List Tok) : rule E (ruleT r ++ M) = .ok (r, M) := by
  unfold ruleS at hs
  split at hs
  · rename_i hb
    rw [Option.bind_eq_some_iff] at hs
    obtain ⟨a, ha, hs⟩ := hs
    rw [Option.bind_eq_some_iff] at hs
    obtain ⟨x, hx, hs⟩ := hs
    rw [Option.bind_eq_some_iff] at hs
    obtain ⟨t, ht, hs⟩ := hs
    rw [Option.map_eq_some_iff] at hs
    obtain ⟨b, hbb, rfl⟩ := hs
    have hne : r.body ≠ [] := fun e => by rw [e] at hb; simp at hb
    unfold ruleT
    simp only [List.cons_append, List.append_assoc, List.nil_append]
    unfold rule
    rw [term_read ha, bnd_ok, sg, need_read, bnd_ok, atom_read hx, bnd_ok, opt_read ht (by rfl), bnd_ok, sg, need_read, bnd_ok, body_read (by rfl) (by rfl) hbb hne hb.2, bnd_ok, sg, need_read, bnd_ok]
  · cases hs
theorem ruleT_ne (r : Ru) (M : List Tok) : ruleT r ++ M ≠ [] := by simp [ruleT]
theorem rules_read {E : Nat} : ∀ {l : List Ru} {s : List UInt8} {n : Nat}, allS l = some s → l.length ≤ n → rules E n (allT l) = .ok l
  | [], _, n, _, _ => rules_nil E n
  | _ :: _, _, 0, _, h => by simp at h
  | r :: l, s, n + 1, hs, hl => by
    rw [allS, Option.bind_eq_some_iff] at hs
    obtain ⟨a, ha, hs⟩ := hs
    rw [Option.map_eq_some_iff] at hs
    obtain ⟨x, hx, rfl⟩ := hs
    show rules E (n + 1) (ruleT r ++ allT l) = _
    rw [rules_succ (ruleT_ne r _), rule_read ha]
    show rcons r (rules E n (allT l)) = _
    rw [rules_read hx (by simp at hl; omega)]; rfl
theorem strip_strip (t : Tok) : strip (strip t) = strip t := rfl
theorem cuts_sm {s : List UInt8} {T : List Tok} (h : Cuts s T) : ∃ M, tks s (skip s 0) = .ok M ∧ Sm M T := by
  obtain ⟨M, h1, h2⟩ := h
  refine ⟨M, h1, ?_⟩
  unfold Sm
  rw [← h2, List.map_map]
  rfl
/-- what is shown is parsed as what was shown -/
theorem prog_shown {l : List Ru} {s : List UInt8} (hi : ∀ r ∈ l, RIn r) (h : progS l = .ok s) : prog s = .ok l := by
  unfold progS at h
  split at h
  · cases h
  rename_i hl
  split at h
  · cases h
  · rename_i s' hs
    split at h
    · cases h
    · rename_i hb
      cases h
      obtain ⟨M, h1, h2⟩ := cuts_sm (all_cuts hi hs)
      have h3 : ans s = .ok M := by unfold ans; rw [if_neg hb, h1]
      have h4 := (rules_sm (E := s.length) (E' := s.length) (n := 16) h2)
      rw [rules_read hs (by omega)] at h4
      unfold prog
      rw [h3]
      show rules s.length 16 M = _
      generalize rules s.length 16 M = x at h4
      cases x with
      | error e => exact absurd h4 (by simp [RelS])
      | ok m => simp only [RelS] at h4; rw [h4]

/-! unlike things are shown as unlike texts -/
theorem cuts_same {s : List UInt8} {T U : List Tok} (h : Cuts s T) (k : Cuts s U) : T = U := by
  obtain ⟨M, h1, h2⟩ := h
  obtain ⟨N, k1, k2⟩ := k
  rw [h1] at k1; cases k1
  rw [← h2, k2]
theorem term_apart {t u : Tm} {s : List UInt8} (hi : KIn t) (ki : KIn u) (h : termS t = some s) (k : termS u = some s) : t = u := by
  have h1 := term_cuts hi h hd_nil cuts_nil
  have k1 := term_cuts ki k hd_nil cuts_nil
  have e := cuts_same h1 k1
  simp only [List.cons.injEq, and_true] at e
  rw [← (tok_may h).2, ← (tok_may k).2, e]
theorem rule_apart {t u : Ru} {s : List UInt8} (hi : RIn t) (ki : RIn u) (h : ruleS t = some s) (k : ruleS u = some s) : t = u := by
  have h1 := rule_cuts hi h cuts_nil
  have k1 := rule_cuts ki k cuts_nil
  have e := cuts_same h1 k1
  have h2 := rule_read (E := 0) h []
  have k2 := rule_read (E := 0) k []
  rw [e, k2] at h2
  cases h2; rfl
end Sh
end Go.Proofs.YtcncmpgababfjaaDoor

/-
  The mathematics of layer 9: what was parsed can be shown. No program in this text.
-/
namespace Go.Proofs.YtcncmpgababfjaaDoor
namespace Sh
open Lx Ps

structure TokOk (t : Tok) : Prop where
  w : t.kind = 1 → namedB small t.text = true
  v : t.kind = 2 → namedB great t.text = true
  n : t.kind = 3 → -9223372036854775808 ≤ t.n ∧ t.n ≤ 9223372036854775807
  q : t.kind = 4 → t.text.length ≤ 32 ∧ ∀ c ∈ t.text, plain c = true
theorem run_mem {p : UInt8 → Bool} {l : List UInt8} {i : Nat} : ∀ c ∈ sub l i (run p l i), p c = true := fun c hc => by
  obtain ⟨k, hk, h1, h2, rfl⟩ := mem_sub hc
  exact run_in h1 h2 hk
theorem named_run {p : UInt8 → Bool} {l : List UInt8} {i : Nat} (hi : i < l.length) (hp : p l[i] = true) (hn : inner l[i] = true) (h32 : (sub l i (run inner l i)).length ≤ 32) : namedB p (sub l i (run inner l i)) = true := by
  have hr : i < run inner l i := by
    rw [run_step hi hn]; exact Nat.lt_of_lt_of_le (Nat.lt_succ_self i) (le_run _ _ _)
  have ha := run_mem (p := inner) (l := l) (i := i)
  have hc := sub_cons hi hr
  unfold namedB
  simp only [Bool.and_eq_true, decide_eq_true_eq, List.all_eq_true]
  refine ⟨⟨⟨?_, h32⟩, ?_⟩, ha⟩
  · rw [hc]; simp
  · rw [hc]; exact hp
theorem one_ok {l : List UInt8} {i e : Nat} {t : Tok} (hi : i < l.length) (h : one l i = some (t, e)) (hl : ¬ 32 < t.text.length) : TokOk t := by
  rw [one_at hi] at h
  unfold oneC at h
  split at h
  · rename_i hc
    unfold Lx.word at h
    cases h
    exact ⟨fun _ => named_run hi hc (small_inner hc) (by simpa using hl), fun k => by simp at k, fun k => by simp at k, fun k => by simp at k⟩
  split at h
  · rename_i hc
    unfold Lx.word at h
    cases h
    exact ⟨fun k => by simp at k, fun _ => named_run hi hc (great_inner hc) (by simpa using hl), fun k => by simp at k, fun k => by simp at k⟩
  split at h
  · unfold number at h
    rw [Option.map_eq_some_iff] at h
    obtain ⟨v, hv, h⟩ := h
    cases h
    have hv := numOf_some hv
    refine ⟨fun k => by simp at k, fun k => by simp at k, fun _ => ?_, fun k => by simp at k⟩
    show -9223372036854775808 ≤ v ∧ v ≤ 9223372036854775807
    cases hb : isNeg l i with
    | true => have := hv.2.2.1 hb; omega
    | false => have := hv.2.2.2 hb; omega
  split at h
  · unfold quote at h
    split at h
    · cases h
      exact ⟨fun k => by simp at k, fun k => by simp at k, fun k => by simp at k, fun _ => ⟨by simpa using hl, run_mem⟩⟩
    · cases h
  · unfold sign at h
    split at h
    · cases h
      exact ⟨fun k => by simp at k, fun k => by simp at k, fun k => by simp at k, fun k => by simp at k⟩
    split at h
    · cases h
      exact ⟨fun k => by simp at k, fun k => by simp at k, fun k => by simp at k, fun k => by simp at k⟩
    · cases h
theorem tks_ok {l : List UInt8} : ∀ (M : List Tok) (i : Nat), tks l i = .ok M → ∀ t ∈ M, TokOk t
  | [], _, _, t, ht => by simp at ht
  | u :: R, i, h, t, ht => by
    obtain ⟨hi, e, ho, hr⟩ := tks_inv h
    rcases List.mem_cons.1 ht with rfl | ht
    · exact one_ok hi ho (tks_short h ho hi)
    · exact tks_ok R _ hr t ht
def Ok (L : List Tok) : Prop := ∀ t ∈ L, TokOk t
theorem Ok.pre {L L1 : List Tok} (h : Ok L) (p : Pre L L1) : Ok L1 := fun t ht => h t (p.mem ht)
def G (t : Tm) : Prop := KIn t ∧ ∃ s, termS t = some s
theorem inner_plain {c : UInt8} (h : inner c = true) : plain c = true := by
  simp only [inner, small, great, digit, plain, Bool.or_eq_true, Bool.and_eq_true, decide_eq_true_eq, Bool.not_eq_true', decide_eq_false_iff_not] at *
  omega
theorem named_plain {p : UInt8 → Bool} {s : List UInt8} (h : namedB p s = true) : plainB s = true := by
  have h1 := named_len h
  unfold namedB at h
  unfold plainB
  simp only [Bool.and_eq_true, decide_eq_true_eq, List.all_eq_true] at *
  exact ⟨⟨h1.1, h1.2⟩, fun c hc => inner_plain (h.2 c hc)⟩
theorem zero_in : (-9223372036854775808 : Int) ≤ 0 ∧ (0 : Int) ≤ 9223372036854775807 := by decide
theorem plain_good {s : List UInt8} (h : plainB s = true) : G ⟨[], ⟨false, 0, s⟩⟩ := by
  refine ⟨zero_in, ?_⟩
  unfold termS
  dsimp only
  rw [if_neg (by simp), if_neg (by simp), if_pos ⟨rfl, h⟩]
  split
  · exact ⟨_, rfl⟩
  · exact ⟨_, rfl⟩
theorem tok_good {t : Tok} (h : TokOk t) (hm : mayT t = true) : G (tm t) := by
  unfold tm
  by_cases h2 : t.kind = 2
  · rw [if_pos h2]
    have hn := h.v h2
    have hl := named_len hn
    refine ⟨zero_in, t.text, ?_⟩
    unfold termS
    dsimp only
    rw [if_pos (fun e => by rw [e] at hl; simp at hl), if_pos (by rw [hn]; decide)]
  rw [if_neg h2]
  by_cases h3 : t.kind = 3
  · rw [if_pos h3]
    exact ⟨h.n h3, Go.Lib.itoa t.n, rfl⟩
  rw [if_neg h3]
  apply plain_good
  unfold mayT at hm
  simp only [Bool.or_eq_true, Bool.and_eq_true, beq_iff_eq, h2, h3, false_or, Bool.not_eq_true', beq_eq_false_iff_ne] at hm
  rcases hm with ⟨h4, hne⟩ | hw
  · have hq := h.q h4
    unfold plainB
    simp only [Bool.and_eq_true, decide_eq_true_eq, List.all_eq_true]
    exact ⟨⟨List.length_pos_iff.2 hne, hq.1⟩, hq.2⟩
  · unfold mayW at hw
    simp only [Bool.and_eq_true, beq_iff_eq] at hw
    exact named_plain (h.w hw.1)
theorem term_good {E : Nat} {L L1 : List Tok} {v : Tm} (hL : Ok L) (h : term E L = .ok (v, L1)) : G v := by
  obtain ⟨t, rfl, hm, rfl⟩ := term_inv h
  exact tok_good (hL t (by simp)) hm
theorem args_good {E : Nat} : ∀ {n : Nat} {L L1 : List Tok} {v : List Tm}, Ok L → args E n L = .ok (v, L1) → (∀ t ∈ v, G t) ∧ v.length ≤ n
  | 0, L, L1, v, _, h => by cases h
  | n + 1, L, L1, v, hL, h => by
    obtain ⟨t, L2, h1, h2⟩ := bnd_inv h
    have g := term_good hL h1
    split at h2
    · obtain ⟨ts, L3, h3, h4⟩ := bnd_inv h2
      cases h4
      have k := args_good (hL.pre ((term_pre h1).trans (Pre.tail L2))) h3
      refine ⟨fun u hu => ?_, by simp only [List.length_cons]; omega⟩
      rcases List.mem_cons.1 hu with rfl | hu
      · exact g
      · exact k.1 u hu
    · cases h2
      exact ⟨fun u hu => by simp at hu; subst hu; exact g, by simp⟩
theorem argsS_ok : ∀ {ts : List Tm}, (∀ t ∈ ts, G t) → ∃ s, argsS ts = some s
  | [], _ => ⟨[], rfl⟩
  | [t], h => (h t (by simp)).2
  | t :: u :: r, h => by
    obtain ⟨a, ha⟩ := (h t (by simp)).2
    obtain ⟨x, hx⟩ := argsS_ok (ts := u :: r) (fun v hv => h v (List.mem_cons_of_mem _ hv))
    exact ⟨_, by rw [argsS, ha, Option.bind_some, hx, Option.map_some]⟩
theorem word_good {E : Nat} {L L1 : List Tok} {v : List UInt8} (hL : Ok L) (h : Ps.word E L = .ok (v, L1)) : wordB v = true := by
  obtain ⟨t, rfl, hm, rfl⟩ := word_inv h
  unfold mayW at hm
  simp only [Bool.and_eq_true, beq_iff_eq] at hm
  unfold wordB
  rw [(hL t (by simp)).w hm.1, hm.2]; rfl
theorem atom_good {E : Nat} {L L1 : List Tok} {v : List UInt8 × List Tm} (hL : Ok L) (h : atom E L = .ok (v, L1)) : (∀ t ∈ v.2, KIn t) ∧ ∃ s, atomS v.1 v.2 = some s := by
  obtain ⟨p, L2, h1, h⟩ := bnd_inv h
  have hw := word_good hL h1
  have hL2 := hL.pre (word_pre h1)
  obtain ⟨_, L3, h2, h⟩ := bnd_inv h
  have hL3 := hL2.pre (need_pre (by decide) h2)
  split at h
  · cases h
    refine ⟨fun t ht => by simp at ht, p ++ [40, 41], ?_⟩
    unfold atomS
    rw [if_pos ⟨hw, by simp⟩]; rfl
  · obtain ⟨ts, L4, h3, h⟩ := bnd_inv h
    obtain ⟨_, L5, h4, h⟩ := bnd_inv h
    cases h
    have g := args_good hL3 h3
    obtain ⟨x, hx⟩ := argsS_ok g.1
    refine ⟨fun t ht => (g.1 t ht).1, p ++ (40 :: (x ++ [41])), ?_⟩
    unfold atomS
    rw [if_pos ⟨hw, g.2⟩, hx]; rfl
def MG (t : Tm) : Prop := KIn t ∧ ∀ a b, ∃ s, maybeS a t b = some s
theorem G.mg {t : Tm} (h : G t) : MG t := by
  refine ⟨h.1, fun a b => ?_⟩
  obtain ⟨s, hs⟩ := h.2
  unfold maybeS
  split
  · exact ⟨_, rfl⟩
  · exact ⟨_, by rw [hs]; rfl⟩
theorem t0_mg : MG t0 := ⟨⟨by decide, by decide⟩, fun a b => ⟨[], rfl⟩⟩
theorem opt_good {E : Nat} {s : List UInt8} {L L1 : List Tok} {v : Tm} (hL : Ok L) (h : opt E s L = .ok (v, L1)) : MG v := by
  unfold opt at h
  split at h
  · exact (term_good (hL.pre (Pre.tail L)) h).mg
  · cases h; exact t0_mg
theorem by_good {E : Nat} {L L1 : List Tok} {v : Tm} (hL : Ok L) (h : by_ E L = .ok (v, L1)) : MG v := by
  unfold by_ at h
  split at h
  · obtain ⟨p, L2, h1, h⟩ := bnd_inv h
    obtain ⟨_, L3, h2, h⟩ := bnd_inv h
    cases h
    exact (term_good hL h1).mg
  · cases h; exact t0_mg
theorem lit_good {E : Nat} {L L1 : List Tok} {v : Lt} (hL : Ok L) (h : lit E L = .ok (v, L1)) : LIn v ∧ ∃ s, litS v = some s := by
  obtain ⟨b, L2, h1, h⟩ := bnd_inv h
  obtain ⟨p, L3, h2, h⟩ := bnd_inv h
  obtain ⟨a, L4, h3, h⟩ := bnd_inv h
  cases h
  have hL2 := hL.pre (by_pre h1)
  have hL3 := hL2.pre (atom_pre h2)
  have g1 := by_good hL h1
  have g2 := atom_good hL2 h2
  have g3 := opt_good hL3 h3
  obtain ⟨x, hx⟩ := g1.2 [] [32, 115, 97, 121, 115, 32]
  obtain ⟨y, hy⟩ := g2.2
  obtain ⟨z, hz⟩ := g3.2 [32, 97, 116, 32] []
  refine ⟨⟨g1.1, g2.1, g3.1⟩, x ++ (y ++ z), ?_⟩
  unfold litS
  dsimp only
  rw [hx, Option.bind_some, hy, Option.bind_some, hz, Option.map_some]
theorem body_good {E : Nat} : ∀ {n : Nat} {L L1 : List Tok} {v : List Lt}, Ok L → body E n L = .ok (v, L1) → (∀ t ∈ v, LIn t ∧ ∃ s, litS t = some s) ∧ 1 ≤ v.length ∧ v.length ≤ n
  | 0, L, L1, v, _, h => by cases h
  | n + 1, L, L1, v, hL, h => by
    obtain ⟨t, L2, h1, h2⟩ := bnd_inv h
    have g := lit_good hL h1
    split at h2
    · obtain ⟨ts, L3, h3, h4⟩ := bnd_inv h2
      cases h4
      have k := body_good (hL.pre ((lit_pre h1).trans (Pre.tail L2))) h3
      refine ⟨fun u hu => ?_, by simp, by simp only [List.length_cons]; omega⟩
      rcases List.mem_cons.1 hu with rfl | hu
      · exact g
      · exact k.1 u hu
    · cases h2
      exact ⟨fun u hu => by simp at hu; subst hu; exact g, by simp, by simp⟩
theorem litsS_ok : ∀ {ts : List Lt}, (∀ t ∈ ts, LIn t ∧ ∃ s, litS t = some s) → ∃ s, litsS ts = some s
  | [], _ => ⟨[], rfl⟩
  | [t], h => (h t (by simp)).2
  | t :: u :: r, h => by
    obtain ⟨a, ha⟩ := (h t (by simp)).2
    obtain ⟨x, hx⟩ := litsS_ok (ts := u :: r) (fun v hv => h v (List.mem_cons_of_mem _ hv))
    exact ⟨_, by rw [litsS, ha, Option.bind_some, hx, Option.map_some]⟩
theorem rule_good {E : Nat} {L L1 : List Tok} {r : Ru} (hL : Ok L) (h : rule E L = .ok (r, L1)) : RIn r ∧ ∃ s, ruleS r = some s := by
  obtain ⟨h0, L2, L3, p, L4, t, L5, L6, b, L7, h1, h2, h3, h4, h5, h6, h7, rfl⟩ := rule_inv h
  have k2 := hL.pre (term_pre h1)
  have k3 := k2.pre (need_pre (by decide) h2)
  have k4 := k3.pre (atom_pre h3)
  have k5 := k4.pre (opt_pre h4)
  have k6 := k5.pre (need_pre (by decide) h5)
  have g1 := term_good hL h1
  have g3 := atom_good k3 h3
  have g4 := opt_good k4 h4
  have g6 := body_good k6 h6
  obtain ⟨x, hx⟩ := g1.2
  obtain ⟨y, hy⟩ := g3.2
  obtain ⟨z, hz⟩ := g4.2 [32, 116, 111, 32] []
  obtain ⟨u, hu⟩ := litsS_ok g6.1
  refine ⟨⟨g1.1, g3.1, g4.1, fun l hl => (g6.1 l hl).1⟩, ?_⟩
  unfold ruleS
  dsimp only
  rw [if_pos g6.2, hx, Option.bind_some, hy, Option.bind_some, hz, Option.bind_some, hu, Option.map_some]
  exact ⟨_, rfl⟩
theorem rules_good {E : Nat} : ∀ {n : Nat} {L : List Tok} {l : List Ru}, Ok L → rules E n L = .ok l → (∀ r ∈ l, RIn r ∧ ∃ s, ruleS r = some s) ∧ l.length ≤ n
  | n, [], l, _, h => by
    rw [rules_nil] at h; cases h
    exact ⟨fun r hr => by simp at hr, Nat.zero_le _⟩
  | 0, t :: L, l, _, h => by cases h
  | n + 1, t :: L, l, hL, h => by
    rw [rules_succ (by simp)] at h
    cases hr : rule E (t :: L) with
    | error e => rw [hr] at h; cases h
    | ok x =>
      obtain ⟨r, L1⟩ := x
      rw [hr] at h
      change rcons r (rules E n L1) = .ok l at h
      cases hq : rules E n L1 with
      | error e => rw [hq] at h; cases h
      | ok m =>
        rw [hq] at h
        cases h
        have k := rules_good (hL.pre (rule_pre hr)) hq
        refine ⟨fun u hu => ?_, by simp only [List.length_cons]; omega⟩
        rcases List.mem_cons.1 hu with rfl | hu
        · exact rule_good hL hr
        · exact k.1 u hu
theorem allS_ok : ∀ {l : List Ru}, (∀ r ∈ l, RIn r ∧ ∃ s, ruleS r = some s) → ∃ s, allS l = some s
  | [], _ => ⟨[], rfl⟩
  | r :: l, h => by
    obtain ⟨a, ha⟩ := (h r (by simp)).2
    obtain ⟨x, hx⟩ := allS_ok (l := l) (fun v hv => h v (List.mem_cons_of_mem _ hv))
    exact ⟨_, by rw [allS, ha, Option.bind_some, hx, Option.map_some]⟩
/-- what was parsed can be shown, or its text would be too long -/
theorem prog_good {m : List UInt8} {l : List Ru} (h : prog m = .ok l) : (∀ r ∈ l, RIn r) ∧ ((∃ s, progS l = .ok s) ∨ progS l = .error 3) := by
  unfold prog at h
  split at h
  · cases h
  · rename_i L hL
    have ho : Ok L := by
      unfold ans at hL
      split at hL
      · cases hL
      · exact tks_ok L _ hL
    have g := rules_good ho h
    refine ⟨fun r hr => (g.1 r hr).1, ?_⟩
    obtain ⟨s, hs⟩ := allS_ok g.1
    unfold progS
    rw [if_neg (by omega), hs]
    dsimp only
    split
    · exact .inr rfl
    · exact .inl ⟨_, rfl⟩
/-- a text that is a program: what it is shown as is the same program, and is shown as the same text again -/
theorem prog_again {m s : List UInt8} {l : List Ru} (h : prog m = .ok l) (hs : progS l = .ok s) : prog s = .ok l :=
  prog_shown (prog_good h).1 hs
end Sh
end Go.Proofs.YtcncmpgababfjaaDoor

/-
  The mathematics of layer 9: one token and nothing beside it; how long shown texts are; what the reference's digits are. No program in this text.
-/
namespace Go.Proofs.YtcncmpgababfjaaDoor
namespace Sh
open Lx Ps

def isTok (l : List UInt8) (k : Int) (own : List UInt8) : Bool :=
  match toks (ans l) with
  | [t] => (t.kind == k) && (t.text == own)
  | _ => false
theorem ans_one {s : List UInt8} {t : Tok} (h : one s 0 = some (t, s.length)) (h0 : 0 < s.length) (hl : t.text.length ≤ 32) (hs : s.length ≤ 4096) : ans s = .ok [t] := by
  have hf := one_first h0 h
  have e0 : skip s 0 = 0 := by unfold skip; exact skipN_stop h0 hf.1 hf.2
  have e1 : skip s s.length = s.length := by unfold skip; exact skipN_end (Nat.le_refl _)
  unfold ans
  rw [if_neg (by omega), e0, tks_cons h0 h (by omega), e1, tks_end (Nat.le_refl _)]; rfl
theorem isTok_inv {l own : List UInt8} {k : Int} (h : isTok l k own = true) : ∃ t, t.kind = k ∧ t.text = own ∧ TokOk t := by
  unfold isTok at h
  cases ha : ans l with
  | error x => rw [ha] at h; simp [toks] at h
  | ok L =>
    rw [ha] at h
    simp only [toks] at h
    split at h
    · rename_i t
      simp only [Bool.and_eq_true, beq_iff_eq] at h
      refine ⟨t, h.1, h.2, ?_⟩
      unfold ans at ha
      split at ha
      · cases ha
      · exact tks_ok _ _ ha t (by simp)
    · cases h
theorem isTok_one {s own : List UInt8} {k : Int} {t : Tok} (h : ans s = .ok [t]) (hk : t.kind = k) (ht : t.text = own) : isTok s k own = true := by
  unfold isTok; rw [h]; simp [toks, hk, ht]
theorem bool_eq {a b : Bool} (h1 : a = true → b = true) (h2 : b = true → a = true) : a = b := by
  cases a <;> cases b <;> simp_all
theorem tok_word (s : List UInt8) : isTok s 1 s = namedB small s := by
  refine bool_eq (fun h => ?_) (fun h => ?_)
  · obtain ⟨t, h1, h2, h3⟩ := isTok_inv h
    have := h3.w h1; rwa [h2] at this
  · have hn := named_len h
    exact isTok_one (ans_one (one_word h) hn.1 hn.2 (by omega)) rfl rfl
theorem tok_var (s : List UInt8) : isTok s 2 s = namedB great s := by
  refine bool_eq (fun h => ?_) (fun h => ?_)
  · obtain ⟨t, h1, h2, h3⟩ := isTok_inv h
    have := h3.v h1; rwa [h2] at this
  · have hn := named_len h
    exact isTok_one (ans_one (one_var h) hn.1 hn.2 (by omega)) rfl rfl
theorem tok_quote {s : List UInt8} (hs : s.length ≤ 32) : isTok (34 :: (s ++ [34])) 4 s = s.all plain := by
  refine bool_eq (fun h => ?_) (fun h => ?_)
  · obtain ⟨t, h1, h2, h3⟩ := isTok_inv h
    have := (h3.q h1).2; rw [h2] at this
    simpa using this
  · rw [List.all_eq_true] at h
    exact isTok_one (ans_one (one_quote h) (by simp) hs (by simp; omega)) rfl rfl

/-! what can be shown -/
def canT (t : Tm) : Bool := (termS t).isSome
def canM (t : Tm) : Bool := noneT t || canT t
def canA (p : List UInt8) (ts : List Tm) : Bool := wordB p && decide (ts.length ≤ 4) && ts.all canT
def canL (l : Lt) : Bool := canM l.by_ && canA l.pred l.args && canM l.at_
def canR (r : Ru) : Bool := canT r.home && canA r.pred r.args && canM r.to_ && decide (1 ≤ r.body.length) && decide (r.body.length ≤ 4) && r.body.all canL
theorem canT_eq (t : Tm) : canT t = if t.v ≠ [] then (zk t.k && isTok t.v 2 t.v) else if t.k.num = true then t.k.s.isEmpty else decide (t.k.n = 0) && plainB t.k.s := by
  unfold canT termS
  rw [tok_var]
  by_cases h1 : t.v ≠ []
  · rw [if_pos h1, if_pos h1]
    cases zk t.k && namedB great t.v <;> rfl
  · rw [if_neg h1, if_neg h1]
    by_cases h2 : t.k.num = true
    · rw [if_pos h2, if_pos h2]
      cases t.k.s <;> simp
    · rw [if_neg h2, if_neg h2]
      by_cases h3 : t.k.n = 0 ∧ plainB t.k.s = true
      · rw [if_pos h3]
        simp only [h3.1, h3.2, decide_true, Bool.and_true]
        split <;> rfl
      · rw [if_neg h3]
        by_cases h4 : t.k.n = 0
        · have : plainB t.k.s = false := by
            rw [Bool.eq_false_iff]; exact fun h => h3 ⟨h4, h⟩
          simp [this]
        · simp [h4]
theorem maybe_some (a : List UInt8) (t : Tm) (b : List UInt8) : (maybeS a t b).isSome = canM t := by
  unfold maybeS canM
  cases noneT t with
  | true => rfl
  | false => simp [canT]
theorem args_some : ∀ ts : List Tm, (argsS ts).isSome = ts.all canT
  | [] => rfl
  | [t] => by simp [argsS, canT]
  | t :: u :: r => by
    have ih := args_some (u :: r)
    rw [argsS, List.all_cons, ← ih, canT]
    cases termS t <;> simp
theorem atom_some (p : List UInt8) (ts : List Tm) : (atomS p ts).isSome = canA p ts := by
  unfold atomS canA
  by_cases h : wordB p = true ∧ ts.length ≤ 4
  · rw [if_pos h, ← args_some]; simp [h.1, h.2]
  · rw [if_neg h]
    by_cases h1 : wordB p = true
    · have : ¬ ts.length ≤ 4 := fun h2 => h ⟨h1, h2⟩
      simp [this]
    · simp [h1]
theorem lit_some (l : Lt) : (litS l).isSome = canL l := by
  unfold litS canL
  rw [← maybe_some [] l.by_ [32, 115, 97, 121, 115, 32], ← atom_some, ← maybe_some [32, 97, 116, 32] l.at_ []]
  cases maybeS [] l.by_ [32, 115, 97, 121, 115, 32] <;> cases atomS l.pred l.args <;> simp
theorem lits_some : ∀ ls : List Lt, (litsS ls).isSome = ls.all canL
  | [] => rfl
  | [t] => by simp [litsS, lit_some]
  | t :: u :: r => by
    have ih := lits_some (u :: r)
    rw [litsS, List.all_cons, ← ih, ← lit_some]
    cases litS t <;> simp
theorem rule_some (r : Ru) : (ruleS r).isSome = canR r := by
  unfold ruleS canR
  by_cases h : 1 ≤ r.body.length ∧ r.body.length ≤ 4
  · rw [if_pos h]
    simp only [h.1, h.2, decide_true, Bool.and_true]
    rw [← maybe_some [32, 116, 111, 32] r.to_ [], ← atom_some, ← lits_some, canT]
    cases termS r.home <;> cases atomS r.pred r.args <;> cases maybeS [32, 116, 111, 32] r.to_ [] <;> simp
  · rw [if_neg h]
    by_cases h1 : 1 ≤ r.body.length
    · have : ¬ r.body.length ≤ 4 := fun h2 => h ⟨h1, h2⟩
      simp [this]
    · simp [h1]

/-! how long shown texts are -/
theorem itoa_len {n : Int} (h : -9223372036854775808 ≤ n ∧ n ≤ 9223372036854775807) : (Go.Lib.itoa n).length ≤ 20 := by
  have hd : ∀ (k u : Nat), u < 10 ^ (k + 1) → (Go.Lib.decDigits u).length ≤ k + 1 := by
    intro k
    induction k with
    | zero => intro u hu; rw [Go.Lib.decDigits, dif_pos (by omega)]; simp
    | succ k ih =>
      intro u hu
      rw [Go.Lib.decDigits]
      split
      · simp
      · rw [List.length_append]
        have := ih (u / 10) (by rw [Nat.pow_succ] at hu; omega)
        simp; omega
  unfold Go.Lib.itoa
  split
  · have := hd 18 n.natAbs (by omega)
    simp; omega
  · have := hd 18 n.toNat (by omega)
    omega
theorem term_len {t : Tm} {s : List UInt8} (hi : KIn t) (h : termS t = some s) : s.length ≤ 34 := by
  unfold termS at h
  split at h
  · split at h
    · rename_i h2
      simp only [Bool.and_eq_true] at h2
      have := named_len h2.2
      cases h; omega
    · cases h
  · split at h
    · split at h
      · cases h; have := itoa_len hi; omega
      · cases h
    · split at h
      · rename_i h3
        have h3 := h3.2
        unfold plainB at h3
        simp only [Bool.and_eq_true, decide_eq_true_eq] at h3
        split at h
        · cases h; omega
        · cases h; simp; omega
      · cases h
theorem maybe_len {t : Tm} {a b s : List UInt8} (hi : KIn t) (h : maybeS a t b = some s) : s.length ≤ a.length + b.length + 34 := by
  unfold maybeS at h
  split at h
  · cases h; simp
  · rw [Option.map_eq_some_iff] at h
    obtain ⟨x, hx, rfl⟩ := h
    have := term_len hi hx
    simp; omega
theorem args_len : ∀ {ts : List Tm} {s : List UInt8}, (∀ t ∈ ts, KIn t) → argsS ts = some s → s.length ≤ 36 * ts.length
  | [], s, _, h => by cases h; simp
  | [t], s, hi, h => by have := term_len (hi t (by simp)) h; simp; omega
  | t :: u :: r, s, hi, h => by
    rw [argsS] at h
    obtain ⟨x, hx, h⟩ := Option.bind_eq_some_iff.1 h
    obtain ⟨y, hy, rfl⟩ := Option.map_eq_some_iff.1 h
    have h1 := term_len (hi t (by simp)) hx
    have h2 := args_len (fun v hv => hi v (List.mem_cons_of_mem _ hv)) hy
    simp only [List.length_append, List.length_cons] at *; omega
theorem word_len {p : List UInt8} (h : wordB p = true) : p.length ≤ 32 := (named_len (word_named h).1).2
theorem atom_len {p : List UInt8} {ts : List Tm} {s : List UInt8} (hi : ∀ t ∈ ts, KIn t) (h : atomS p ts = some s) : s.length ≤ 178 := by
  unfold atomS at h
  split at h
  · rename_i h1
    obtain ⟨y, hy, rfl⟩ := Option.map_eq_some_iff.1 h
    have h2 := args_len hi hy
    have h3 := word_len h1.1
    have h4 := h1.2
    simp only [List.length_append, List.length_cons, List.length_nil]; omega
  · cases h
theorem lit_len {l : Lt} {s : List UInt8} (hi : LIn l) (h : litS l = some s) : s.length ≤ 256 := by
  unfold litS at h
  obtain ⟨x, hx, h⟩ := Option.bind_eq_some_iff.1 h
  obtain ⟨y, hy, h⟩ := Option.bind_eq_some_iff.1 h
  obtain ⟨z, hz, rfl⟩ := Option.map_eq_some_iff.1 h
  have h1 := maybe_len hi.1 hx
  have h2 := atom_len hi.2.1 hy
  have h3 := maybe_len hi.2.2 hz
  simp only [List.length_append, List.length_cons, List.length_nil] at *; omega
theorem lits_len : ∀ {ts : List Lt} {s : List UInt8}, (∀ t ∈ ts, LIn t) → litsS ts = some s → s.length ≤ 258 * ts.length
  | [], s, _, h => by cases h; simp
  | [t], s, hi, h => by have := lit_len (hi t (by simp)) h; simp; omega
  | t :: u :: r, s, hi, h => by
    rw [litsS] at h
    obtain ⟨x, hx, h⟩ := Option.bind_eq_some_iff.1 h
    obtain ⟨y, hy, rfl⟩ := Option.map_eq_some_iff.1 h
    have h1 := lit_len (hi t (by simp)) hx
    have h2 := lits_len (fun v hv => hi v (List.mem_cons_of_mem _ hv)) hy
    simp only [List.length_append, List.length_cons] at *; omega
theorem rule_len {r : Ru} {s : List UInt8} (hi : RIn r) (h : ruleS r = some s) : s.length ≤ 1300 := by
  unfold ruleS at h
  split at h
  · rename_i h0
    obtain ⟨x, hx, h⟩ := Option.bind_eq_some_iff.1 h
    obtain ⟨y, hy, h⟩ := Option.bind_eq_some_iff.1 h
    obtain ⟨z, hz, h⟩ := Option.bind_eq_some_iff.1 h
    obtain ⟨b, hb, rfl⟩ := Option.map_eq_some_iff.1 h
    have h1 := term_len hi.1 hx
    have h2 := atom_len hi.2.1 hy
    have h3 := maybe_len hi.2.2.1 hz
    have h4 := lits_len hi.2.2.2 hb
    have h5 := h0.2
    simp only [List.length_append, List.length_cons, List.length_nil] at *; omega
  · cases h
theorem all_len : ∀ {l : List Ru} {s : List UInt8}, (∀ r ∈ l, RIn r) → allS l = some s → s.length ≤ 1301 * l.length
  | [], s, _, h => by cases h; simp
  | t :: r, s, hi, h => by
    rw [allS] at h
    obtain ⟨x, hx, h⟩ := Option.bind_eq_some_iff.1 h
    obtain ⟨y, hy, rfl⟩ := Option.map_eq_some_iff.1 h
    have h1 := rule_len (hi t (by simp)) hx
    have h2 := all_len (fun v hv => hi v (List.mem_cons_of_mem _ hv)) hy
    simp only [List.length_append, List.length_cons] at *; omega
end Sh
end Go.Proofs.YtcncmpgababfjaaDoor

/-
  The mathematics of layer 9: lists of arguments and literals, one more at a time. No program in this text.
-/
namespace Go.Proofs.YtcncmpgababfjaaDoor
namespace Sh
open Lx Ps

def sep (k : Nat) : List UInt8 := if k = 0 then [] else [44, 32]
theorem args_snoc : ∀ {ts : List Tm} {m x : List UInt8} {t : Tm}, argsS ts = some m → termS t = some x → argsS (ts ++ [t]) = some (m ++ (sep ts.length ++ x))
  | [], m, x, t, h, k => by
    have h0 : some ([] : List UInt8) = some m := h
    obtain rfl := Option.some.inj h0
    show termS t = _
    rw [k]; rfl
  | [u], m, x, t, h, k => by
    show (termS u).bind _ = _
    rw [show termS u = some m from h, Option.bind_some, show argsS [t] = some x from k]; rfl
  | u :: v :: r, m, x, t, h, k => by
    rw [argsS] at h
    obtain ⟨y, hy, h⟩ := Option.bind_eq_some_iff.1 h
    obtain ⟨z, hz, rfl⟩ := Option.map_eq_some_iff.1 h
    have ih := args_snoc hz k
    show (termS u).bind (fun s => (argsS ((v :: r) ++ [t])).map fun x => s ++ (44 :: 32 :: x)) = _
    rw [hy, Option.bind_some, ih]
    simp [sep]
theorem lits_snoc : ∀ {ts : List Lt} {m x : List UInt8} {t : Lt}, litsS ts = some m → litS t = some x → litsS (ts ++ [t]) = some (m ++ (sep ts.length ++ x))
  | [], m, x, t, h, k => by
    have h0 : some ([] : List UInt8) = some m := h
    obtain rfl := Option.some.inj h0
    show litS t = _
    rw [k]; rfl
  | [u], m, x, t, h, k => by
    show (litS u).bind _ = _
    rw [show litS u = some m from h, Option.bind_some, show litsS [t] = some x from k]; rfl
  | u :: v :: r, m, x, t, h, k => by
    rw [litsS] at h
    obtain ⟨y, hy, h⟩ := Option.bind_eq_some_iff.1 h
    obtain ⟨z, hz, rfl⟩ := Option.map_eq_some_iff.1 h
    have ih := lits_snoc hz k
    show (litS u).bind (fun s => (litsS ((v :: r) ++ [t])).map fun x => s ++ (44 :: 32 :: x)) = _
    rw [hy, Option.bind_some, ih]
    simp [sep]
theorem all_snoc : ∀ {ts : List Ru} {m x : List UInt8} {t : Ru}, allS ts = some m → ruleS t = some x → allS (ts ++ [t]) = some (m ++ (x ++ [10]))
  | [], m, x, t, h, k => by
    have h0 : some ([] : List UInt8) = some m := h
    obtain rfl := Option.some.inj h0
    show (ruleS t).bind _ = _
    rw [k]; rfl
  | u :: r, m, x, t, h, k => by
    rw [allS] at h
    obtain ⟨y, hy, h⟩ := Option.bind_eq_some_iff.1 h
    obtain ⟨z, hz, rfl⟩ := Option.map_eq_some_iff.1 h
    have ih := all_snoc hz k
    show (ruleS u).bind (fun s => (allS (r ++ [t])).map fun x => s ++ (10 :: x)) = _
    rw [hy, Option.bind_some, ih]
    simp
theorem all_none : ∀ {l : List Ru} {r : Ru}, r ∈ l → ruleS r = none → allS l = none
  | u :: l, r, h, k => by
    rw [allS]
    rcases List.mem_cons.1 h with rfl | h
    · rw [k]; rfl
    · rw [all_none h k]; cases ruleS u <;> rfl
/-- what a rule's text is made of -/
theorem rule_parts {r : Ru} {s : List UInt8} (h : ruleS r = some s) : ∃ a x t m, 1 ≤ r.body.length ∧ r.body.length ≤ 4 ∧ termS r.home = some a ∧ atomS r.pred r.args = some x ∧ maybeS [32, 116, 111, 32] r.to_ [] = some t ∧ litsS r.body = some m ∧ s = a ++ (58 :: 32 :: (x ++ (t ++ (32 :: 58 :: 45 :: 32 :: (m ++ [46]))))) := by
  unfold ruleS at h
  split at h
  · rename_i h0
    obtain ⟨x, hx, h⟩ := Option.bind_eq_some_iff.1 h
    obtain ⟨y, hy, h⟩ := Option.bind_eq_some_iff.1 h
    obtain ⟨z, hz, h⟩ := Option.bind_eq_some_iff.1 h
    obtain ⟨b, hb, rfl⟩ := Option.map_eq_some_iff.1 h
    exact ⟨x, y, z, b, h0.1, h0.2, hx, hy, hz, hb, rfl⟩
  · cases h
theorem lit_parts {l : Lt} {s : List UInt8} (h : litS l = some s) : ∃ b x a, maybeS [] l.by_ [32, 115, 97, 121, 115, 32] = some b ∧ atomS l.pred l.args = some x ∧ maybeS [32, 97, 116, 32] l.at_ [] = some a ∧ s = b ++ (x ++ a) := by
  unfold litS at h
  obtain ⟨x, hx, h⟩ := Option.bind_eq_some_iff.1 h
  obtain ⟨y, hy, h⟩ := Option.bind_eq_some_iff.1 h
  obtain ⟨z, hz, rfl⟩ := Option.map_eq_some_iff.1 h
  exact ⟨x, y, z, hx, hy, hz, rfl⟩
theorem atom_parts {p : List UInt8} {ts : List Tm} {s : List UInt8} (h : atomS p ts = some s) : ∃ m, wordB p = true ∧ ts.length ≤ 4 ∧ argsS ts = some m ∧ s = p ++ (40 :: (m ++ [41])) := by
  unfold atomS at h
  split at h
  · rename_i h0
    obtain ⟨b, hb, rfl⟩ := Option.map_eq_some_iff.1 h
    exact ⟨b, h0.1, h0.2, hb, rfl⟩
  · cases h
theorem args_each {ts : List Tm} {m : List UInt8} (h : argsS ts = some m) {t : Tm} (ht : t ∈ ts) : ∃ x, termS t = some x := by
  have := args_some ts
  rw [h] at this
  exact Option.isSome_iff_exists.1 (List.all_eq_true.1 this.symm t ht)
theorem lits_each {ts : List Lt} {m : List UInt8} (h : litsS ts = some m) {t : Lt} (ht : t ∈ ts) : ∃ x, litS t = some x := by
  have := lits_some ts
  rw [h] at this
  have h1 := List.all_eq_true.1 this.symm t ht
  rw [← lit_some] at h1
  exact Option.isSome_iff_exists.1 h1
end Sh
end Go.Proofs.YtcncmpgababfjaaDoor
