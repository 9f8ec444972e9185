/-
  The mathematics of layer 8: programs one behind the other; tokens at other places; tokens that are cut off. No program in this text.
-/
import Derived.Test.YtdehimbfcilhpaaGreatDoorQPa
namespace Go.Proofs.YtdehimbfcilhpaaGreatDoor
namespace Ps
open Lx

/-! tokens behind others -/
theorem Pre.ne {L L1 : List Tok} (h : Pre L L1) (h1 : L1 ≠ []) : L ≠ [] := by
  obtain ⟨x, rfl⟩ := h; simp [h1]
theorem need_ext {E E' : Nat} {k : Int} {s : List UInt8} {L L1 : List Tok} {u : Unit} (hk : k ≠ 0) (h : need E k s L = .ok (u, L1)) (M : List Tok) : need E' k s (L ++ M) = .ok (u, L1 ++ M) := by
  obtain ⟨t, rfl, ht⟩ := need_inv hk h
  show (if isT k s t = true then _ else _) = _
  rw [if_pos ht]; rfl
theorem term_ext {E E' : Nat} {L L1 : List Tok} {v : Tm} (h : term E L = .ok (v, L1)) (M : List Tok) : term E' (L ++ M) = .ok (v, L1 ++ M) := by
  obtain ⟨t, rfl, ht, rfl⟩ := term_inv h
  show (if mayT t = true then _ else _) = _
  rw [if_pos ht]; rfl
theorem word_ext {E E' : Nat} {L L1 : List Tok} {v : List UInt8} (h : word E L = .ok (v, L1)) (M : List Tok) : word E' (L ++ M) = .ok (v, L1 ++ M) := by
  obtain ⟨t, rfl, ht, rfl⟩ := word_inv h
  show (if mayW t = true then _ else _) = _
  rw [if_pos ht]; rfl
theorem args_ext {E E' : Nat} (M : List Tok) : ∀ {n : Nat} {L L1 : List Tok} {v : List Tm}, args E n L = .ok (v, L1) → L1 ≠ [] → args E' n (L ++ M) = .ok (v, L1 ++ M)
  | 0, L, L1, v, h, _ => by cases h
  | n + 1, L, L1, v, h, h1 => by
    obtain ⟨t, L2, h2, h⟩ := bnd_inv h
    rw [args, term_ext h2, bnd_ok]
    split at h
    · rename_i hc
      obtain ⟨ts, L3, h3, h⟩ := bnd_inv h
      cases h
      have hne := hd_ne (by decide) hc
      rw [hd_app M hne, if_pos hc, tail_app M hne, args_ext M h3 h1, bnd_ok]
    · rename_i hc
      cases h
      rw [hd_app M h1, if_neg hc]
theorem atom_ext {E E' : Nat} {L L1 : List Tok} {v : List UInt8 × List Tm} (h : atom E L = .ok (v, L1)) (M : List Tok) : atom E' (L ++ M) = .ok (v, L1 ++ M) := by
  obtain ⟨p, L2, h1, h⟩ := bnd_inv h
  obtain ⟨_, L3, h2, h⟩ := bnd_inv h
  unfold atom
  rw [word_ext h1, bnd_ok, need_ext (by decide) h2, bnd_ok]
  split at h
  · rename_i hc
    cases h
    have hne := hd_ne (by decide) hc
    rw [hd_app M hne, if_pos hc, tail_app M hne]
  · rename_i hc
    obtain ⟨ts, L4, h3, h⟩ := bnd_inv h
    obtain ⟨_, L5, h4, h⟩ := bnd_inv h
    cases h
    obtain ⟨x, hx, _⟩ := need_inv (by decide) h4
    have hne4 : L4 ≠ [] := by rw [hx]; simp
    rw [hd_app M ((args_pre h3).ne hne4), if_neg hc, args_ext M h3 hne4, bnd_ok, need_ext (by decide) h4, bnd_ok]
theorem opt_ext {E E' : Nat} {s : List UInt8} {L L1 : List Tok} {v : Tm} (h : opt E s L = .ok (v, L1)) (hne : L ≠ []) (M : List Tok) : opt E' s (L ++ M) = .ok (v, L1 ++ M) := by
  unfold opt at h ⊢
  rw [hd_app M hne]
  split at h
  · rename_i hc
    rw [if_pos hc, tail_app M hne, term_ext h]
  · rename_i hc
    cases h
    rw [if_neg hc]
theorem said_app {L : List Tok} (M : List Tok) (h : 2 ≤ L.length) : said (L ++ M) = said L := by
  match L, h with
  | a :: b :: L, _ => rfl
theorem by_ext {E E' : Nat} {L L1 : List Tok} {v : Tm} (h : by_ E L = .ok (v, L1)) (h2 : 2 ≤ L.length) (M : List Tok) : by_ E' (L ++ M) = .ok (v, L1 ++ M) := by
  unfold by_ at h ⊢
  rw [said_app M h2]
  split at h
  · rename_i hc
    obtain ⟨p, L2, h1, h⟩ := bnd_inv h
    obtain ⟨_, L3, h2, h⟩ := bnd_inv h
    cases h
    rw [if_pos hc, term_ext h1, bnd_ok, need_ext (by decide) h2, bnd_ok]
  · rename_i hc
    cases h
    rw [if_neg hc]
theorem atom_two {E : Nat} {L L1 : List Tok} {v : List UInt8 × List Tm} (h : atom E L = .ok (v, L1)) : 2 ≤ L.length := by
  obtain ⟨p, L2, h1, h⟩ := bnd_inv h
  obtain ⟨_, L3, h2, h⟩ := bnd_inv h
  obtain ⟨t, rfl, _⟩ := word_inv h1
  obtain ⟨t', rfl, _⟩ := need_inv (by decide) h2
  simp
theorem pre_len {L L1 : List Tok} (h : Pre L L1) : L1.length ≤ L.length := by
  obtain ⟨x, rfl⟩ := h; simp
theorem lit_ext {E E' : Nat} {L L1 : List Tok} {v : Lt} (h : lit E L = .ok (v, L1)) (hne : L1 ≠ []) (M : List Tok) : lit E' (L ++ M) = .ok (v, L1 ++ M) := by
  obtain ⟨b, L2, h1, h⟩ := bnd_inv h
  obtain ⟨p, L3, h2, h⟩ := bnd_inv h
  obtain ⟨a, L4, h3, h⟩ := bnd_inv h
  cases h
  have q := Nat.le_trans (atom_two h2) (pre_len (by_pre h1))
  unfold lit
  rw [by_ext h1 q, bnd_ok, atom_ext h2, bnd_ok, opt_ext h3 ((opt_pre h3).ne hne), bnd_ok]
theorem body_ext {E E' : Nat} (M : List Tok) : ∀ {n : Nat} {L L1 : List Tok} {v : List Lt}, body E n L = .ok (v, L1) → L1 ≠ [] → body E' n (L ++ M) = .ok (v, L1 ++ M)
  | 0, L, L1, v, h, _ => by cases h
  | n + 1, L, L1, v, h, h1 => by
    obtain ⟨t, L2, h2, h⟩ := bnd_inv h
    have hne2 : L2 ≠ [] := by
      split at h
      · rename_i hc; exact hd_ne (by decide) hc
      · cases h; exact h1
    rw [body, lit_ext h2 hne2, bnd_ok]
    split at h
    · rename_i hc
      obtain ⟨ts, L3, h3, h⟩ := bnd_inv h
      cases h
      rw [hd_app M hne2, if_pos hc, tail_app M hne2, body_ext M h3 h1, bnd_ok]
    · rename_i hc
      cases h
      rw [hd_app M h1, if_neg hc]
theorem need_ne {E : Nat} {k : Int} {s : List UInt8} {L L1 : List Tok} {u : Unit} (hk : k ≠ 0) (h : need E k s L = .ok (u, L1)) : L ≠ [] := by
  obtain ⟨t, rfl, _⟩ := need_inv hk h; simp
theorem rule_ext {E E' : Nat} {L L1 : List Tok} {r : Ru} (h : rule E L = .ok (r, L1)) (M : List Tok) : rule E' (L ++ M) = .ok (r, L1 ++ M) := by
  obtain ⟨h0, L2, L3, p, L4, t, L5, L6, b, L7, h1, h2, h3, h4, h5, h6, h7, rfl⟩ := rule_inv h
  have n5 := need_ne (by decide) h5
  have n7 := need_ne (by decide) h7
  exact rule_mk (term_ext h1 M) (need_ext (by decide) h2 M) (atom_ext h3 M) (opt_ext h4 ((opt_pre h4).ne n5) M) (need_ext (by decide) h5 M) (body_ext M h6 n7) (need_ext (by decide) h7 M)
def rprep (l : List Ru) : Rs → Rs
  | .ok m => .ok (l ++ m)
  | .error e => .error e
theorem rprep_nil (x : Rs) : rprep [] x = x := by cases x <;> rfl
theorem rprep_cons (r : Ru) (l : List Ru) (x : Rs) : rcons r (rprep l x) = rprep (r :: l) x := by cases x <;> rfl
theorem rprep_snoc (r : Ru) (l : List Ru) (x : Rs) : rprep l (rcons r x) = rprep (l ++ [r]) x := by cases x <;> simp [rprep, rcons]
theorem rules_join {E E' : Nat} (M : List Tok) : ∀ {n k : Nat} {L : List Tok} {l : List Ru}, rules E n L = .ok l → l.length ≤ k → rules E' k (L ++ M) = rprep l (rules E' (k - l.length) M)
  | 0, k, [], l, h, hk => by cases h; rw [rprep_nil]; rfl
  | 0, k, t :: L, l, h, hk => by cases h
  | n + 1, k, [], l, h, hk => by cases h; rw [rprep_nil]; rfl
  | n + 1, k, t :: L, l, h, hk => by
    rw [rules] at h
    unfold rthen at h
    split at h
    · cases h
    · rename_i r L1 h1
      cases h2 : rules E n L1 with
      | error x => rw [h2] at h; cases h
      | ok l' =>
        rw [h2] at h; cases h
        simp only [List.length_cons] at hk ⊢
        obtain ⟨k', rfl⟩ : ∃ k', k = k' + 1 := ⟨k - 1, by omega⟩
        rw [List.cons_append, rules, ← List.cons_append, rule_ext h1, rthen, rules_join M h2 (by omega), rprep_cons]
        congr 2; omega

/-! tokens at other places -/
def strip (t : Tok) : Tok := ⟨t.kind, t.text, t.n, 0⟩
def Sm (L L' : List Tok) : Prop := L.map strip = L'.map strip
theorem Sm.refl (L : List Tok) : Sm L L := Eq.refl (L.map strip)
theorem Sm.symm {L L' : List Tok} (h : Sm L L') : Sm L' L := Eq.symm h
theorem Sm.cases {L L' : List Tok} (h : Sm L L') : (L = [] ∧ L' = []) ∨ ∃ t R t' R', L = t :: R ∧ L' = t' :: R' ∧ strip t = strip t' ∧ Sm R R' := by
  unfold Sm at h
  match L, L', h with
  | [], [], _ => exact .inl ⟨rfl, rfl⟩
  | t :: R, t' :: R', h =>
    simp only [List.map_cons, List.cons.injEq] at h
    exact .inr ⟨t, R, t', R', rfl, rfl, h.1, h.2⟩
theorem Sm.hd {L L' : List Tok} (h : Sm L L') : strip (hd L) = strip (hd L') := by
  rcases h.cases with ⟨rfl, rfl⟩ | ⟨t, R, t', R', rfl, rfl, h1, _⟩
  · rfl
  · exact h1
theorem Sm.tail {L L' : List Tok} (h : Sm L L') : Sm L.tail L'.tail := by
  rcases h.cases with ⟨rfl, rfl⟩ | ⟨t, R, t', R', rfl, rfl, _, h2⟩
  · rfl
  · exact h2
theorem isT_sm {k : Int} {s : List UInt8} {t t' : Tok} (h : strip t = strip t') : isT k s t = isT k s t' := by
  simp only [strip, Tok.mk.injEq] at h
  unfold isT; rw [h.1, h.2.1]
theorem mayW_sm {t t' : Tok} (h : strip t = strip t') : mayW t = mayW t' := by
  simp only [strip, Tok.mk.injEq] at h
  unfold mayW; rw [h.1, h.2.1]
theorem mayT_sm {t t' : Tok} (h : strip t = strip t') : mayT t = mayT t' := by
  have hw := mayW_sm h
  simp only [strip, Tok.mk.injEq] at h
  unfold mayT; rw [h.1, h.2.1, hw]
theorem tm_sm {t t' : Tok} (h : strip t = strip t') : tm t = tm t' := by
  simp only [strip, Tok.mk.injEq] at h
  unfold tm; rw [h.1, h.2.1, h.2.2.1]
theorem text_sm {t t' : Tok} (h : strip t = strip t') : t.text = t'.text := by
  simp only [strip, Tok.mk.injEq] at h; exact h.2.1
def Rel {α : Type} : Rz α → Rz α → Prop
  | .ok (v, L), .ok (v', L') => v = v' ∧ Sm L L'
  | .error x, .error x' => x.2 = x'.2
  | _, _ => False
theorem Rel.ok {α : Type} {v : α} {L L' : List Tok} (h : Sm L L') : Rel (.ok (v, L)) (.ok (v, L')) := ⟨rfl, h⟩
theorem Rel.bnd {α β : Type} {r r' : Rz α} {f f' : α → List Tok → Rz β} (h : Rel r r') (hf : ∀ v L L', Sm L L' → Rel (f v L) (f' v L')) : Rel (bnd r f) (bnd r' f') := by
  match r, r', h with
  | .ok (v, L), .ok (v', L'), h =>
    obtain ⟨rfl, h2⟩ := h
    exact hf v L L' h2
  | .error x, .error x', h => exact h
theorem need_sm {E E' : Nat} {k : Int} {s : List UInt8} {L L' : List Tok} (h : Sm L L') : Rel (need E k s L) (need E' k s L') := by
  unfold need; rw [isT_sm h.hd]
  split
  · exact Rel.ok h.tail
  · rfl
theorem term_sm {E E' : Nat} {L L' : List Tok} (h : Sm L L') : Rel (term E L) (term E' L') := by
  unfold term; rw [mayT_sm h.hd, tm_sm h.hd]
  split
  · exact Rel.ok h.tail
  · rfl
theorem word_sm {E E' : Nat} {L L' : List Tok} (h : Sm L L') : Rel (word E L) (word E' L') := by
  unfold word; rw [mayW_sm h.hd, text_sm h.hd]
  split
  · exact Rel.ok h.tail
  · rfl
theorem many_sm {α : Type} {E E' : Nat} {L L' : List Tok} (h : Sm L L') : Rel (.error (many E L) : Rz α) (.error (many E' L')) := by
  show (many E L).2 = (many E' L').2
  unfold many; rw [mayT_sm h.hd]
theorem args_sm {E E' : Nat} : ∀ {n : Nat} {L L' : List Tok}, Sm L L' → Rel (args E n L) (args E' n L')
  | 0, L, L', h => many_sm h
  | n + 1, L, L', h => by
    rw [args, args]
    refine Rel.bnd (term_sm h) fun t L1 L1' h1 => ?_
    rw [isT_sm h1.hd]
    split
    · exact Rel.bnd (args_sm h1.tail) fun ts L2 L2' h2 => Rel.ok h2
    · exact Rel.ok h1
theorem atom_sm {E E' : Nat} {L L' : List Tok} (h : Sm L L') : Rel (atom E L) (atom E' L') := by
  unfold atom
  refine Rel.bnd (word_sm h) fun p L1 L1' h1 => Rel.bnd (need_sm h1) fun _ L2 L2' h2 => ?_
  rw [isT_sm h2.hd]
  split
  · exact Rel.ok h2.tail
  · exact Rel.bnd (args_sm h2) fun ts L3 L3' h3 => Rel.bnd (need_sm h3) fun _ L4 L4' h4 => Rel.ok h4
theorem opt_sm {E E' : Nat} {s : List UInt8} {L L' : List Tok} (h : Sm L L') : Rel (opt E s L) (opt E' s L') := by
  unfold opt; rw [isT_sm h.hd]
  split
  · exact term_sm h.tail
  · exact Rel.ok h
theorem by_sm {E E' : Nat} {L L' : List Tok} (h : Sm L L') : Rel (by_ E L) (by_ E' L') := by
  unfold by_ said; rw [mayW_sm h.hd, isT_sm h.tail.hd]
  split
  · exact Rel.bnd (term_sm h) fun p L1 L1' h1 => Rel.bnd (need_sm h1) fun _ L2 L2' h2 => Rel.ok h2
  · exact Rel.ok h
theorem lit_sm {E E' : Nat} {L L' : List Tok} (h : Sm L L') : Rel (lit E L) (lit E' L') :=
  Rel.bnd (by_sm h) fun _ _ _ h1 => Rel.bnd (atom_sm h1) fun _ _ _ h2 => Rel.bnd (opt_sm h2) fun _ _ _ h3 => Rel.ok h3
theorem body_sm {E E' : Nat} : ∀ {n : Nat} {L L' : List Tok}, Sm L L' → Rel (body E n L) (body E' n L')
  | 0, L, L', h => many_sm h
  | n + 1, L, L', h => by
    rw [body, body]
    refine Rel.bnd (lit_sm h) fun t L1 L1' h1 => ?_
    rw [isT_sm h1.hd]
    split
    · exact Rel.bnd (body_sm h1.tail) fun ts L2 L2' h2 => Rel.ok h2
    · exact Rel.ok h1
theorem rule_sm {E E' : Nat} {L L' : List Tok} (h : Sm L L') : Rel (rule E L) (rule E' L') :=
  Rel.bnd (term_sm h) fun _ _ _ h1 => Rel.bnd (need_sm h1) fun _ _ _ h2 => Rel.bnd (atom_sm h2) fun _ _ _ h3 => Rel.bnd (opt_sm h3) fun _ _ _ h4 => Rel.bnd (need_sm h4) fun _ _ _ h5 =>
    Rel.bnd (body_sm h5) fun _ _ _ h6 => Rel.bnd (need_sm h6) fun _ _ _ h7 => Rel.ok h7
def RelS : Rs → Rs → Prop
  | .ok l, .ok l' => l = l'
  | .error x, .error x' => x.2 = x'.2
  | _, _ => False
theorem RelS.cons {r : Ru} {x x' : Rs} (h : RelS x x') : RelS (rcons r x) (rcons r x') := by
  match x, x', h with
  | .ok l, .ok l', h => exact congrArg (r :: ·) h
  | .error _, .error _, h => exact h
theorem rules_sm {E E' : Nat} : ∀ {n : Nat} {L L' : List Tok}, Sm L L' → RelS (rules E n L) (rules E' n L')
  | n, L, L', h => by
    rcases h.cases with ⟨rfl, rfl⟩ | ⟨t, R, t', R', rfl, rfl, h1, h2⟩
    · rw [rules_nil, rules_nil]; rfl
    · cases n with
      | zero => exact many_sm (α := Unit) h
      | succ n =>
        rw [rules, rules]
        have hr := rule_sm (E := E) (E' := E') h
        generalize rule E (t :: R) = x at hr
        generalize rule E' (t' :: R') = x' at hr
        match x, x', hr with
        | .ok (v, L1), .ok (v', L1'), hr =>
          obtain ⟨rfl, h3⟩ := hr
          exact RelS.cons (rules_sm h3)
        | .error x, .error x', h => exact h
theorem RelS.err {x x' : Rs} (h : RelS x x') : err x = err x' ∧ rs x = rs x' := by
  match x, x', h with
  | .ok l, .ok l', h => exact ⟨rfl, h⟩
  | .error _, .error _, h => exact ⟨h, rfl⟩
theorem sm_shift (n : Nat) (M : List Tok) : Sm (M.map (sh n)) M := by
  unfold Sm; rw [List.map_map]; rfl

/-! two programs -/
theorem rules_over {E E' : Nat} {X : List Tok → Prop} (hX : ∀ L L1, Pre L L1 → X L → X L1) : ∀ {n k : Nat} {L : List Tok} {l : List Ru}, rules E n L = .ok l → k < l.length → X L → ∃ t R, X (t :: R) ∧ rules E' k L = .error (t.pl, 81)
  | 0, k, [], l, h, hk, _ => by cases h; simp at hk
  | 0, k, t :: L, l, h, hk, _ => by cases h
  | n + 1, k, [], l, h, hk, _ => by cases h; simp at hk
  | n + 1, k, t :: L, l, h, hk, hx => by
    rw [rules] at h
    unfold rthen at h
    split at h
    · cases h
    · rename_i r L1 h1
      cases h2 : rules E n L1 with
      | error x => rw [h2] at h; cases h
      | ok l' =>
        rw [h2] at h; cases h
        cases k with
        | zero =>
          refine ⟨t, L, hx, ?_⟩
          show Except.error (many E' (t :: L)) = _
          unfold many; rw [if_pos (rule_begins h1)]; rfl
        | succ k =>
          obtain ⟨u, R, q1, q2⟩ := rules_over (E' := E') hX h2 (by simpa using hk) (hX _ _ (rule_pre h1) hx)
          refine ⟨u, R, q1, ?_⟩
          have e := rule_ext (E' := E') h1 []
          rw [List.append_nil, List.append_nil] at e
          rw [rules, e, rthen, q2]; rfl
theorem prog_join {a b : List UInt8} {l m : List Ru} (ha : prog a = .ok l) (hb : prog b = .ok m) (h : a.length + 1 + b.length ≤ 4096) :
    (l.length + m.length ≤ 16 → prog (a ++ 10 :: b) = .ok (l ++ m)) ∧ (16 < l.length + m.length → ∃ p, a.length < p ∧ prog (a ++ 10 :: b) = .error (p, 81)) := by
  have fl := prog_few ha
  unfold prog at ha hb
  cases h1 : ans a with
  | error x => rw [h1] at ha; cases ha
  | ok L =>
    rw [h1] at ha
    cases h2 : ans b with
    | error x => rw [h2] at hb; cases hb
    | ok M =>
      rw [h2] at hb
      simp only at ha hb
      have hj := ans_join h1 h2 h
      have e : prog (a ++ 10 :: b) = rprep l (rules (a ++ 10 :: b).length (16 - l.length) (M.map (sh (a.length + 1)))) := by
        unfold prog; rw [hj]; exact rules_join _ ha fl
      generalize (a ++ 10 :: b).length = E at e
      have hs := rules_sm (E := b.length) (E' := E) (n := 16) (sm_shift (a.length + 1) M).symm
      rw [hb] at hs
      generalize hM : M.map (sh (a.length + 1)) = M' at hs e
      cases h3 : rules E 16 M' with
      | error x => rw [h3] at hs; exact absurd hs (by simp [RelS])
      | ok m' =>
        rw [h3] at hs
        have hs : m = m' := hs
        subst hs
        refine ⟨fun hle => ?_, fun hgt => ?_⟩
        · have q := rules_join (E' := E) [] h3 (k := 16 - l.length) (by omega)
          rw [List.append_nil, rules_nil] at q
          rw [e, q]; simp [rprep]
        · have hall : ∀ t ∈ M', a.length < t.pl := by
            intro t ht
            rw [← hM] at ht
            obtain ⟨u, _, rfl⟩ := List.mem_map.1 ht
            show a.length < a.length + 1 + u.pl
            omega
          obtain ⟨t, R, q1, q2⟩ := rules_over (E' := E) (X := fun L => ∀ t ∈ L, a.length < t.pl) (fun L L1 p hx t ht => hx t (p.mem ht)) h3 (k := 16 - l.length) (by omega) hall
          exact ⟨t.pl, q1 t (by simp), by rw [e, q2]; rfl⟩

/-! tokens that are cut off -/
def CutS {α : Type} (E : Nat) (B : List Tok) (v : α) (L1 : List Tok) (r : Rz α) : Prop := (∃ A1, L1 = A1 ++ B ∧ r = .ok (v, A1)) ∨ r = .error (E, 80)
def Dry {α : Type} (E : Nat) (r : Rz α) : Prop := (∃ v, r = .ok (v, [])) ∨ r = .error (E, 80)
def Cut {α : Type} (E : Nat) (B : List Tok) (v : α) (L1 : List Tok) (r : Rz α) : Prop := (∃ A1, A1 ≠ [] ∧ L1 = A1 ++ B ∧ r = .ok (v, A1)) ∨ Dry E r
theorem CutS.cut {α : Type} {E : Nat} {B : List Tok} {v : α} {L1 : List Tok} {r : Rz α} (h : CutS E B v L1 r) : Cut E B v L1 r := by
  rcases h with ⟨A1, h1, h2⟩ | h
  · cases A1 with
    | nil => exact .inr (.inl ⟨v, h2⟩)
    | cons a A => exact .inl ⟨a :: A, by simp, h1, h2⟩
  · exact .inr (.inr h)
theorem Cut.bnd {α β : Type} {E : Nat} {B : List Tok} {v : α} {L1 : List Tok} {r : Rz α} {f : α → List Tok → Rz β} {u : β} {M : List Tok} (h : Cut E B v L1 r) (hf : ∀ A1, A1 ≠ [] → L1 = A1 ++ B → Cut E B u M (f v A1)) (hd : ∀ v', Dry E (f v' [])) : Cut E B u M (bnd r f) := by
  rcases h with ⟨A1, h1, h2, rfl⟩ | ⟨v', rfl⟩ | rfl
  · exact hf A1 h1 h2
  · exact .inr (hd v')
  · exact .inr (.inr rfl)
theorem CutS.bnd {α β : Type} {E : Nat} {B : List Tok} {v : α} {L1 : List Tok} {r : Rz α} {f : α → List Tok → Rz β} {u : β} {M : List Tok} (h : CutS E B v L1 r) (hf : ∀ A1, L1 = A1 ++ B → CutS E B u M (f v A1)) : CutS E B u M (bnd r f) := by
  rcases h with ⟨A1, h2, rfl⟩ | rfl
  · exact hf A1 h2
  · exact .inr rfl
theorem Cut.bndS {α β : Type} {E : Nat} {B : List Tok} {v : α} {L1 : List Tok} {r : Rz α} {f : α → List Tok → Rz β} {u : β} {M : List Tok} (h : Cut E B v L1 r) (hf : ∀ A1, A1 ≠ [] → L1 = A1 ++ B → CutS E B u M (f v A1)) (hd : ∀ v', f v' [] = .error (E, 80)) : CutS E B u M (Ps.bnd r f) := by
  rcases h with ⟨A1, h1, h2, rfl⟩ | ⟨v', rfl⟩ | rfl
  · exact hf A1 h1 h2
  · exact .inr (hd v')
  · exact .inr rfl
theorem need_dry (E : Nat) {k : Int} (s : List UInt8) (hk : k ≠ 0) : need E k s [] = .error (E, 80) := by
  unfold need
  rw [if_neg fun h => absurd rfl (hd_ne hk h)]; rfl
theorem term_dry (E : Nat) : term E [] = .error (E, 80) := rfl
theorem word_dry (E : Nat) : word E [] = .error (E, 80) := rfl
theorem need_cut {E E' : Nat} {k : Int} {s : List UInt8} {A B L1 : List Tok} {u : Unit} (hk : k ≠ 0) (h : need E k s (A ++ B) = .ok (u, L1)) : CutS E' B u L1 (need E' k s A) := by
  obtain ⟨t, h1, h2⟩ := need_inv hk h
  cases A with
  | nil => exact .inr (need_dry E' s hk)
  | cons a A =>
    simp only [List.cons_append, List.cons.injEq] at h1
    obtain ⟨rfl, rfl⟩ := h1
    exact .inl ⟨A, rfl, by show (if isT k s a = true then _ else _) = _; rw [if_pos h2]; rfl⟩
theorem term_cut {E E' : Nat} {A B L1 : List Tok} {v : Tm} (h : term E (A ++ B) = .ok (v, L1)) : CutS E' B v L1 (term E' A) := by
  obtain ⟨t, h1, h2, rfl⟩ := term_inv h
  cases A with
  | nil => exact .inr (term_dry E')
  | cons a A =>
    simp only [List.cons_append, List.cons.injEq] at h1
    obtain ⟨rfl, rfl⟩ := h1
    exact .inl ⟨A, rfl, by show (if mayT a = true then _ else _) = _; rw [if_pos h2]; rfl⟩
theorem word_cut {E E' : Nat} {A B L1 : List Tok} {v : List UInt8} (h : word E (A ++ B) = .ok (v, L1)) : CutS E' B v L1 (word E' A) := by
  obtain ⟨t, h1, h2, rfl⟩ := word_inv h
  cases A with
  | nil => exact .inr (word_dry E')
  | cons a A =>
    simp only [List.cons_append, List.cons.injEq] at h1
    obtain ⟨rfl, rfl⟩ := h1
    exact .inl ⟨A, rfl, by show (if mayW a = true then _ else _) = _; rw [if_pos h2]; rfl⟩
theorem comma_dry : isT 5 [44] (hd []) = true → False := by decide
theorem args_cut {E E' : Nat} {B : List Tok} : ∀ {n : Nat} {A L1 : List Tok} {v : List Tm}, args E n (A ++ B) = .ok (v, L1) → Cut E' B v L1 (args E' n A)
  | 0, A, L1, v, h => by cases h
  | n + 1, A, L1, v, h => by
    obtain ⟨t, L2, h2, h⟩ := bnd_inv h
    rw [args]
    rcases term_cut (E' := E') h2 with ⟨A2, rfl, e⟩ | e
    · rw [e, bnd_ok]
      by_cases hA : A2 = []
      · subst hA
        rw [if_neg comma_dry]
        exact .inr (.inl ⟨_, rfl⟩)
      · rw [hd_app B hA] at h
        split at h
        · rename_i hc
          rw [tail_app B hA] at h
          obtain ⟨ts, L3, h3, h⟩ := bnd_inv h
          cases h
          rw [if_pos hc]
          exact Cut.bnd (args_cut h3) (fun A1 n1 e1 => .inl ⟨A1, n1, e1, rfl⟩) (fun v' => .inl ⟨_, rfl⟩)
        · rename_i hc
          cases h
          rw [if_neg hc]
          exact .inl ⟨A2, hA, rfl, rfl⟩
    · rw [e]; exact .inr (.inr rfl)
theorem args_dry (E n : Nat) : args E n [] = .error (E, 80) := by cases n <;> rfl
theorem atom_cut {E E' : Nat} {A B L1 : List Tok} {v : List UInt8 × List Tm} (h : atom E (A ++ B) = .ok (v, L1)) : CutS E' B v L1 (atom E' A) := by
  obtain ⟨p, L2, h1, h⟩ := bnd_inv h
  obtain ⟨_, L3, h2, h⟩ := bnd_inv h
  unfold atom
  refine CutS.bnd (word_cut h1) fun A1 e1 => ?_
  subst e1
  refine CutS.bnd (need_cut (by decide) h2) fun A2 e2 => ?_
  subst e2
  by_cases hA : A2 = []
  · subst hA
    rw [if_neg (by decide), args_dry]; exact .inr rfl
  · rw [hd_app B hA] at h
    split at h
    · rename_i hc
      rw [tail_app B hA] at h
      cases h
      rw [if_pos hc]; exact .inl ⟨_, rfl, rfl⟩
    · rename_i hc
      obtain ⟨ts, L4, h3, h⟩ := bnd_inv h
      obtain ⟨_, L5, h4, h⟩ := bnd_inv h
      cases h
      rw [if_neg hc]
      refine Cut.bndS (args_cut h3) ?_ ?_
      rotate_left
      · intro v'; rw [need_dry E' _ (by decide)]; rfl
      intro A4 _ e4
      subst e4
      exact CutS.bnd (need_cut (by decide) h4) fun A5 e5 => .inl ⟨A5, e5, rfl⟩
theorem atom_dry (E : Nat) : atom E [] = .error (E, 80) := rfl
theorem opt_cut {E E' : Nat} {s : List UInt8} {A B L1 : List Tok} {v : Tm} (h : opt E s (A ++ B) = .ok (v, L1)) : Cut E' B v L1 (opt E' s A) := by
  by_cases hA : A = []
  · subst hA
    refine .inr (.inl ⟨t0, ?_⟩)
    unfold opt; rw [if_neg fun h => absurd rfl (hd_ne (by decide) h)]
  · unfold opt at h ⊢
    rw [hd_app B hA] at h
    split at h
    · rename_i hc
      rw [tail_app B hA] at h
      rw [if_pos hc]
      exact (term_cut h).cut
    · rename_i hc
      cases h
      rw [if_neg hc]; exact .inl ⟨A, hA, rfl, rfl⟩
theorem opt_dry (E : Nat) (s : List UInt8) : opt E s [] = .ok (t0, []) := by
  unfold opt; rw [if_neg fun h => absurd rfl (hd_ne (by decide) h)]
theorem lit_dry (E : Nat) : lit E [] = .error (E, 80) := rfl
theorem lit_cut {E E' : Nat} {A B L1 : List Tok} {v : Lt} (h : lit E (A ++ B) = .ok (v, L1)) : Cut E' B v L1 (lit E' A) := by
  obtain ⟨b, L2, h1, h⟩ := bnd_inv h
  obtain ⟨p, L3, h2, h⟩ := bnd_inv h
  obtain ⟨a, L4, h3, h⟩ := bnd_inv h
  cases h
  by_cases hA : A = []
  · subst hA; rw [lit_dry]; exact .inr (.inr rfl)
  have rest : ∀ A1 b', L2 = A1 ++ B → b' = b → Cut E' B (⟨b, p.1, p.2, a⟩ : Lt) L1 (Ps.bnd (atom E' A1) fun p L2 => Ps.bnd (opt E' at_ L2) fun a L3 => .ok (⟨b', p.1, p.2, a⟩, L3)) := by
    intro A1 b' e1 e2
    subst e1 e2
    refine Cut.bnd (atom_cut h2).cut (fun A2 _ e2 => ?_) (fun v' => by rw [opt_dry]; exact .inl ⟨_, rfl⟩)
    subst e2
    exact Cut.bnd (opt_cut h3) (fun A3 n3 e3 => .inl ⟨A3, n3, e3, rfl⟩) (fun v' => .inl ⟨_, rfl⟩)
  unfold lit by_
  unfold by_ at h1
  by_cases hs : said A = true
  · rw [if_pos hs]
    have hs' : said (A ++ B) = true := by
      match A, hA, hs with
      | [x], _, hs =>
        have hm : mayW x = false := by
          have : (!mayW x || false) = true := hs
          simpa using this
        show (!mayW x || _) = true
        rw [hm]; rfl
      | x :: y :: A, _, hs => exact hs
    rw [if_pos hs'] at h1
    obtain ⟨q, L5, h4, h1⟩ := bnd_inv h1
    obtain ⟨_, L6, h5, h1⟩ := bnd_inv h1
    cases h1
    have hq : CutS E' B b L2 (Ps.bnd (term E' A) fun t L1 => Ps.bnd (need E' 1 says L1) fun _ L2 => .ok (t, L2)) := by
      refine CutS.bnd (term_cut h4) fun A1 e1 => ?_
      subst e1
      exact CutS.bnd (need_cut (by decide) h5) fun A2 e2 => .inl ⟨A2, e2, rfl⟩
    rcases hq with ⟨A1, e1, e2⟩ | e2
    · rw [e2, bnd_ok]; exact rest A1 b e1 rfl
    · rw [e2]; exact .inr (.inr rfl)
  · rw [if_neg hs, bnd_ok]
    by_cases hl : 2 ≤ A.length
    · rw [said_app B hl, if_neg hs] at h1
      cases h1
      exact rest A t0 rfl rfl
    · obtain ⟨x, rfl⟩ : ∃ x, A = [x] := by
        match A, hA, hl with
        | [x], _, _ => exact ⟨x, rfl⟩
        | x :: y :: A, _, hl => simp at hl
      have hm : mayW x = true := by
        have : ¬ ((!mayW x || false) = true) := hs
        simpa using this
      refine .inr (.inr ?_)
      have e : atom E' [x] = .error (E', 80) := by
        unfold atom word
        show Ps.bnd (if mayW x = true then _ else _) _ = _
        rw [if_pos hm]; rfl
      rw [e]; rfl
theorem body_cut {E E' : Nat} {B : List Tok} : ∀ {n : Nat} {A L1 : List Tok} {v : List Lt}, body E n (A ++ B) = .ok (v, L1) → Cut E' B v L1 (body E' n A)
  | 0, A, L1, v, h => by cases h
  | n + 1, A, L1, v, h => by
    obtain ⟨t, L2, h2, h⟩ := bnd_inv h
    rw [body]
    refine Cut.bnd (lit_cut h2) (fun A2 hA e => ?_) (fun v' => by rw [if_neg comma_dry]; exact .inl ⟨_, rfl⟩)
    subst e
    rw [hd_app B hA] at h
    split at h
    · rename_i hc
      rw [tail_app B hA] at h
      obtain ⟨ts, L3, h3, h⟩ := bnd_inv h
      cases h
      rw [if_pos hc]
      exact Cut.bnd (body_cut h3) (fun A1 n1 e1 => .inl ⟨A1, n1, e1, rfl⟩) (fun v' => .inl ⟨_, rfl⟩)
    · rename_i hc
      cases h
      rw [if_neg hc]
      exact .inl ⟨A2, hA, rfl, rfl⟩
theorem body_dry (E n : Nat) : body E n [] = .error (E, 80) := by cases n <;> rfl
theorem rule_cut {E E' : Nat} {A B L1 : List Tok} {r : Ru} (h : rule E (A ++ B) = .ok (r, L1)) : CutS E' B r L1 (rule E' A) := by
  obtain ⟨h0, L2, L3, p, L4, t, L5, L6, b, L7, h1, h2, h3, h4, h5, h6, h7, rfl⟩ := rule_inv h
  unfold rule
  refine CutS.bnd (term_cut h1) fun A2 e => ?_
  subst e
  refine CutS.bnd (need_cut (by decide) h2) fun A3 e => ?_
  subst e
  refine CutS.bnd (atom_cut h3) fun A4 e => ?_
  subst e
  refine Cut.bndS (opt_cut h4) ?_ ?_
  rotate_left
  · intro v'; rw [need_dry E' _ (by decide)]; rfl
  intro A5 _ e
  subst e
  refine CutS.bnd (need_cut (by decide) h5) fun A6 e => ?_
  subst e
  refine Cut.bndS (body_cut h6) ?_ ?_
  rotate_left
  · intro v'; rw [need_dry E' _ (by decide)]; rfl
  intro A7 _ e
  subst e
  exact CutS.bnd (need_cut (by decide) h7) fun A8 e => .inl ⟨A8, e, rfl⟩
theorem rules_cut {E E' : Nat} {B : List Tok} (hB : B ≠ []) : ∀ {n : Nat} {A : List Tok} {l : List Ru}, rules E n (A ++ B) = .ok l → (∃ m, rules E' n A = .ok m ∧ m.length < l.length ∧ m = l.take m.length) ∨ rules E' n A = .error (E', 80)
  | n, [], l, h => by
    refine .inl ⟨[], rules_nil E' n, ?_, rfl⟩
    cases n with
    | zero => rw [List.nil_append, rules_zero hB] at h; cases h
    | succ n =>
      rw [List.nil_append, rules_succ hB] at h
      unfold rthen at h
      split at h
      · cases h
      · rename_i r L1 h1
        cases h2 : rules E n L1 with
        | error x => rw [h2] at h; cases h
        | ok l' => rw [h2] at h; cases h; simp
  | 0, a :: A, l, h => by cases h
  | n + 1, a :: A, l, h => by
    rw [List.cons_append, rules, ← List.cons_append] at h
    unfold rthen at h
    split at h
    · cases h
    · rename_i r L1 h1
      cases h2 : rules E n L1 with
      | error x => rw [h2] at h; cases h
      | ok l' =>
        rw [h2] at h; cases h
        rw [rules]
        rcases rule_cut (E' := E') h1 with ⟨A1, rfl, e⟩ | e
        · rw [e, rthen]
          rcases rules_cut (E' := E') hB h2 with ⟨m, q1, q2, q3⟩ | q
          · refine .inl ⟨r :: m, by rw [q1]; rfl, by simpa using q2, ?_⟩
            simp only [List.length_cons, List.take_succ_cons]
            rw [← q3]
          · rw [q]; exact .inr rfl
        · rw [e]; exact .inr rfl
end Ps
end Go.Proofs.YtdehimbfcilhpaaGreatDoor

/-
  The mathematics of layer 12: the document's example, step by step; what the statements say. No program in this text.
-/
namespace Go.Proofs.YtdehimbfcilhpaaGreatDoor
namespace Ml
open Mt (Tx Env uni lit lits head nm val)

/-- where the model is known, and little, the way to it is little -/
theorem LstF.of_lst {w : Wd} {l : List Ru} {m n : List F} (h : Lst w l m (some n)) (hs : SS m) (hf : Few w l n) : LstF w l m (some n) := by
  generalize ho : Option.some n = o at h
  induction h using Lst.ind with
  | full _ => cases ho
  | done h1 h2 => cases ho; exact .done h1 hf h2
  | @more m o h1 h2 h3 ih =>
    subst ho
    obtain ⟨_, i2, _, _⟩ := (Lst.more h1 h2 h3).got hs
    refine .more h1 (fun r hr x hx e0 hu => ?_) h2 (ih (step_SS hs) rfl)
    exact Nat.le_trans (parts_less (SS.nodup hs) i2 r.body e0) (hf r hr x hx e0 hu)
theorem ex_few : Few exW [exR] [exQ, exP] := onceR_fewP (c := ⟨0, false⟩) ⟨by decide, fun _ => by decide⟩ (by rfl)
theorem ex_leastF : LstF exW [exR] (sortF [exQ]) (some [exQ, exP]) := LstF.of_lst ex_least (sortF_SS _) ex_few
end Ml
end Go.Proofs.YtdehimbfcilhpaaGreatDoor
