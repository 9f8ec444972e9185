/-
  The mathematics of layer 8: tokens read as rules; no program in this text.
-/
import Derived.Test.YtefajadolgmpdaaGreatDoorQLm3
namespace Go.Proofs.YtefajadolgmpdaaGreatDoor

/-- a constant, a term, a literal, a rule -/
structure K where
  num : Bool
  n : Int
  s : List UInt8
structure Tm where
  v : List UInt8
  k : K
structure Lt where
  by_ : Tm
  pred : List UInt8
  args : List Tm
  at_ : Tm
structure Ru where
  home : Tm
  pred : List UInt8
  args : List Tm
  to_ : Tm
  body : List Lt
def k0 : K := ⟨false, 0, []⟩
def t0 : Tm := ⟨[], k0⟩

namespace Ps
open Lx

abbrev Rz (α : Type) := Except (Nat × Int) (α × List Tok)
def bnd {α β : Type} (r : Rz α) (f : α → List Tok → Rz β) : Rz β :=
  match r with
  | .error e => .error e
  | .ok (v, L) => f v L
theorem bnd_err {α β : Type} (e : Nat × Int) (f : α → List Tok → Rz β) : bnd (.error e) f = .error e := rfl
theorem bnd_ok {α β : Type} (v : α) (L : List Tok) (f : α → List Tok → Rz β) : bnd (.ok (v, L)) f = f v L := rfl
theorem bnd_inv {α β : Type} {r : Rz α} {f : α → List Tok → Rz β} {u : β} {M : List Tok} (h : bnd r f = .ok (u, M)) : ∃ v L, r = .ok (v, L) ∧ f v L = .ok (u, M) := by
  cases r with
  | error e => cases h
  | ok x => obtain ⟨v, L⟩ := x; exact ⟨v, L, rfl, h⟩
theorem bnd_bad {α β : Type} {r : Rz α} {f : α → List Tok → Rz β} {e : Nat × Int} (h : bnd r f = .error e) : r = .error e ∨ ∃ v L, r = .ok (v, L) ∧ f v L = .error e := by
  cases r with
  | error e' => cases h; exact .inl rfl
  | ok x => obtain ⟨v, L⟩ := x; exact .inr ⟨v, L, rfl, h⟩

def tz : Tok := ⟨0, [], 0, 0⟩
def hd : List Tok → Tok
  | [] => tz
  | t :: _ => t
def pl (E : Nat) : List Tok → Nat
  | [] => E
  | t :: _ => t.pl
def says : List UInt8 := [115, 97, 121, 115]
def to : List UInt8 := [116, 111]
def at_ : List UInt8 := [97, 116]
def isT (k : Int) (s : List UInt8) (t : Tok) : Bool := (t.kind == k) && (t.text == s)
def kept (s : List UInt8) : Bool := (s == says) || (s == to) || (s == at_)
def mayW (t : Tok) : Bool := (t.kind == 1) && !kept t.text
def mayT (t : Tok) : Bool := (t.kind == 2) || (t.kind == 3) || ((t.kind == 4) && !(t.text == [])) || mayW t
def tm (t : Tok) : Tm := if t.kind = 2 then ⟨t.text, k0⟩ else if t.kind = 3 then ⟨[], ⟨true, t.n, []⟩⟩ else ⟨[], ⟨false, 0, t.text⟩⟩
def bad (E : Nat) (L : List Tok) : Nat × Int := (pl E L, 80)
def many (E : Nat) (L : List Tok) : Nat × Int := (pl E L, if mayT (hd L) = true then 81 else 80)
def need (E : Nat) (k : Int) (s : List UInt8) (L : List Tok) : Rz Unit := if isT k s (hd L) = true then .ok ((), L.tail) else .error (bad E L)
def term (E : Nat) (L : List Tok) : Rz Tm := if mayT (hd L) = true then .ok (tm (hd L), L.tail) else .error (bad E L)
def word (E : Nat) (L : List Tok) : Rz (List UInt8) := if mayW (hd L) = true then .ok ((hd L).text, L.tail) else .error (bad E L)
def args (E : Nat) : Nat → List Tok → Rz (List Tm)
  | 0, L => .error (many E L)
  | n + 1, L => bnd (term E L) fun t L1 => if isT 5 [44] (hd L1) = true then bnd (args E n L1.tail) fun ts L2 => .ok (t :: ts, L2) else .ok ([t], L1)
def atom (E : Nat) (L : List Tok) : Rz (List UInt8 × List Tm) :=
  bnd (word E L) fun p L1 => bnd (need E 5 [40] L1) fun _ L2 => if isT 5 [41] (hd L2) = true then .ok ((p, []), L2.tail) else
    bnd (args E 4 L2) fun ts L3 => bnd (need E 5 [41] L3) fun _ L4 => .ok ((p, ts), L4)
def opt (E : Nat) (s : List UInt8) (L : List Tok) : Rz Tm := if isT 1 s (hd L) = true then term E L.tail else .ok (t0, L)
def said (L : List Tok) : Bool := !mayW (hd L) || isT 1 says (hd L.tail)
def by_ (E : Nat) (L : List Tok) : Rz Tm := if said L = true then bnd (term E L) fun t L1 => bnd (need E 1 says L1) fun _ L2 => .ok (t, L2) else .ok (t0, L)
def lit (E : Nat) (L : List Tok) : Rz Lt := bnd (by_ E L) fun b L1 => bnd (atom E L1) fun p L2 => bnd (opt E at_ L2) fun a L3 => .ok (⟨b, p.1, p.2, a⟩, L3)
def body (E : Nat) : Nat → List Tok → Rz (List Lt)
  | 0, L => .error (many E L)
  | n + 1, L => bnd (lit E L) fun t L1 => if isT 5 [44] (hd L1) = true then bnd (body E n L1.tail) fun ts L2 => .ok (t :: ts, L2) else .ok ([t], L1)
def rule (E : Nat) (L : List Tok) : Rz Ru :=
  bnd (term E L) fun h L1 => bnd (need E 5 [58] L1) fun _ L2 => bnd (atom E L2) fun p L3 => bnd (opt E to L3) fun t L4 => bnd (need E 5 [58, 45] L4) fun _ L5 =>
    bnd (body E 4 L5) fun b L6 => bnd (need E 5 [46] L6) fun _ L7 => .ok (⟨h, p.1, p.2, t, b⟩, L7)
abbrev Rs := Except (Nat × Int) (List Ru)
def rcons (r : Ru) : Rs → Rs
  | .ok l => .ok (r :: l)
  | .error e => .error e
def rthen (x : Rz Ru) (f : List Tok → Rs) : Rs :=
  match x with
  | .error e => .error e
  | .ok (r, L) => rcons r (f L)
def rules (E : Nat) : Nat → List Tok → Rs
  | 0, [] => .ok []
  | 0, t :: L => .error (many E (t :: L))
  | _ + 1, [] => .ok []
  | n + 1, t :: L => rthen (rule E (t :: L)) (rules E n)
def prog (l : List UInt8) : Rs :=
  match ans l with
  | .error e => .error e
  | .ok L => rules l.length 16 L

/-! what Program answers -/
def rs : Rs → List Ru
  | .ok l => l
  | .error _ => []
def place : Rs → Nat
  | .ok _ => 0
  | .error x => x.1
def err : Rs → Int
  | .ok _ => 0
  | .error x => x.2

theorem rules_nil (E n : Nat) : rules E n [] = .ok [] := by cases n <;> rfl
theorem rules_zero {E : Nat} {L : List Tok} (h : L ≠ []) : rules E 0 L = .error (many E L) := by
  cases L with
  | nil => exact absurd rfl h
  | cons t L => rfl
theorem rules_succ {E n : Nat} {L : List Tok} (h : L ≠ []) : rules E (n + 1) L = rthen (rule E L) (rules E n) := by
  cases L with
  | nil => exact absurd rfl h
  | cons t L => rfl
theorem tail_app {L : List Tok} (M : List Tok) (h : L ≠ []) : (L ++ M).tail = L.tail ++ M := by
  cases L with
  | nil => exact absurd rfl h
  | cons t L => rfl
theorem hd_app {L : List Tok} (M : List Tok) (h : L ≠ []) : hd (L ++ M) = hd L := by
  cases L with
  | nil => exact absurd rfl h
  | cons t L => rfl
theorem hd_ne {k : Int} {s : List UInt8} {L : List Tok} (hk : k ≠ 0) (h : isT k s (hd L) = true) : L ≠ [] := by
  intro e; subst e
  simp only [isT, hd, tz, Bool.and_eq_true, beq_iff_eq] at h
  exact hk h.1.symm
theorem mayT_ne {L : List Tok} (h : mayT (hd L) = true) : L ≠ [] := by
  intro e; subst e; exact absurd h (by decide)
theorem mayW_ne {L : List Tok} (h : mayW (hd L) = true) : L ≠ [] := by
  intro e; subst e; exact absurd h (by decide)
theorem mayW_T {t : Tok} (h : mayW t = true) : mayT t = true := by unfold mayT; rw [h]; simp

/-! all that is read is a beginning, and something is read -/
theorem need_inv {E : Nat} {k : Int} {s : List UInt8} {L L1 : List Tok} {u : Unit} (hk : k ≠ 0) (h : need E k s L = .ok (u, L1)) : ∃ t, L = t :: L1 ∧ isT k s t = true := by
  unfold need at h
  split at h
  · rename_i hi
    cases L with
    | nil => exact absurd rfl (hd_ne hk hi)
    | cons t L => cases h; exact ⟨t, rfl, hi⟩
  · cases h
theorem term_inv {E : Nat} {L L1 : List Tok} {v : Tm} (h : term E L = .ok (v, L1)) : ∃ t, L = t :: L1 ∧ mayT t = true ∧ v = tm t := by
  unfold term at h
  split at h
  · rename_i hi
    cases L with
    | nil => exact absurd rfl (mayT_ne hi)
    | cons t L => cases h; exact ⟨t, rfl, hi, rfl⟩
  · cases h
theorem word_inv {E : Nat} {L L1 : List Tok} {v : List UInt8} (h : word E L = .ok (v, L1)) : ∃ t, L = t :: L1 ∧ mayW t = true ∧ v = t.text := by
  unfold word at h
  split at h
  · rename_i hi
    cases L with
    | nil => exact absurd rfl (mayW_ne hi)
    | cons t L => cases h; exact ⟨t, rfl, hi, rfl⟩
  · cases h
def Pre (L L1 : List Tok) : Prop := ∃ A, L = A ++ L1
theorem Pre.refl (L : List Tok) : Pre L L := ⟨[], rfl⟩
theorem Pre.trans {A B C : List Tok} (h : Pre A B) (k : Pre B C) : Pre A C := by
  obtain ⟨x, rfl⟩ := h; obtain ⟨y, rfl⟩ := k; exact ⟨x ++ y, by simp⟩
theorem Pre.cons (t : Tok) (L : List Tok) : Pre (t :: L) L := ⟨[t], rfl⟩
theorem Pre.mem {L L1 : List Tok} (h : Pre L L1) {t : Tok} (ht : t ∈ L1) : t ∈ L := by
  obtain ⟨x, rfl⟩ := h; exact List.mem_append_right _ ht
theorem Pre.tail (L : List Tok) : Pre L L.tail := by
  cases L with
  | nil => exact Pre.refl _
  | cons t L => exact Pre.cons t L
theorem need_pre {E : Nat} {k : Int} {s : List UInt8} {L L1 : List Tok} {u : Unit} (hk : k ≠ 0) (h : need E k s L = .ok (u, L1)) : Pre L L1 := by
  obtain ⟨t, rfl, _⟩ := need_inv hk h; exact Pre.cons t L1
theorem term_pre {E : Nat} {L L1 : List Tok} {v : Tm} (h : term E L = .ok (v, L1)) : Pre L L1 := by
  obtain ⟨t, rfl, _⟩ := term_inv h; exact Pre.cons t L1
theorem word_pre {E : Nat} {L L1 : List Tok} {v : List UInt8} (h : word E L = .ok (v, L1)) : Pre L L1 := by
  obtain ⟨t, rfl, _⟩ := word_inv h; exact Pre.cons t L1
theorem args_pre {E : Nat} : ∀ {n : Nat} {L L1 : List Tok} {v : List Tm}, args E n L = .ok (v, L1) → Pre L L1
  | 0, L, L1, v, h => by cases h
  | n + 1, L, L1, v, h => by
    obtain ⟨t, L2, h1, h2⟩ := bnd_inv h
    split at h2
    · obtain ⟨ts, L3, h3, h4⟩ := bnd_inv h2
      cases h4
      exact (term_pre h1).trans ((Pre.tail L2).trans (args_pre h3))
    · cases h2; exact term_pre h1
theorem atom_pre {E : Nat} {L L1 : List Tok} {v : List UInt8 × List Tm} (h : atom E L = .ok (v, L1)) : Pre L L1 := by
  obtain ⟨p, L2, h1, h⟩ := bnd_inv h
  obtain ⟨_, L3, h2, h⟩ := bnd_inv h
  split at h
  · cases h; exact (word_pre h1).trans ((need_pre (by decide) h2).trans (Pre.tail _))
  · obtain ⟨ts, L4, h3, h⟩ := bnd_inv h
    obtain ⟨_, L5, h4, h⟩ := bnd_inv h
    cases h
    exact (word_pre h1).trans ((need_pre (by decide) h2).trans ((args_pre h3).trans (need_pre (by decide) h4)))
theorem opt_pre {E : Nat} {s : List UInt8} {L L1 : List Tok} {v : Tm} (h : opt E s L = .ok (v, L1)) : Pre L L1 := by
  unfold opt at h
  split at h
  · exact (Pre.tail L).trans (term_pre h)
  · cases h; exact Pre.refl _
theorem by_pre {E : Nat} {L L1 : List Tok} {v : Tm} (h : by_ E L = .ok (v, L1)) : Pre L L1 := by
  unfold by_ at h
  split at h
  · obtain ⟨p, L2, h1, h⟩ := bnd_inv h
    obtain ⟨_, L3, h2, h⟩ := bnd_inv h
    cases h
    exact (term_pre h1).trans (need_pre (by decide) h2)
  · cases h; exact Pre.refl _
theorem lit_pre {E : Nat} {L L1 : List Tok} {v : Lt} (h : lit E L = .ok (v, L1)) : Pre L L1 := by
  obtain ⟨b, L2, h1, h⟩ := bnd_inv h
  obtain ⟨p, L3, h2, h⟩ := bnd_inv h
  obtain ⟨a, L4, h3, h⟩ := bnd_inv h
  cases h
  exact (by_pre h1).trans ((atom_pre h2).trans (opt_pre h3))
theorem body_pre {E : Nat} : ∀ {n : Nat} {L L1 : List Tok} {v : List Lt}, body E n L = .ok (v, L1) → Pre L L1
  | 0, L, L1, v, h => by cases h
  | n + 1, L, L1, v, h => by
    obtain ⟨t, L2, h1, h2⟩ := bnd_inv h
    split at h2
    · obtain ⟨ts, L3, h3, h4⟩ := bnd_inv h2
      cases h4
      exact (lit_pre h1).trans ((Pre.tail L2).trans (body_pre h3))
    · cases h2; exact lit_pre h1
theorem rule_inv {E : Nat} {L L1 : List Tok} {r : Ru} (h : rule E L = .ok (r, L1)) : ∃ h0 L2 L3 p L4 t L5 L6 b L7, term E L = .ok (h0, L2) ∧ need E 5 [58] L2 = .ok ((), L3) ∧ atom E L3 = .ok (p, L4) ∧ opt E to L4 = .ok (t, L5) ∧ need E 5 [58, 45] L5 = .ok ((), L6) ∧ body E 4 L6 = .ok (b, L7) ∧ need E 5 [46] L7 = .ok ((), L1) ∧ r = ⟨h0, p.1, p.2, t, b⟩ := by
  obtain ⟨h0, L2, h1, h⟩ := bnd_inv h
  obtain ⟨_, L3, h2, h⟩ := bnd_inv h
  obtain ⟨p, L4, h3, h⟩ := bnd_inv h
  obtain ⟨t, L5, h4, h⟩ := bnd_inv h
  obtain ⟨_, L6, h5, h⟩ := bnd_inv h
  obtain ⟨b, L7, h6, h⟩ := bnd_inv h
  obtain ⟨_, L8, h7, h⟩ := bnd_inv h
  cases h
  exact ⟨h0, L2, L3, p, L4, t, L5, L6, b, L7, h1, h2, h3, h4, h5, h6, h7, rfl⟩
theorem rule_mk {E : Nat} {L L1 L2 L3 L4 L5 L6 L7 : List Tok} {h0 t : Tm} {p : List UInt8 × List Tm} {b : List Lt} (h1 : term E L = .ok (h0, L2)) (h2 : need E 5 [58] L2 = .ok ((), L3)) (h3 : atom E L3 = .ok (p, L4)) (h4 : opt E to L4 = .ok (t, L5)) (h5 : need E 5 [58, 45] L5 = .ok ((), L6)) (h6 : body E 4 L6 = .ok (b, L7)) (h7 : need E 5 [46] L7 = .ok ((), L1)) : rule E L = .ok (⟨h0, p.1, p.2, t, b⟩, L1) := by
  unfold rule
  rw [h1, bnd_ok, h2, bnd_ok, h3, bnd_ok, h4, bnd_ok, h5, bnd_ok, h6, bnd_ok, h7, bnd_ok]
theorem rule_pre {E : Nat} {L L1 : List Tok} {r : Ru} (h : rule E L = .ok (r, L1)) : Pre L L1 := by
  obtain ⟨h0, L2, L3, p, L4, t, L5, L6, b, L7, h1, h2, h3, h4, h5, h6, h7, _⟩ := rule_inv h
  exact (term_pre h1).trans ((need_pre (by decide) h2).trans ((atom_pre h3).trans ((opt_pre h4).trans ((need_pre (by decide) h5).trans ((body_pre h6).trans (need_pre (by decide) h7))))))
theorem rule_begins {E : Nat} {L L1 : List Tok} {r : Ru} (h : rule E L = .ok (r, L1)) : mayT (hd L) = true := by
  obtain ⟨h0, L2, L3, p, L4, t, L5, L6, b, L7, h1, _⟩ := rule_inv h
  obtain ⟨t, rfl, ht, _⟩ := term_inv h1
  exact ht

/-! what is wrong is told at a token, or at the end -/
def Told (E : Nat) (L : List Tok) (e : Nat × Int) : Prop := (e.1 = E ∨ ∃ t ∈ L, t.pl = e.1) ∧ (e.2 = 80 ∨ e.2 = 81)
theorem Told.pre {E : Nat} {L L1 : List Tok} {e : Nat × Int} (h : Told E L1 e) (p : Pre L L1) : Told E L e := by
  obtain ⟨h1 | ⟨t, ht, h1⟩, h2⟩ := h
  · exact ⟨.inl h1, h2⟩
  · exact ⟨.inr ⟨t, p.mem ht, h1⟩, h2⟩
theorem told_bad (E : Nat) (L : List Tok) : Told E L (bad E L) := by
  cases L with
  | nil => exact ⟨.inl rfl, .inl rfl⟩
  | cons t L => exact ⟨.inr ⟨t, by simp, rfl⟩, .inl rfl⟩
theorem told_many (E : Nat) (L : List Tok) : Told E L (many E L) := by
  refine ⟨?_, ?_⟩
  · cases L with
    | nil => exact .inl rfl
    | cons t L => exact .inr ⟨t, by simp, rfl⟩
  · unfold many; split
    · exact .inr rfl
    · exact .inl rfl
theorem need_told {E : Nat} {k : Int} {s : List UInt8} {L : List Tok} {e : Nat × Int} (h : need E k s L = .error e) : Told E L e := by
  unfold need at h
  split at h
  · cases h
  · cases h; exact told_bad E L
theorem term_told {E : Nat} {L : List Tok} {e : Nat × Int} (h : term E L = .error e) : Told E L e := by
  unfold term at h
  split at h
  · cases h
  · cases h; exact told_bad E L
theorem word_told {E : Nat} {L : List Tok} {e : Nat × Int} (h : word E L = .error e) : Told E L e := by
  unfold word at h
  split at h
  · cases h
  · cases h; exact told_bad E L
theorem args_told {E : Nat} : ∀ {n : Nat} {L : List Tok} {e : Nat × Int}, args E n L = .error e → Told E L e
  | 0, L, e, h => by cases h; exact told_many E L
  | n + 1, L, e, h => by
    rcases bnd_bad h with h1 | ⟨t, L2, h1, h2⟩
    · exact term_told h1
    · split at h2
      · rcases bnd_bad h2 with h3 | ⟨ts, L3, h3, h4⟩
        · exact (args_told h3).pre ((term_pre h1).trans (Pre.tail L2))
        · cases h4
      · cases h2
theorem atom_told {E : Nat} {L : List Tok} {e : Nat × Int} (h : atom E L = .error e) : Told E L e := by
  rcases bnd_bad h with h1 | ⟨p, L2, h1, h⟩
  · exact word_told h1
  have q1 := word_pre h1
  rcases bnd_bad h with h2 | ⟨_, L3, h2, h⟩
  · exact (need_told h2).pre q1
  have q2 := q1.trans (need_pre (by decide) h2)
  split at h
  · cases h
  rcases bnd_bad h with h3 | ⟨ts, L4, h3, h⟩
  · exact (args_told h3).pre q2
  rcases bnd_bad h with h4 | ⟨_, L5, h4, h⟩
  · exact (need_told h4).pre (q2.trans (args_pre h3))
  cases h
theorem opt_told {E : Nat} {s : List UInt8} {L : List Tok} {e : Nat × Int} (h : opt E s L = .error e) : Told E L e := by
  unfold opt at h
  split at h
  · exact (term_told h).pre (Pre.tail L)
  · cases h
theorem by_told {E : Nat} {L : List Tok} {e : Nat × Int} (h : by_ E L = .error e) : Told E L e := by
  unfold by_ at h
  split at h
  · rcases bnd_bad h with h1 | ⟨p, L2, h1, h⟩
    · exact term_told h1
    rcases bnd_bad h with h2 | ⟨_, L3, h2, h⟩
    · exact (need_told h2).pre (term_pre h1)
    cases h
  · cases h
theorem lit_told {E : Nat} {L : List Tok} {e : Nat × Int} (h : lit E L = .error e) : Told E L e := by
  rcases bnd_bad h with h1 | ⟨b, L2, h1, h⟩
  · exact by_told h1
  have q1 := by_pre h1
  rcases bnd_bad h with h2 | ⟨p, L3, h2, h⟩
  · exact (atom_told h2).pre q1
  rcases bnd_bad h with h3 | ⟨a, L4, h3, h⟩
  · exact (opt_told h3).pre (q1.trans (atom_pre h2))
  cases h
theorem body_told {E : Nat} : ∀ {n : Nat} {L : List Tok} {e : Nat × Int}, body E n L = .error e → Told E L e
  | 0, L, e, h => by cases h; exact told_many E L
  | n + 1, L, e, h => by
    rcases bnd_bad h with h1 | ⟨t, L2, h1, h2⟩
    · exact lit_told h1
    · split at h2
      · rcases bnd_bad h2 with h3 | ⟨ts, L3, h3, h4⟩
        · exact (body_told h3).pre ((lit_pre h1).trans (Pre.tail L2))
        · cases h4
      · cases h2
theorem rule_told {E : Nat} {L : List Tok} {e : Nat × Int} (h : rule E L = .error e) : Told E L e := by
  rcases bnd_bad h with h1 | ⟨h0, L2, h1, h⟩
  · exact term_told h1
  have q1 := term_pre h1
  rcases bnd_bad h with h2 | ⟨_, L3, h2, h⟩
  · exact (need_told h2).pre q1
  have q2 := q1.trans (need_pre (by decide) h2)
  rcases bnd_bad h with h3 | ⟨p, L4, h3, h⟩
  · exact (atom_told h3).pre q2
  have q3 := q2.trans (atom_pre h3)
  rcases bnd_bad h with h4 | ⟨t, L5, h4, h⟩
  · exact (opt_told h4).pre q3
  have q4 := q3.trans (opt_pre h4)
  rcases bnd_bad h with h5 | ⟨_, L6, h5, h⟩
  · exact (need_told h5).pre q4
  have q5 := q4.trans (need_pre (by decide) h5)
  rcases bnd_bad h with h6 | ⟨b, L7, h6, h⟩
  · exact (body_told h6).pre q5
  rcases bnd_bad h with h7 | ⟨_, L8, h7, h⟩
  · exact (need_told h7).pre (q5.trans (body_pre h6))
  cases h
theorem rules_told {E : Nat} : ∀ {n : Nat} {L : List Tok} {e : Nat × Int}, rules E n L = .error e → Told E L e
  | 0, [], e, h => by cases h
  | 0, t :: L, e, h => by cases h; exact told_many E _
  | n + 1, [], e, h => by cases h
  | n + 1, t :: L, e, h => by
    rw [rules] at h
    unfold rthen at h
    split at h
    · rename_i h1; cases h; exact rule_told h1
    · rename_i r L1 h1
      cases h2 : rules E n L1 with
      | ok l => rw [h2] at h; cases h
      | error x => rw [h2] at h; cases h; exact (rules_told h2).pre (rule_pre h1)
theorem rules_few {E : Nat} : ∀ {n : Nat} {L : List Tok} {l : List Ru}, rules E n L = .ok l → l.length ≤ n
  | 0, [], l, h => by cases h; exact Nat.le_refl _
  | 0, t :: L, l, h => by cases h
  | n + 1, [], l, h => by cases h; exact Nat.zero_le _
  | n + 1, t :: L, l, h => by
    rw [rules] at h
    unfold rthen at h
    split at h
    · cases h
    · rename_i r L1 h1
      cases h2 : rules E n L1 with
      | ok l' =>
        rw [h2] at h; cases h
        have := rules_few h2
        simp only [List.length_cons]; omega
      | error x => rw [h2] at h; cases h
theorem prog_told {l : List UInt8} {L : List Tok} {p : Nat} {e : Int} (ha : ans l = .ok L) (h : prog l = .error (p, e)) : (p = l.length ∨ ∃ t ∈ L, t.pl = p) ∧ (e = 80 ∨ e = 81) := by
  unfold prog at h; rw [ha] at h
  exact rules_told h
theorem prog_few {l : List UInt8} {r : List Ru} (h : prog l = .ok r) : r.length ≤ 16 := by
  unfold prog at h
  split at h
  · cases h
  · exact rules_few h

end Ps
end Go.Proofs.YtefajadolgmpdaaGreatDoor
