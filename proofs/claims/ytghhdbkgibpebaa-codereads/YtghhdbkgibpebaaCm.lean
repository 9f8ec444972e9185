/-
  The mathematics of layer 5: terms, literals, rules; their bytes; how bytes are read. No memory, no program.
-/
import Derived.Test.YtghhdbkgibpebaaFm
import Derived.Test.YtghhdbkgibpebaaMath3
namespace Go.Proofs.Ytghhdbkgibpebaa
open Go

/-- a text of 1 to 32 bytes -/
def fitsB (l : List UInt8) : Bool := decide (1 ≤ l.length) && decide (l.length ≤ 32)
def goodB (x : K) : Bool := if x.num then x.s.isEmpty else decide (x.n = 0) && fitsB x.s
/-- a term, a literal, a rule -/
structure Tm where
  v : List UInt8
  k : K
structure Lt where
  by_ : Tm
  pred : List UInt8
  args : List Tm
  at_ : Tm
structure Ru where
  home : Tm
  pred : List UInt8
  args : List Tm
  to_ : Tm
  body : List Lt
def k0 : K := ⟨false, 0, []⟩
def t0 : Tm := ⟨[], k0⟩
/-- a number that an int holds -/
def KIn (k : K) : Prop := -9223372036854775808 ≤ k.n ∧ k.n ≤ 9223372036854775807

def zeroK (k : K) : Bool := !k.num && decide (k.n = 0) && k.s.isEmpty
theorem zeroK_iff (k : K) : zeroK k = true ↔ k = k0 := by
  obtain ⟨a, b, c⟩ := k
  simp [zeroK, k0, and_assoc]
def kindT (t : Tm) : Nat := bif t.v.isEmpty then (bif zeroK t.k then 0 else 2) else 1
def mayT (t : Tm) : Bool := bif t.v.isEmpty then zeroK t.k || goodB t.k else fitsB t.v && zeroK t.k
def mayA (pred : List UInt8) (args : List Tm) : Bool := fitsB pred && decide (args.length ≤ 48) && args.all mayT
def mayL (l : Lt) : Bool := mayT l.by_ && mayT l.at_ && mayA l.pred l.args
def mayR (r : Ru) : Bool := mayT r.home && mayT r.to_ && mayA r.pred r.args && decide (r.body.length ≤ 5) && r.body.all mayL

/-! bytes -/
def intB (n : Int) : List UInt8 := Pm.vb (Pm.tb n)
def textB (s : List UInt8) : List UInt8 := Pm.vb (Pm.tb (s.length : Int)) ++ s
def constB (k : K) : List UInt8 := bif k.num then 0 :: intB k.n else 1 :: textB k.s
def termB (t : Tm) : List UInt8 := if kindT t = 0 then [0] else if kindT t = 1 then 1 :: textB t.v else 2 :: constB t.k
def listB {α : Type} (f : α → List UInt8) (l : List α) : List UInt8 := intB (l.length : Int) ++ l.flatMap f
def factB (f : F) : List UInt8 := textB f.at_ ++ textB f.by_ ++ textB f.pred ++ listB constB f.ks
def litB (l : Lt) : List UInt8 := termB l.by_ ++ textB l.pred ++ listB termB l.args ++ termB l.at_
def ruleB (r : Ru) : List UInt8 := termB r.home ++ textB r.pred ++ listB termB r.args ++ termB r.to_ ++ listB litB r.body
def progB (l : List Ru) : List UInt8 := listB ruleB l

/-! reading -/
abbrev Pr (α : Type) := Int → Except Int (α × Int)
def Pr.ret {α : Type} (v : α) : Pr α := fun x => .ok (v, x)
def Pr.fail {α : Type} (e : Int) : Pr α := fun _ => .error e
def Pr.bnd {α β : Type} (p : Pr α) (q : α → Pr β) : Pr β := fun x =>
  match p x with
  | .error e => .error e
  | .ok (v, j) => q v j
theorem Pr.bnd_err {α β : Type} {p : Pr α} {q : α → Pr β} {x e : Int} (h : p x = .error e) : p.bnd q x = .error e := by simp only [Pr.bnd, h]
theorem Pr.bnd_ok {α β : Type} {p : Pr α} {q : α → Pr β} {x j : Int} {v : α} (h : p x = .ok (v, j)) : p.bnd q x = q v j := by simp only [Pr.bnd, h]
theorem Pr.bnd_inv {α β : Type} {p : Pr α} {q : α → Pr β} {x j : Int} {u : β} (h : p.bnd q x = .ok (u, j)) : ∃ v i, p x = .ok (v, i) ∧ q v i = .ok (u, j) := by
  unfold Pr.bnd at h
  split at h
  · cases h
  · rename_i v i hp
    exact ⟨v, i, hp, h⟩

def pInt (l : List UInt8) : Pr Int := fun x => if (Pm.rd l x).2.2 = 0 then .ok ((Pm.rd l x).1, (Pm.rd l x).2.1) else .error (Pm.rd l x).2.2
def pCount (l : List UInt8) (m : Int) : Pr Int := fun x => if (Pm.ct l x m).2.2 = 0 then .ok ((Pm.ct l x m).1, (Pm.ct l x m).2.1) else .error (Pm.ct l x m).2.2
def pText (l : List UInt8) : Pr (List UInt8) := fun x => if (Pm.tx l x).2.2 = 0 then .ok ((Pm.tx l x).1, (Pm.tx l x).2.1) else .error (Pm.tx l x).2.2
def pKind (l : List UInt8) (m : Nat) : Pr Nat := fun x =>
  match l[x.toNat]? with
  | none => .error 10
  | some c => if m < c.toNat then .error 11 else .ok (c.toNat, x + 1)
def pConst (l : List UInt8) : Pr K := (pKind l 1).bnd fun k => if k = 0 then (pInt l).bnd fun n => .ret ⟨true, n, []⟩ else (pText l).bnd fun s => .ret ⟨false, 0, s⟩
/-- a term as it was read -/
structure Rt where
  r : Option (List UInt8 ⊕ K)
abbrev Rt.none : Rt := ⟨Option.none⟩
abbrev Rt.var (s : List UInt8) : Rt := ⟨some (.inl s)⟩
abbrev Rt.val (k : K) : Rt := ⟨some (.inr k)⟩
def Rt.t : Rt → Tm
  | ⟨Option.none⟩ => t0
  | ⟨some (.inl s)⟩ => ⟨s, k0⟩
  | ⟨some (.inr k)⟩ => ⟨[], k⟩
def Rt.kind : Rt → Nat
  | ⟨Option.none⟩ => 0
  | ⟨some (.inl _)⟩ => 1
  | ⟨some (.inr _)⟩ => 2
/-- a term that is none, and was read as a variable or a constant -/
def Rt.hollow (t : Rt) : Bool := kindT t.t != t.kind
def Rt.odd : Rt → Bool
  | ⟨Option.none⟩ => false
  | ⟨some (.inl s)⟩ => !fitsB s
  | ⟨some (.inr k)⟩ => !goodB k
def Rt.B : Rt → List UInt8
  | ⟨Option.none⟩ => [0]
  | ⟨some (.inl s)⟩ => 1 :: textB s
  | ⟨some (.inr k)⟩ => 2 :: constB k
def pTerm (l : List UInt8) : Pr Rt := (pKind l 2).bnd fun k => if k = 0 then .ret .none else if k = 1 then (pText l).bnd fun s => .ret (.var s) else (pConst l).bnd fun c => .ret (.val c)
def pMany {α : Type} (p : Pr α) : Nat → Pr (List α)
  | 0 => .ret []
  | n + 1 => (pMany p n).bnd fun xs => p.bnd fun x => .ret (xs ++ [x])
def pList {α : Type} (l : List UInt8) (m : Int) (p : Pr α) : Pr (List α) := (pCount l m).bnd fun n => pMany p n.toNat
def pFact (l : List UInt8) : Pr F := (pText l).bnd fun a => (pText l).bnd fun b => (pText l).bnd fun c => (pList l 48 (pConst l)).bnd fun ks => .ret ⟨a, b, c, ks⟩
structure Rl where
  by_ : Rt
  pred : List UInt8
  args : List Rt
  at_ : Rt
structure Rr where
  home : Rt
  pred : List UInt8
  args : List Rt
  to_ : Rt
  body : List Rl
def Rl.l (x : Rl) : Lt := ⟨x.by_.t, x.pred, x.args.map Rt.t, x.at_.t⟩
def Rr.r (x : Rr) : Ru := ⟨x.home.t, x.pred, x.args.map Rt.t, x.to_.t, x.body.map Rl.l⟩
def Rl.flag (f : Rt → Bool) (x : Rl) : Bool := f x.by_ || x.args.any f || f x.at_
def Rr.flag (f : Rt → Bool) (x : Rr) : Bool := f x.home || x.args.any f || f x.to_ || x.body.any (Rl.flag f)
def Rl.B (x : Rl) : List UInt8 := x.by_.B ++ textB x.pred ++ listB Rt.B x.args ++ x.at_.B
def Rr.B (x : Rr) : List UInt8 := x.home.B ++ textB x.pred ++ listB Rt.B x.args ++ x.to_.B ++ listB Rl.B x.body
def pLit (l : List UInt8) : Pr Rl := (pTerm l).bnd fun a => (pText l).bnd fun b => (pList l 48 (pTerm l)).bnd fun c => (pTerm l).bnd fun d => .ret ⟨a, b, c, d⟩
def pRule (l : List UInt8) : Pr Rr := (pTerm l).bnd fun a => (pText l).bnd fun b => (pList l 48 (pTerm l)).bnd fun c => (pTerm l).bnd fun d => (pList l 5 (pLit l)).bnd fun e => .ret ⟨a, b, c, d, e⟩
def Rr.bad (x : Rr) : Bool := x.flag Rt.hollow || !mayR x.r
def pRule2 (l : List UInt8) : Pr Rr := (pRule l).bnd fun r => bif r.bad then .fail 50 else .ret r
def pProg (l : List UInt8) : Pr (List Rr) := pList l 768 (pRule2 l)

/-! many -/
theorem pMany_ok {α : Type} {p : Pr α} {n : Nat} {x i j : Int} {xs : List α} {v : α} (h : pMany p n x = .ok (xs, i)) (hv : p i = .ok (v, j)) : pMany p (n + 1) x = .ok (xs ++ [v], j) := by
  rw [pMany, Pr.bnd_ok h, Pr.bnd_ok hv]; rfl
theorem pMany_err1 {α : Type} {p : Pr α} {n : Nat} {x i e : Int} {xs : List α} (h : pMany p n x = .ok (xs, i)) (hv : p i = .error e) : pMany p (n + 1) x = .error e := by
  rw [pMany, Pr.bnd_ok h, Pr.bnd_err hv]
theorem pMany_err {α : Type} {p : Pr α} {n m : Nat} {x e : Int} (h : pMany p n x = .error e) (hm : n ≤ m) : pMany p m x = .error e := by
  induction m with
  | zero => obtain rfl : n = 0 := by omega
            exact h
  | succ m ih =>
    by_cases hn : n = m + 1
    · subst hn; exact h
    · rw [pMany, Pr.bnd_err (ih (by omega))]
theorem pMany_len {α : Type} {p : Pr α} : ∀ {n : Nat} {x j : Int} {xs : List α}, pMany p n x = .ok (xs, j) → xs.length = n
  | 0, x, j, xs, h => by simp only [pMany, Pr.ret, Except.ok.injEq, Prod.mk.injEq] at h; rw [← h.1]; rfl
  | n + 1, x, j, xs, h => by
    obtain ⟨ys, i, h1, h2⟩ := Pr.bnd_inv h
    obtain ⟨v, i', h3, h4⟩ := Pr.bnd_inv h2
    simp only [Pr.ret, Except.ok.injEq, Prod.mk.injEq] at h4
    rw [← h4.1, List.length_append, pMany_len h1]; rfl

/-! what is read, laid again, is what was read -/
def Snd {α : Type} (l : List UInt8) (p : Pr α) (B : α → List UInt8) : Prop := ∀ x v j, 0 ≤ x → p x = .ok (v, j) → x ≤ j ∧ j ≤ l.length ∧ B v = (l.drop x.toNat).take (j.toNat - x.toNat)
theorem cut_two (l : List UInt8) (x i j : Int) (_ : 0 ≤ x) (h : x ≤ i) (h2 : i ≤ j) : (l.drop x.toNat).take (i.toNat - x.toNat) ++ (l.drop i.toNat).take (j.toNat - i.toNat) = (l.drop x.toNat).take (j.toNat - x.toNat) := by
  have := Pm.take_two l x.toNat i.toNat (j.toNat - i.toNat) (by omega)
  rw [this]; congr 1; omega
/-- one part and then the rest -/
theorem Snd.bnd {α β : Type} {l : List UInt8} {p : Pr α} {q : α → Pr β} {B : α → List UInt8} {C : β → List UInt8} (hp : Snd l p B)
    (hq : ∀ x v i, 0 ≤ x → p x = .ok (v, i) → ∀ u j, q v i = .ok (u, j) → ∃ D : List UInt8, i ≤ j ∧ j ≤ l.length ∧ D = (l.drop i.toNat).take (j.toNat - i.toNat) ∧ C u = B v ++ D) : Snd l (p.bnd q) C := by
  intro x u j h0 h
  obtain ⟨v, i, h1, h2⟩ := Pr.bnd_inv h
  obtain ⟨a1, a2, a3⟩ := hp x v i h0 h1
  obtain ⟨D, b1, b2, b3, b4⟩ := hq x v i h0 h1 u j h2
  exact ⟨by omega, b2, by rw [b4, a3, b3, cut_two l x i j h0 a1 b1]⟩
theorem ret_inv {α : Type} {v u : α} {x j : Int} (h : Pr.ret v x = .ok (u, j)) : v = u ∧ x = j := by
  simp only [Pr.ret, Except.ok.injEq, Prod.mk.injEq] at h; exact h

theorem pInt_inv {l : List UInt8} {x n j : Int} (h : pInt l x = .ok (n, j)) : Pm.rd l x = (n, j, 0) := by
  unfold pInt at h
  split at h
  · rename_i he
    simp only [Except.ok.injEq, Prod.mk.injEq] at h
    exact Prod.ext h.1 (Prod.ext h.2 he)
  · cases h
theorem pCount_inv {l : List UInt8} {m x n j : Int} (h : pCount l m x = .ok (n, j)) : Pm.ct l x m = (n, j, 0) := by
  unfold pCount at h
  split at h
  · rename_i he
    simp only [Except.ok.injEq, Prod.mk.injEq] at h
    exact Prod.ext h.1 (Prod.ext h.2 he)
  · cases h
theorem pText_inv {l : List UInt8} {x j : Int} {s : List UInt8} (h : pText l x = .ok (s, j)) : Pm.tx l x = (s, j, 0) := by
  unfold pText at h
  split at h
  · rename_i he
    simp only [Except.ok.injEq, Prod.mk.injEq] at h
    exact Prod.ext h.1 (Prod.ext h.2 he)
  · cases h
theorem pKind_inv {l : List UInt8} {m k : Nat} {x j : Int} (h : pKind l m x = .ok (k, j)) : ∃ c, l[x.toNat]? = some c ∧ c.toNat = k ∧ k ≤ m ∧ j = x + 1 := by
  unfold pKind at h
  split at h
  · cases h
  · rename_i c hc
    split at h
    · cases h
    · simp only [Except.ok.injEq, Prod.mk.injEq] at h
      exact ⟨c, hc, h.1, by omega, h.2.symm⟩
theorem pInt_range {l : List UInt8} {x n j : Int} (h : pInt l x = .ok (n, j)) : (-9223372036854775808 ≤ n ∧ n ≤ 9223372036854775807) ∧ 0 ≤ x ∧ x < j ∧ j ≤ l.length :=
  ⟨(Pm.rd_back l x n j (pInt_inv h)).1, Pm.rd_next l x n j (pInt_inv h)⟩
theorem pCount_range {l : List UInt8} {m x n j : Int} (h : pCount l m x = .ok (n, j)) : 0 ≤ n ∧ n ≤ m ∧ 0 ≤ x ∧ x < j ∧ j ≤ l.length := by
  obtain ⟨h1, h2, h3⟩ := Pm.ct_ok l x m n j (pCount_inv h)
  have := Pm.rd_next l x n j h1
  omega
theorem pText_range {l : List UInt8} {x j : Int} {s : List UInt8} (h : pText l x = .ok (s, j)) : s.length ≤ 65536 ∧ 0 ≤ x ∧ x < j ∧ j ≤ l.length := by
  obtain ⟨h1, h2, h3, h4, _⟩ := Pm.tx_back l s x j (pText_inv h)
  exact ⟨h4, h1, h2, h3⟩
theorem pKind_range {l : List UInt8} {m k : Nat} {x j : Int} (h0 : 0 ≤ x) (h : pKind l m x = .ok (k, j)) : k ≤ m ∧ j = x + 1 ∧ j ≤ l.length := by
  obtain ⟨c, h1, _, h2, h3⟩ := pKind_inv h
  have := (List.getElem?_eq_some_iff.1 h1).1
  exact ⟨h2, h3, by omega⟩

theorem snd_int (l : List UInt8) : Snd l (pInt l) intB := fun x n j h0 h => by
  have := pInt_range h
  exact ⟨by omega, by omega, (Pm.rd_back l x n j (pInt_inv h)).2⟩
theorem snd_count (l : List UInt8) (m : Int) : Snd l (pCount l m) intB := fun x n j h0 h => by
  have := pCount_range h
  exact ⟨by omega, by omega, (Pm.rd_back l x n j (Pm.ct_ok l x m n j (pCount_inv h)).1).2⟩
theorem snd_text (l : List UInt8) : Snd l (pText l) textB := fun x s j h0 h => by
  obtain ⟨h1, h2, h3, h4, h5⟩ := Pm.tx_back l s x j (pText_inv h)
  exact ⟨by omega, h3, h5⟩
theorem snd_kind (l : List UInt8) (m : Nat) : Snd l (pKind l m) (fun k => [UInt8.ofNat k]) := fun x k j h0 h => by
  obtain ⟨c, h1, h2, h3, h4⟩ := pKind_inv h
  obtain ⟨h5, h6⟩ := List.getElem?_eq_some_iff.1 h1
  refine ⟨by omega, by omega, ?_⟩
  show [UInt8.ofNat k] = _
  rw [show j.toNat - x.toNat = 1 by omega, List.drop_eq_getElem_cons h5, List.take_succ_cons, List.take_zero, h6, ← h2]
  simp
theorem snd_const (l : List UInt8) : Snd l (pConst l) constB := (snd_kind l 1).bnd fun x k i h0 hk u j h => by
  have hr := pKind_range h0 hk
  split at h
  · rename_i k0
    obtain ⟨n, i', h1, h2⟩ := Pr.bnd_inv h
    obtain ⟨rfl, rfl⟩ := ret_inv h2
    obtain ⟨a1, a2, a3⟩ := snd_int l i n i' (by omega) h1
    exact ⟨_, a1, a2, a3, by subst k0; rfl⟩
  · rename_i k0
    obtain ⟨s, i', h1, h2⟩ := Pr.bnd_inv h
    obtain ⟨rfl, rfl⟩ := ret_inv h2
    obtain ⟨a1, a2, a3⟩ := snd_text l i s i' (by omega) h1
    obtain rfl : k = 1 := by omega
    exact ⟨_, a1, a2, a3, rfl⟩
theorem snd_term (l : List UInt8) : Snd l (pTerm l) Rt.B := (snd_kind l 2).bnd fun x k i h0 hk u j h => by
  have hr := pKind_range h0 hk
  split at h
  · rename_i k0
    obtain ⟨rfl, rfl⟩ := ret_inv h
    exact ⟨[], by omega, by omega, by simp, by subst k0; rfl⟩
  · split at h
    · rename_i k1 k0
      obtain ⟨s, i', h1, h2⟩ := Pr.bnd_inv h
      obtain ⟨rfl, rfl⟩ := ret_inv h2
      obtain ⟨a1, a2, a3⟩ := snd_text l i s i' (by omega) h1
      exact ⟨_, a1, a2, a3, by subst k0; rfl⟩
    · rename_i k1 k2
      obtain ⟨s, i', h1, h2⟩ := Pr.bnd_inv h
      obtain ⟨rfl, rfl⟩ := ret_inv h2
      obtain ⟨a1, a2, a3⟩ := snd_const l i s i' (by omega) h1
      obtain rfl : k = 2 := by omega
      exact ⟨_, a1, a2, a3, rfl⟩
theorem snd_many {α : Type} {l : List UInt8} {p : Pr α} {B : α → List UInt8} (hp : Snd l p B) (n : Nat) : ∀ (x : Int) (xs : List α) (j : Int), 0 ≤ x → x ≤ l.length → pMany p n x = .ok (xs, j) → x ≤ j ∧ j ≤ l.length ∧ xs.flatMap B = (l.drop x.toNat).take (j.toNat - x.toNat) := by
  induction n with
  | zero =>
    intro x xs j h0 hl h
    obtain ⟨rfl, rfl⟩ := ret_inv h
    exact ⟨by omega, hl, by simp⟩
  | succ n ih =>
    intro x xs j h0 hl h
    obtain ⟨ys, i, h1, h2⟩ := Pr.bnd_inv h
    obtain ⟨v, i', h3, h4⟩ := Pr.bnd_inv h2
    obtain ⟨rfl, rfl⟩ := ret_inv h4
    obtain ⟨a1, a2, a3⟩ := ih x ys i h0 hl h1
    obtain ⟨b1, b2, b3⟩ := hp i v i' (by omega) h3
    refine ⟨by omega, b2, ?_⟩
    rw [List.flatMap_append, a3, List.flatMap_cons, List.flatMap_nil, List.append_nil, b3, cut_two l x i i' h0 a1 b1]
theorem snd_list {α : Type} {l : List UInt8} {p : Pr α} {B : α → List UInt8} (hp : Snd l p B) (m : Int) : Snd l (pList l m p) (listB B) := (snd_count l m).bnd fun x n i h0 hn u j h => by
  have hr := pCount_range hn
  obtain ⟨a1, a2, a3⟩ := snd_many hp n.toNat i u j (by omega) (by omega) h
  refine ⟨_, a1, a2, a3, ?_⟩
  have := pMany_len h
  unfold listB
  rw [this, Int.toNat_of_nonneg hr.1]
theorem snd_fact (l : List UInt8) : Snd l (pFact l) factB := (snd_text l).bnd fun x a i h0 ha u j h => by
  have r1 := pText_range ha
  obtain ⟨b, i2, hb, h⟩ := Pr.bnd_inv h
  have r2 := pText_range hb
  obtain ⟨c, i3, hc, h⟩ := Pr.bnd_inv h
  have r3 := pText_range hc
  obtain ⟨ks, i4, hk, h⟩ := Pr.bnd_inv h
  obtain ⟨rfl, rfl⟩ := ret_inv h
  obtain ⟨b1, b2, b3⟩ := snd_text l i b i2 (by omega) hb
  obtain ⟨c1, c2, c3⟩ := snd_text l i2 c i3 (by omega) hc
  obtain ⟨d1, d2, d3⟩ := snd_list (snd_const l) 48 i3 ks i4 (by omega) hk
  refine ⟨textB b ++ textB c ++ listB constB ks, by omega, d2, ?_, by simp [factB, List.append_assoc]⟩
  rw [b3, c3, d3, cut_two l i i2 i3 (by omega) b1 c1, cut_two l i i3 i4 (by omega) (by omega) d1]
theorem snd_lit (l : List UInt8) : Snd l (pLit l) Rl.B := (snd_term l).bnd fun x a i h0 ha u j h => by
  obtain ⟨a1, a2, a3⟩ := snd_term l x a i h0 ha
  obtain ⟨b, i2, hb, h⟩ := Pr.bnd_inv h
  obtain ⟨c, i3, hc, h⟩ := Pr.bnd_inv h
  obtain ⟨d, i4, hd, h⟩ := Pr.bnd_inv h
  obtain ⟨rfl, rfl⟩ := ret_inv h
  obtain ⟨b1, b2, b3⟩ := snd_text l i b i2 (by omega) hb
  obtain ⟨c1, c2, c3⟩ := snd_list (snd_term l) 48 i2 c i3 (by omega) hc
  obtain ⟨d1, d2, d3⟩ := snd_term l i3 d i4 (by omega) hd
  refine ⟨textB b ++ listB Rt.B c ++ d.B, by omega, d2, ?_, by simp [Rl.B, List.append_assoc]⟩
  rw [b3, c3, d3, cut_two l i i2 i3 (by omega) b1 c1, cut_two l i i3 i4 (by omega) (by omega) d1]
theorem snd_rule (l : List UInt8) : Snd l (pRule l) Rr.B := (snd_term l).bnd fun x a i h0 ha u j h => by
  obtain ⟨a1, a2, a3⟩ := snd_term l x a i h0 ha
  obtain ⟨b, i2, hb, h⟩ := Pr.bnd_inv h
  obtain ⟨c, i3, hc, h⟩ := Pr.bnd_inv h
  obtain ⟨d, i4, hd, h⟩ := Pr.bnd_inv h
  obtain ⟨e, i5, he, h⟩ := Pr.bnd_inv h
  obtain ⟨rfl, rfl⟩ := ret_inv h
  obtain ⟨b1, b2, b3⟩ := snd_text l i b i2 (by omega) hb
  obtain ⟨c1, c2, c3⟩ := snd_list (snd_term l) 48 i2 c i3 (by omega) hc
  obtain ⟨d1, d2, d3⟩ := snd_term l i3 d i4 (by omega) hd
  obtain ⟨e1, e2, e3⟩ := snd_list (snd_lit l) 5 i4 e i5 (by omega) he
  refine ⟨textB b ++ listB Rt.B c ++ d.B ++ listB Rl.B e, by omega, e2, ?_, by simp [Rr.B, List.append_assoc]⟩
  rw [b3, c3, d3, e3, cut_two l i i2 i3 (by omega) b1 c1, cut_two l i i3 i4 (by omega) (by omega) d1, cut_two l i i4 i5 (by omega) (by omega) e1]
theorem snd_rule2 (l : List UInt8) : Snd l (pRule2 l) Rr.B := (snd_rule l).bnd fun x r i h0 hr u j h => by
  obtain ⟨a1, a2, a3⟩ := snd_rule l x r i h0 hr
  cases hb : r.bad
  · rw [hb] at h
    obtain ⟨rfl, rfl⟩ := ret_inv h
    exact ⟨[], by omega, a2, by simp, by simp⟩
  · rw [hb] at h; cases h
theorem snd_prog (l : List UInt8) : Snd l (pProg l) (listB Rr.B) := snd_list (snd_rule2 l) 768

end Go.Proofs.Ytghhdbkgibpebaa
