/-
  The mathematics of layer 10: how many variables a rule has at most. No program in this text.
-/
import Derived.ProofKit
import Derived.Lib.Bytealg
import Derived.Lib.Small
import Derived.Laws.Strings
import Derived.Test.YtpdmmmdkpipmkaaGreatDoorQCc
import Derived.Test.YtpdmmmdkpipmkaaGreatDoorQPa
namespace Go.Proofs.YtpdmmmdkpipmkaaGreatDoor
namespace Ck
/-- a rule whose variables lie within reach, of which there are few -/
structure Vok (r : Ru) : Prop where
  home : r.home.v.length ≤ maxLen
  body : ∀ y ∈ r.body, y.by_.v.length ≤ maxLen ∧ (∀ t ∈ y.args, t.v.length ≤ maxLen) ∧ y.at_.v.length ≤ maxLen
  few : r.body.length ≤ 300
  each : ∀ y ∈ r.body, y.args.length ≤ 300
theorem wv_len (L : List Tx) (t : Tm) : (wv L t).length ≤ L.length + 1 := by
  unfold wv; split
  · omega
  · simp
theorem fold_len : ∀ (ts : List Tm) (L : List Tx), (ts.foldl wv L).length ≤ L.length + ts.length
  | [], L => by simp
  | t :: r, L => by
    have h1 := wv_len L t
    have h2 := fold_len r (wv L t)
    rw [List.foldl_cons, List.length_cons]; omega
theorem wl_len (L : List Tx) (y : Lt) : (wl L y).length ≤ L.length + y.args.length + 2 := by
  unfold wl
  have h1 := wv_len L y.by_
  have h2 := fold_len y.args (wv L y.by_)
  have h3 := wv_len (y.args.foldl wv (wv L y.by_)) y.at_
  omega
theorem bnd_len {r : Ru} (h : Vok r) : ∀ k : Nat, (bnd r k).length ≤ 1 + 302 * k
  | 0 => by
    have := wv_len [] r.home
    simp only [bnd, List.take_zero, List.foldl_nil, List.length_nil] at this ⊢; omega
  | k + 1 => by
    have ih := bnd_len h k
    by_cases hk : k < r.body.length
    · rw [bnd_succ hk]
      have h1 := wl_len (bnd r k) r.body[k]
      have h2 := h.each _ (List.getElem_mem hk)
      omega
    · rw [bnd_all (by omega), ← bnd_all (k := k) (by omega)]; omega
theorem bnd_min (r : Ru) (k : Nat) : bnd r (min k r.body.length) = bnd r k := by
  rcases Nat.le_total k r.body.length with h | h
  · rw [Nat.min_eq_left h]
  · rw [Nat.min_eq_right h, bnd_all h, bnd_all (Nat.le_refl _)]
theorem bnd_all_len {r : Ru} (h : Vok r) (k : Nat) : (bnd r k).length ≤ 100000 := by
  rw [← bnd_min]
  have h1 := bnd_len h (min k r.body.length)
  have h2 := h.few
  have : min k r.body.length ≤ 300 := Nat.le_trans (Nat.min_le_right ..) h2
  omega
end Ck
end Go.Proofs.YtpdmmmdkpipmkaaGreatDoor

/-
  The mathematics of layer 10: a rule that can be shown. No program in this text.
-/
namespace Go.Proofs.YtpdmmmdkpipmkaaGreatDoor
namespace Ck
/-- what can be shown has small variables -/
theorem can_small {t : Tm} (h : Sh.canT t = true) : t.v.length ≤ 32 := by
  unfold Sh.canT Sh.termS at h
  split at h
  · split at h
    · rename_i hz
      simp only [Bool.and_eq_true] at hz
      have := hz.2
      simp only [Sh.namedB, Bool.and_eq_true, decide_eq_true_eq] at this
      exact this.1.1.2
    · cases h
  · rename_i hv
    have : t.v = [] := by simpa using hv
    rw [this]; simp
theorem canM_small {t : Tm} (h : Sh.canM t = true) : t.v.length ≤ 32 := by
  unfold Sh.canM at h
  rw [Bool.or_eq_true] at h
  rcases h with h | h
  · simp only [Sh.noneT, Bool.and_eq_true, List.isEmpty_iff] at h
    rw [h.1]; simp
  · exact can_small h
theorem word_small {p : Tx} (h : Sh.wordB p = true) : p.length ≤ 32 := by
  simp only [Sh.wordB, Sh.namedB, Bool.and_eq_true, decide_eq_true_eq] at h
  exact h.1.1.1.2
/-- an atom with a short name and few arguments -/
structure Small (y : Lt) : Prop where
  pred : y.pred.length ≤ 32
  args : y.args.length ≤ 4
structure Shown (r : Ru) : Prop where
  ok : Vok r
  head : Small (hdL r)
  body : ∀ y ∈ r.body, Small y
  few : r.body.length ≤ 4
theorem shown {r : Ru} (h : (Sh.ruleS r).isSome = true) : Shown r := by
  rw [Sh.rule_some] at h
  simp only [Sh.canR, Bool.and_eq_true, List.all_eq_true, decide_eq_true_eq] at h
  obtain ⟨⟨⟨⟨⟨h1, h2⟩, h3⟩, _⟩, h5⟩, h4⟩ := h
  have hm : (32 : Nat) ≤ maxLen := by decide
  have ha : ∀ {p : Tx} {ts : List Tm}, Sh.canA p ts = true → p.length ≤ 32 ∧ ts.length ≤ 4 ∧ ∀ t ∈ ts, t.v.length ≤ 32 := fun h => by
    simp only [Sh.canA, Bool.and_eq_true, List.all_eq_true, decide_eq_true_eq] at h
    exact ⟨word_small h.1.1, h.1.2, fun t ht => can_small (h.2 t ht)⟩
  have hl : ∀ y ∈ r.body, y.by_.v.length ≤ 32 ∧ (y.pred.length ≤ 32 ∧ y.args.length ≤ 4 ∧ ∀ t ∈ y.args, t.v.length ≤ 32) ∧ y.at_.v.length ≤ 32 := fun y hy => by
    have := h4 y hy
    simp only [Sh.canL, Bool.and_eq_true] at this
    exact ⟨canM_small this.1.1, ha this.1.2, canM_small this.2⟩
  refine ⟨⟨Nat.le_trans (can_small h1) hm, fun y hy => ?_, by omega, fun y hy => ?_⟩, ⟨(ha h2).1, (ha h2).2.1⟩, fun y hy => ⟨(hl y hy).2.1.1, (hl y hy).2.1.2.1⟩, h5⟩
  · obtain ⟨a, b, c⟩ := hl y hy
    exact ⟨Nat.le_trans a hm, fun t ht => Nat.le_trans (b.2.2 t ht) hm, Nat.le_trans c hm⟩
  · have := (hl y hy).2.1.2.1; omega
end Ck
end Go.Proofs.YtpdmmmdkpipmkaaGreatDoor

/-
  The mathematics of layer 4: constants, facts, their order (told by numbers), lists in order each once. No memory, no program.
-/
namespace Go.Proofs.YtpdmmmdkpipmkaaGreatDoor
open Go

/-- an order told by numbers; two that are not one may be as good as each other -/
structure Pre {α : Type} (c : α → α → Int) : Prop where
  anti : ∀ x y, c x y = - c y x
  trans : ∀ x y z, c x y ≤ 0 → c y z ≤ 0 → c x z ≤ 0
  low : ∀ x y, -1 ≤ c x y
  high : ∀ x y, c x y ≤ 1

def lex2 (a b : Int) : Int := if a = 0 then b else a
theorem lex2_zero {a b : Int} : lex2 a b = 0 ↔ a = 0 ∧ b = 0 := by
  unfold lex2; split <;> omega

theorem Pre.refl {α : Type} {c : α → α → Int} (h : Pre c) (x : α) : c x x = 0 := by have := h.anti x x; omega
theorem Pre.lt_of_lt_of_le {α : Type} {c : α → α → Int} (h : Pre c) {x y z : α} (h1 : c x y < 0) (h2 : c y z ≤ 0) : c x z < 0 := by
  have := h.trans x y z (by omega) h2
  rcases Int.lt_or_eq_of_le this with h3 | h3
  · exact h3
  · have := h.anti x z
    have := h.trans y z x h2 (by omega)
    have := h.anti x y
    omega
theorem Pre.lt_of_le_of_lt {α : Type} {c : α → α → Int} (h : Pre c) {x y z : α} (h1 : c x y ≤ 0) (h2 : c y z < 0) : c x z < 0 := by
  have := h.trans x y z h1 (by omega)
  rcases Int.lt_or_eq_of_le this with h3 | h3
  · exact h3
  · have := h.anti x z
    have := h.trans z x y (by omega) h1
    have := h.anti y z
    omega
theorem Pre.on {α β : Type} {c : α → α → Int} (h : Pre c) (p : β → α) : Pre fun x y => c (p x) (p y) :=
  ⟨fun _ _ => h.anti _ _, fun _ _ _ => h.trans _ _ _, fun _ _ => h.low _ _, fun _ _ => h.high _ _⟩
theorem Pre.lex {α : Type} {c d : α → α → Int} (h : Pre c) (k : Pre d) : Pre fun x y => lex2 (c x y) (d x y) where
  anti x y := by
    have := h.anti x y; have := k.anti x y
    unfold lex2; split <;> split <;> omega
  low x y := by
    have := h.low x y; have := k.low x y
    unfold lex2; split <;> omega
  high x y := by
    have := h.high x y; have := k.high x y
    unfold lex2; split <;> omega
  trans x y z h1 h2 := by
    have a1 := h.anti x y; have a2 := h.anti y z; have a3 := h.anti x z
    have t1 := h.trans x y z; have t2 := h.trans z x y; have t3 := h.trans y z x; have t4 := k.trans x y z
    revert h1 h2
    simp only [lex2]
    intro h1 h2
    split at h1 <;> split at h2 <;> split <;> omega

def cL {α : Type} (c : α → α → Int) : List α → List α → Int
  | [], [] => 0
  | [], _ :: _ => -1
  | _ :: _, [] => 1
  | x :: xs, y :: ys => lex2 (c x y) (cL c xs ys)

theorem Pre.list {α : Type} {c : α → α → Int} (h : Pre c) : Pre (cL c) where
  anti x y := by
    induction x generalizing y with
    | nil => cases y <;> simp [cL]
    | cons a x ih =>
      cases y with
      | nil => simp [cL]
      | cons b y =>
        have := h.anti a b; have := ih y
        simp only [cL, lex2]; split <;> split <;> omega
  low x y := by
    induction x generalizing y with
    | nil => cases y <;> simp [cL]
    | cons a x ih =>
      cases y with
      | nil => simp [cL]
      | cons b y =>
        have := h.low a b; have := ih y
        simp only [cL, lex2]; split <;> omega
  high x y := by
    induction x generalizing y with
    | nil => cases y <;> simp [cL]
    | cons a x ih =>
      cases y with
      | nil => simp [cL]
      | cons b y =>
        have := h.high a b; have := ih y
        simp only [cL, lex2]; split <;> omega
  trans x y z := by
    induction x generalizing y z with
    | nil => cases y <;> cases z <;> simp [cL]
    | cons a x ih =>
      cases y with
      | nil => cases z <;> simp [cL]
      | cons b y =>
        cases z with
        | nil => simp [cL]
        | cons d z =>
          have t0 := ih y z
          have a1 := h.anti a b; have a2 := h.anti b d; have a3 := h.anti a d
          have t1 := h.trans a b d; have t2 := h.trans d a b; have t3 := h.trans b d a
          simp only [cL, lex2]
          intro h1 h2
          split at h1 <;> split at h2 <;> split <;> omega
theorem cL_zero {α : Type} {c : α → α → Int} (h : ∀ x y, c x y = 0 ↔ x = y) (x y : List α) : cL c x y = 0 ↔ x = y := by
  induction x generalizing y with
  | nil => cases y <;> simp [cL]
  | cons a x ih =>
    cases y with
    | nil => simp [cL]
    | cons b y => simp only [cL, lex2_zero, h, ih, List.cons.injEq]

/-- what a walk along both lists says -/
theorem cL_at {α : Type} (c : α → α → Int) (x y : List α) : ∀ k, k ≤ x.length → k ≤ y.length → (∀ j (hx : j < x.length) (hy : j < y.length), j < k → c x[j] y[j] = 0) → cL c x y = cL c (x.drop k) (y.drop k) := by
  intro k
  induction k generalizing x y with
  | zero => intro _ _ _; simp
  | succ k ih =>
    intro hx hy h
    cases x with
    | nil => simp at hx
    | cons a x =>
      cases y with
      | nil => simp at hy
      | cons b y =>
        have h0 := h 0 (by simp) (by simp) (by omega)
        simp only [List.getElem_cons_zero] at h0
        simp only [cL, lex2, h0, if_true, List.drop_succ_cons]
        exact ih x y (by simpa using hx) (by simpa using hy) fun j hjx hjy hj => by
          have := h (j + 1) (by simp; omega) (by simp; omega) (by omega)
          simpa using this
theorem cL_hit {α : Type} (c : α → α → Int) (x y : List α) (k : Nat) (hx : k < x.length) (hy : k < y.length) (h : ∀ j (hx : j < x.length) (hy : j < y.length), j < k → c x[j] y[j] = 0) (hn : c x[k] y[k] ≠ 0) : cL c x y = c x[k] y[k] := by
  rw [cL_at c x y k (by omega) (by omega) h, List.drop_eq_getElem_cons hx, List.drop_eq_getElem_cons hy]
  simp only [cL, lex2, if_neg hn]
theorem cL_long {α : Type} (c : α → α → Int) (x y : List α) (hl : y.length < x.length) (h : ∀ j (hx : j < x.length) (hy : j < y.length), c x[j] y[j] = 0) : cL c x y = 1 := by
  rw [cL_at c x y y.length (by omega) (by omega) fun j a b _ => h j a b, List.drop_eq_getElem_cons hl, List.drop_length]
  simp [cL]
theorem cL_short {α : Type} (c : α → α → Int) (x y : List α) (hl : x.length < y.length) (h : ∀ j (hx : j < x.length) (hy : j < y.length), c x[j] y[j] = 0) : cL c x y = -1 := by
  rw [cL_at c x y x.length (by omega) (by omega) fun j a b _ => h j a b, List.drop_eq_getElem_cons hl, List.drop_length]
  simp [cL]
theorem cL_even {α : Type} (c : α → α → Int) (x y : List α) (hl : x.length = y.length) (h : ∀ j (hx : j < x.length) (hy : j < y.length), c x[j] y[j] = 0) : cL c x y = 0 := by
  rw [cL_at c x y x.length (by omega) (by omega) fun j a b _ => h j a b, List.drop_length, hl, List.drop_length]
  simp [cL]

/-! texts -/
def cB (a b : UInt8) : Int := if a < b then -1 else if b < a then 1 else 0
theorem pre_cB : Pre cB where
  anti x y := by
    simp only [cB, UInt8.lt_iff_toNat_lt]
    split <;> split <;> omega
  trans x y z h1 h2 := by
    simp only [cB, UInt8.lt_iff_toNat_lt] at *
    split at h1 <;> split at h2 <;> split <;> omega
  low x y := by simp only [cB]; split <;> (try split) <;> omega
  high x y := by simp only [cB]; split <;> (try split) <;> omega
theorem cB_zero (x y : UInt8) : cB x y = 0 ↔ x = y := by
  simp only [cB, UInt8.lt_iff_toNat_lt, ← UInt8.toNat_inj]
  split <;> (try split) <;> omega

theorem compareBytes_cL : ∀ a b : List UInt8, Lib.compareBytes a b = cL cB a b
  | [], [] => rfl
  | [], _ :: _ => rfl
  | _ :: _, [] => rfl
  | a :: as, b :: bs => by
    have := compareBytes_cL as bs
    simp only [Lib.compareBytes, cL, lex2, cB, UInt8.lt_iff_toNat_lt, this]
    split <;> (try split) <;> (try split) <;> omega

abbrev cT (a b : List UInt8) : Int := Lib.compareBytes a b
theorem pre_cT : Pre cT := by
  have : cT = cL cB := by funext a b; exact compareBytes_cL a b
  rw [this]; exact pre_cB.list
theorem cT_zero (a b : List UInt8) : cT a b = 0 ↔ a = b := by
  rw [show cT a b = cL cB a b from compareBytes_cL a b]; exact cL_zero cB_zero a b
theorem bytesLess_cT : ∀ a b : List UInt8, Op.bytesLess a b = decide (cT a b < 0)
  | [], [] => rfl
  | [], _ :: _ => rfl
  | _ :: _, [] => rfl
  | a :: as, b :: bs => by
    have := bytesLess_cT as bs
    simp only [Op.bytesLess, cT, Lib.compareBytes] at *
    rw [this]
    by_cases h1 : a < b
    · simp [h1]
    · by_cases h2 : b < a
      · have : (a == b) = false := by
          simp only [beq_eq_false_iff_ne, ne_eq, ← UInt8.toNat_inj]; rw [UInt8.lt_iff_toNat_lt] at h2; omega
        simp [h1, h2, this]
      · have : (a == b) = true := by
          simp only [beq_iff_eq, ← UInt8.toNat_inj]; rw [UInt8.lt_iff_toNat_lt] at h1 h2; omega
        simp [h1, h2, this]

/-! constants and facts -/

def cNum (x y : Bool) : Int := if x = y then 0 else if x then -1 else 1
theorem pre_cNum : Pre cNum where
  anti x y := by cases x <;> cases y <;> decide
  trans x y z := by cases x <;> cases y <;> cases z <;> decide
  low x y := by cases x <;> cases y <;> decide
  high x y := by cases x <;> cases y <;> decide
theorem pre_cInt : Pre Lib.compareInt where
  anti x y := by unfold Lib.compareInt; repeat' split
                 all_goals omega
  trans x y z := by unfold Lib.compareInt; repeat' split
                    all_goals omega
  low x y := by unfold Lib.compareInt; split <;> (try split) <;> omega
  high x y := by unfold Lib.compareInt; split <;> (try split) <;> omega

def cK (x y : K) : Int := lex2 (cNum x.num y.num) (lex2 (Lib.compareInt x.n y.n) (cT x.s y.s))
theorem pre_cK : Pre cK := (pre_cNum.on K.num).lex ((pre_cInt.on K.n).lex (pre_cT.on K.s))
theorem cK_zero (x y : K) : cK x y = 0 ↔ x = y := by
  obtain ⟨a, b, c⟩ := x; obtain ⟨a', b', c'⟩ := y
  simp only [cK, lex2_zero, cT_zero, K.mk.injEq]
  have h1 : cNum a a' = 0 ↔ a = a' := by cases a <;> cases a' <;> decide
  have h2 : Lib.compareInt b b' = 0 ↔ b = b' := by unfold Lib.compareInt; split <;> (try split) <;> omega
  rw [h1, h2]

def cF (x y : F) : Int := lex2 (cT x.at_ y.at_) (lex2 (cT x.by_ y.by_) (lex2 (cT x.pred y.pred) (cL cK x.ks y.ks)))
theorem pre_cF : Pre cF := (pre_cT.on F.at_).lex ((pre_cT.on F.by_).lex ((pre_cT.on F.pred).lex (pre_cK.list.on F.ks)))
theorem cF_zero (x y : F) : cF x y = 0 ↔ x = y := by
  obtain ⟨a, b, c, d⟩ := x; obtain ⟨a', b', c', d'⟩ := y
  simp only [cF, lex2_zero, cT_zero, cL_zero cK_zero, F.mk.injEq]
theorem cF_self (x : F) : cF x x = 0 := pre_cF.refl x

/-! lists in order, each once -/
abbrev SS (l : List F) : Prop := l.Pairwise fun x y => cF x y < 0

theorem SS.uniq : ∀ {l m : List F}, SS l → SS m → (∀ x, x ∈ l ↔ x ∈ m) → l = m
  | [], [], _, _, _ => rfl
  | [], b :: m, _, _, h => by have := (h b).2 (by simp); simp at this
  | a :: l, [], _, _, h => by have := (h a).1 (by simp); simp at this
  | a :: l, b :: m, h1, h2, h => by
    obtain ⟨ha, hl⟩ := List.pairwise_cons.1 h1
    obtain ⟨hb, hm⟩ := List.pairwise_cons.1 h2
    have hab : a = b := by
      have h3 := (h a).1 (by simp)
      have h4 := (h b).2 (by simp)
      rcases List.mem_cons.1 h3 with h3 | h3
      · exact h3
      · rcases List.mem_cons.1 h4 with h4 | h4
        · exact h4.symm
        · have := ha b h4; have := hb a h3; have := pre_cF.anti a b; omega
    subst hab
    congr 1
    refine SS.uniq hl hm fun x => ⟨fun hx => ?_, fun hx => ?_⟩
    · rcases List.mem_cons.1 ((h x).1 (List.mem_cons_of_mem _ hx)) with rfl | h5
      · have := ha x hx; have := cF_self x; omega
      · exact h5
    · rcases List.mem_cons.1 ((h x).2 (List.mem_cons_of_mem _ hx)) with rfl | h5
      · have := hb x hx; have := cF_self x; omega
      · exact h5

/-- a list in order with a fact more -/
def ins : List F → F → List F
  | [], f => [f]
  | y :: ys, f => if cF y f < 0 then y :: ins ys f else if cF y f = 0 then y :: ys else f :: y :: ys
theorem mem_ins (l : List F) (f x : F) : x ∈ ins l f ↔ x ∈ l ∨ x = f := by
  induction l with
  | nil => simp [ins]
  | cons y ys ih =>
    simp only [ins]
    split
    · simp only [List.mem_cons, ih, or_assoc]
    · split
      · rename_i h; rw [cF_zero] at h; subst h
        simp only [List.mem_cons]
        constructor
        · intro h; exact .inl h
        · rintro (h | h)
          · exact h
          · exact .inl h
      · simp only [List.mem_cons]
        constructor
        · rintro (h | h | h) <;> simp [h]
        · rintro ((h | h) | h) <;> simp [h]
theorem SS_ins {l : List F} (h : SS l) (f : F) : SS (ins l f) := by
  induction l with
  | nil => simp [ins]
  | cons y ys ih =>
    obtain ⟨hy, hys⟩ := List.pairwise_cons.1 h
    simp only [ins]
    split
    · rename_i hlt
      refine List.pairwise_cons.2 ⟨fun x hx => ?_, ih hys⟩
      rcases (mem_ins ys f x).1 hx with h1 | rfl
      · exact hy x h1
      · exact hlt
    · split
      · exact h
      · rename_i h1 h2
        have hf : cF f y < 0 := by have := pre_cF.anti f y; omega
        refine List.pairwise_cons.2 ⟨fun x hx => ?_, h⟩
        rcases List.mem_cons.1 hx with rfl | hx
        · exact hf
        · exact pre_cF.lt_of_lt_of_le hf (Int.le_of_lt (hy x hx))
theorem ins_at (f : F) : ∀ (l : List F) (k : Nat), k ≤ l.length → (∀ j (hj : j < l.length), j < k → cF l[j] f < 0) → (∀ hk : k < l.length, ¬ cF l[k] f < 0) →
    ins l f = if h : k < l.length then (if cF l[k] f = 0 then l else l.take k ++ f :: l.drop k) else l.take k ++ f :: l.drop k
  | [], k, hk, _, _ => by simp [ins]
  | y :: ys, 0, _, _, h => by
    have := h (by simp)
    simp only [List.getElem_cons_zero] at this
    simp [ins, this]
  | y :: ys, k + 1, hk, h1, h2 => by
    have h0 := h1 0 (by simp) (by omega)
    simp only [List.getElem_cons_zero] at h0
    have := ins_at f ys k (by simpa using hk) (fun j hj hjk => h1 (j + 1) (by simpa using hj) (by omega)) (fun hk' => h2 (by simpa using hk'))
    simp only [ins, if_pos h0, this, List.length_cons, Nat.add_lt_add_iff_right, List.getElem_cons_succ]
    split
    · split <;> simp
    · simp

def sortF (l : List F) : List F := l.foldl ins []
theorem foldl_ins (l : List F) : ∀ m : List F, SS m → SS (l.foldl ins m) ∧ ∀ x, x ∈ l.foldl ins m ↔ x ∈ m ∨ x ∈ l := by
  induction l with
  | nil => intro m hm; simp [hm]
  | cons a l ih =>
    intro m hm
    obtain ⟨h1, h2⟩ := ih (ins m a) (SS_ins hm a)
    refine ⟨h1, fun x => ?_⟩
    rw [List.foldl_cons, h2, mem_ins, List.mem_cons, or_assoc]
theorem sortF_SS (l : List F) : SS (sortF l) := (foldl_ins l [] List.Pairwise.nil).1
theorem mem_sortF (l : List F) (x : F) : x ∈ sortF l ↔ x ∈ l := by
  have := (foldl_ins l [] List.Pairwise.nil).2 x
  simpa [sortF] using this
theorem sortF_of {l m : List F} (h : SS m) (hm : ∀ x, x ∈ m ↔ x ∈ l) : m = sortF l := h.uniq (sortF_SS l) fun x => by rw [hm, mem_sortF]
theorem sortF_eq_iff (l m : List F) : sortF l = sortF m ↔ ∀ x, x ∈ l ↔ x ∈ m := by
  constructor
  · intro h x
    rw [← mem_sortF l, h, mem_sortF]
  · intro h
    exact (sortF_SS l).uniq (sortF_SS m) fun x => by rw [mem_sortF, mem_sortF, h]

/-- what is in one list and not in another one -/
def hasF (b : List F) (x : F) : Bool := b.any fun y => decide (cF x y = 0)
theorem hasF_iff (b : List F) (x : F) : hasF b x = true ↔ x ∈ b := by
  simp only [hasF, List.any_eq_true, decide_eq_true_eq, cF_zero]
  constructor
  · rintro ⟨y, hy, rfl⟩; exact hy
  · exact fun h => ⟨x, h, rfl⟩
def minusF (a b : List F) : List F := (sortF a).filter fun x => !hasF b x
theorem mem_minusF (a b : List F) (x : F) : x ∈ minusF a b ↔ x ∈ a ∧ x ∉ b := by simp [minusF, mem_sortF, ← hasF_iff b x]
theorem minusF_SS (a b : List F) : SS (minusF a b) := (sortF_SS a).filter _

/-! neighbours that are the same: what is kept of the first k -/
def kept {α : Type} (c : α → α → Int) (l : List α) : Nat → List α
  | 0 => []
  | k + 1 => match l[k]? with
    | none => kept c l k
    | some x => match k with
      | 0 => [x]
      | j + 1 => match l[j]? with
        | none => kept c l k
        | some y => if c x y = 0 then kept c l k else kept c l k ++ [x]
theorem kept_one {α : Type} (c : α → α → Int) (l : List α) (h : 0 < l.length) : kept c l 1 = [l[0]] := by simp [kept, h]
theorem kept_dup {α : Type} (c : α → α → Int) (l : List α) (k : Nat) (h0 : 0 < k) (h : k < l.length) (he : c l[k] l[k - 1] = 0) : kept c l (k + 1) = kept c l k := by
  obtain ⟨j, rfl⟩ : ∃ j, k = j + 1 := ⟨k - 1, by omega⟩
  rw [kept]
  simp only [List.getElem?_eq_getElem h, List.getElem?_eq_getElem (show j < l.length by omega)]
  rw [if_pos (by simpa using he)]
theorem kept_new {α : Type} (c : α → α → Int) (l : List α) (k : Nat) (h0 : 0 < k) (h : k < l.length) (he : c l[k] l[k - 1] ≠ 0) : kept c l (k + 1) = kept c l k ++ [l[k]] := by
  obtain ⟨j, rfl⟩ : ∃ j, k = j + 1 := ⟨k - 1, by omega⟩
  rw [kept]
  simp only [List.getElem?_eq_getElem h, List.getElem?_eq_getElem (show j < l.length by omega)]
  rw [if_neg (by simpa using he)]
theorem kept_len {α : Type} (c : α → α → Int) (l : List α) : ∀ k, k ≤ l.length → (kept c l k).length ≤ k
  | 0, _ => by simp [kept]
  | 1, h => by rw [kept_one c l (by omega)]; simp
  | k + 2, h => by
    have := kept_len c l (k + 1) (by omega)
    by_cases he : c l[k + 1] (l[k + 1 - 1]'(by omega)) = 0
    · rw [kept_dup c l (k + 1) (by omega) (by omega) he]; omega
    · rw [kept_new c l (k + 1) (by omega) (by omega) he]; simp; omega
theorem kept_all {α : Type} (c : α → α → Int) (l : List α) : ∀ k, k ≤ l.length → (∀ j (h : j < l.length), 0 < j → j < k → c l[j] (l[j - 1]'(by omega)) ≠ 0) → kept c l k = l.take k
  | 0, _, _ => by simp [kept]
  | 1, h, _ => by rw [kept_one c l (by omega), List.take_one, List.head?_eq_getElem?, List.getElem?_eq_getElem (by omega)]; rfl
  | k + 2, h, hn => by
    rw [kept_new c l (k + 1) (by omega) (by omega) (hn (k + 1) (by omega) (by omega) (by omega)), kept_all c l (k + 1) (by omega) fun j hj h0 hk => hn j hj h0 (by omega)]
    exact (List.take_succ_eq_append_getElem (by omega)).symm

theorem kept_mem {α : Type} (c : α → α → Int) (l : List α) : ∀ k, k ≤ l.length → ∀ x ∈ kept c l k, x ∈ l.take k
  | 0, _ => by simp [kept]
  | 1, h => by
    rw [kept_one c l (by omega)]; intro x hx
    rw [List.mem_singleton] at hx; subst hx
    exact List.mem_take_iff_getElem.2 ⟨0, by omega, rfl⟩
  | k + 2, h => by
    have ih := kept_mem c l (k + 1) (by omega)
    have up : ∀ x ∈ l.take (k + 1), x ∈ l.take (k + 2) := fun x hx => (List.take_prefix_take_left (Nat.le_succ (k + 1))).subset hx
    by_cases he : c l[k + 1] (l[k + 1 - 1]'(by omega)) = 0
    · rw [kept_dup c l (k + 1) (by omega) (by omega) he]; exact fun x hx => up x (ih x hx)
    · rw [kept_new c l (k + 1) (by omega) (by omega) he]
      intro x hx
      rcases List.mem_append.1 hx with hx | hx
      · exact up x (ih x hx)
      · rw [List.mem_singleton] at hx; subst hx
        exact List.mem_take_iff_getElem.2 ⟨k + 1, by omega, rfl⟩

/-- of a list in order: what is kept is in order, each once; nothing is lost -/
theorem kept_sorted {α : Type} (c : α → α → Int) (hc : Pre c) (l : List α) (hs : ∀ i j (hi : i < l.length) (hj : j < l.length), i < j → c l[i] l[j] ≤ 0) : ∀ k, k ≤ l.length →
    (kept c l k).Pairwise (fun x y => c x y < 0) ∧ ∀ j (hj : j < l.length), j < k → ∃ x ∈ kept c l k, c x l[j] = 0
  | 0, _ => by simp [kept]
  | 1, h => by
    rw [kept_one c l (by omega)]
    refine ⟨by simp, fun j hj hk => ⟨l[0], by simp, ?_⟩⟩
    have : j = 0 := by omega
    subst this; exact hc.refl _
  | k + 2, h => by
    obtain ⟨h1, h2⟩ := kept_sorted c hc l hs (k + 1) (by omega)
    by_cases he : c l[k + 1] (l[k + 1 - 1]'(by omega)) = 0
    · rw [kept_dup c l (k + 1) (by omega) (by omega) he]
      refine ⟨h1, fun j hj hk => ?_⟩
      by_cases hjk : j < k + 1
      · exact h2 j hj hjk
      · have : j = k + 1 := by omega
        subst this
        obtain ⟨x, hx, hx0⟩ := h2 k (by omega) (by omega)
        refine ⟨x, hx, ?_⟩
        simp only [Nat.add_sub_cancel] at he
        have a1 := hc.anti x l[k]; have a2 := hc.anti l[k + 1] l[k]; have a3 := hc.anti x l[k + 1]
        have := hc.trans x l[k] l[k + 1] (by omega) (by omega)
        have := hc.trans l[k + 1] l[k] x (by omega) (by omega)
        omega
    · rw [kept_new c l (k + 1) (by omega) (by omega) he]
      have hlt : c l[k] l[k + 1] < 0 := by
        have := hs k (k + 1) (by omega) (by omega) (by omega)
        have := hc.anti l[k + 1] l[k]
        simp only [Nat.add_sub_cancel] at he
        omega
      refine ⟨List.pairwise_append.2 ⟨h1, by simp, fun x hx y hy => ?_⟩, fun j hj hk => ?_⟩
      · rw [List.mem_singleton] at hy; subst hy
        obtain ⟨i, hi, rfl⟩ := List.mem_take_iff_getElem.1 (kept_mem c l (k + 1) (by omega) x hx)
        by_cases hik : i = k
        · subst hik; exact hlt
        · exact hc.lt_of_le_of_lt (hs i k (by omega) (by omega) (by omega)) hlt
      · by_cases hjk : j < k + 1
        · obtain ⟨x, hx, hx0⟩ := h2 j hj hjk
          exact ⟨x, List.mem_append_left _ hx, hx0⟩
        · have : j = k + 1 := by omega
          subst this
          exact ⟨l[k + 1], by simp, hc.refl _⟩


end Go.Proofs.YtpdmmmdkpipmkaaGreatDoor

/-
  The mathematics of layer 11: values of terms, literals matched with facts, heads and bodies of rules, what follows. No program in this text.
-/
namespace Go.Proofs.YtpdmmmdkpipmkaaGreatDoor
namespace Mt

abbrev Tx := List UInt8
/-- bindings, in the order in which they were made -/
abbrev Env := List (Tx × K)
def eqK (a b : K) : Bool := (a.num == b.num) && ((a.n == b.n) && (a.s == b.s))
theorem eqK_iff (a b : K) : eqK a b = true ↔ a = b := by
  obtain ⟨x, y, z⟩ := a; obtain ⟨x', y', z'⟩ := b
  simp [eqK]
theorem eqK_self (a : K) : eqK a a = true := (eqK_iff a a).2 rfl
theorem eqK_no {a b : K} (h : a ≠ b) : eqK a b = false := by
  rw [Bool.eq_false_iff]; exact fun h' => h ((eqK_iff a b).1 h')
/-- a term that is none -/
def nul (t : Tm) : Bool := t.v.isEmpty && (!t.k.num && decide (t.k.n = 0) && t.k.s.isEmpty)
def get (v : Tx) (e : Env) : Option K := (e.find? (fun b => b.1 == v)).map (·.2)
def val (t : Tm) (e : Env) : Option K := if nul t = true then none else if t.v = [] then some t.k else get t.v e
def uni (t : Tm) (c : K) (e : Env) : Option Env :=
  match val t e with
  | some v => if eqK v c = true then some e else none
  | none => if nul t = true then none else some (e ++ [(t.v, c)])
def nm (s : Tx) : K := ⟨false, 0, s⟩
def unis : List Tm → List K → Env → Option Env
  | [], [], e => some e
  | t :: ts, c :: cs, e => (uni t c e).bind fun e1 => unis ts cs e1
  | _, _, _ => none
def by1 (l : Lt) (f : F) (e : Env) : Option Env := if nul l.by_ = true then (if f.by_ = f.at_ then some e else none) else uni l.by_ (nm f.by_) e
def place (home : Tm) (t : Tm) : Tm := if nul t = true then home else t
def lit (home : Tm) (l : Lt) (f : F) (e : Env) : Option Env :=
  if l.pred = f.pred ∧ l.args.length = f.ks.length then (uni (place home l.at_) (nm f.at_) e).bind fun e1 => (by1 l f e1).bind fun e2 => unis l.args f.ks e2 else none
def name (t : Tm) (e : Env) : Option Tx := (val t e).bind fun c => if eqK c (nm c.s) = true then some c.s else none
def vals (e : Env) : List Tm → Option (List K)
  | [] => some []
  | t :: ts => (val t e).bind fun c => (vals e ts).map fun cs => c :: cs
/-- the fact of an atom, by its place and by who says it -/
def fact (at_ by_ : Tm) (pred : Tx) (args : List Tm) (e : Env) : Option F := (name at_ e).bind fun a => (name by_ e).bind fun b => (vals e args).map fun ks => ⟨a, b, pred, ks⟩
def head (r : Ru) (e : Env) : Option F := fact (place r.home r.to_) r.home r.pred r.args e
def bodyF (home : Tm) (l : Lt) (e : Env) : Option F := fact (place home l.at_) (place (place home l.at_) l.by_) l.pred l.args e
def body (home : Tm) (e : Env) : List Lt → Option (List F)
  | [] => some []
  | l :: ls => (bodyF home l e).bind fun f => (body home e ls).map fun fs => f :: fs
def lits (home : Tm) : List Lt → List F → Env → Option Env
  | [], [], e => some e
  | l :: ls, f :: fs, e => (lit home l f e).bind fun e1 => lits home ls fs e1
  | _, _, _ => none
/-- what Follows tells -/
def Fol (r : Ru) (h : F) (b : List F) : Prop := ∃ e1 e2, uni r.home (nm h.by_) [] = some e1 ∧ lits r.home r.body b e1 = some e2 ∧ head r e2 = some h

/-! bindings that grow -/
theorem get_ext {v : Tx} {e : Env} {c : K} (h : get v e = some c) (m : Env) : get v (e ++ m) = some c := by
  unfold get at *
  rw [List.find?_append]
  cases hx : e.find? (fun b => b.1 == v) with
  | none => rw [hx] at h; cases h
  | some b => rw [hx] at h; exact h
theorem val_ext {t : Tm} {e : Env} {c : K} (h : val t e = some c) (m : Env) : val t (e ++ m) = some c := by
  unfold val at *
  split at h
  · cases h
  · rename_i h1
    rw [if_neg h1]
    split at h
    · rename_i h2; rw [if_pos h2]; exact h
    · rename_i h2; rw [if_neg h2]; exact get_ext h m
theorem get_new {v : Tx} {e : Env} {c : K} (h : get v e = none) : get v (e ++ [(v, c)]) = some c := by
  unfold get at *
  rw [List.find?_append]
  cases hx : e.find? (fun b => b.1 == v) with
  | some b => rw [hx] at h; cases h
  | none => simp
/-- what is bound already -/
theorem uni_fix {t : Tm} {c : K} {e : Env} (h : val t e = some c) : uni t c e = some e := by
  unfold uni; rw [h]; simp only; rw [if_pos (eqK_self c)]
theorem uni_val {t : Tm} {c : K} {e e' : Env} (h : uni t c e = some e') : val t e' = some c ∧ ∃ m, e' = e ++ m := by
  unfold uni at h
  cases hv : val t e with
  | some v =>
    rw [hv] at h
    simp only at h
    split at h
    · rename_i hk; cases h
      exact ⟨by rw [hv, (eqK_iff v c).1 hk], [], by simp⟩
    · cases h
  | none =>
    rw [hv] at h
    simp only at h
    split at h
    · cases h
    · rename_i hn
      cases h
      refine ⟨?_, _, rfl⟩
      unfold val at hv ⊢
      rw [if_neg hn] at hv ⊢
      split at hv
      · cases hv
      · rename_i h2; rw [if_neg h2]; exact get_new hv
theorem uni_only {t : Tm} {c d : K} {e e' : Env} (h : val t e = some c) (hu : uni t d e = some e') : c = d ∧ e' = e := by
  unfold uni at hu; rw [h] at hu; simp only at hu
  split at hu
  · rename_i hk; cases hu; exact ⟨(eqK_iff c d).1 hk, rfl⟩
  · cases hu
theorem nm_inj {a b : Tx} (h : nm a = nm b) : a = b := by
  unfold nm at h; injection h

theorem unis_val : ∀ {ts : List Tm} {cs : List K} {e e' : Env}, unis ts cs e = some e' → (∃ m, e' = e ++ m) ∧ ts.length = cs.length ∧ ∀ i (h1 : i < ts.length) (h2 : i < cs.length), val ts[i] e' = some cs[i]
  | [], [], e, e', h => by cases h; exact ⟨⟨[], by simp⟩, rfl, fun i h => by simp at h⟩
  | t :: ts, c :: cs, e, e', h => by
    rw [unis] at h
    obtain ⟨e1, h1, h2⟩ := Option.bind_eq_some_iff.1 h
    obtain ⟨hv, m, rfl⟩ := uni_val h1
    obtain ⟨⟨m', rfl⟩, hl, hi⟩ := unis_val h2
    refine ⟨⟨m ++ m', by simp⟩, by simp [hl], fun i q1 q2 => ?_⟩
    match i with
    | 0 => exact val_ext hv m'
    | i + 1 => exact hi i (by simpa using q1) (by simpa using q2)
  | [], c :: cs, e, e', h => by cases h
  | t :: ts, [], e, e', h => by cases h
theorem unis_fix : ∀ {ts : List Tm} {cs : List K} {e : Env}, ts.length = cs.length → (∀ i (h1 : i < ts.length) (h2 : i < cs.length), val ts[i] e = some cs[i]) → unis ts cs e = some e
  | [], [], e, _, _ => rfl
  | t :: ts, c :: cs, e, hl, h => by
    have h0 : val t e = some c := h 0 (by simp) (by simp)
    rw [unis, uni_fix h0]
    exact unis_fix (by simpa using hl) fun i q1 q2 => h (i + 1) (by simpa using q1) (by simpa using q2)
  | [], c :: cs, e, hl, _ => by simp at hl
  | t :: ts, [], e, hl, _ => by simp at hl
theorem unis_only : ∀ {ts : List Tm} {cs ds : List K} {e e' : Env}, (∀ i (h1 : i < ts.length) (h2 : i < cs.length), val ts[i] e = some cs[i]) → ts.length = cs.length → unis ts ds e = some e' → cs = ds
  | [], [], [], e, e', _, _, _ => rfl
  | t :: ts, c :: cs, d :: ds, e, e', h, hl, hu => by
    rw [unis] at hu
    obtain ⟨e1, h1, h2⟩ := Option.bind_eq_some_iff.1 hu
    have h0 : val t e = some c := h 0 (by simp) (by simp)
    obtain ⟨rfl, rfl⟩ := uni_only h0 h1
    rw [unis_only (fun i q1 q2 => h (i + 1) (by simpa using q1) (by simpa using q2)) (by simpa using hl) h2]
  | [], [], d :: ds, e, e', _, _, hu => by cases hu
  | t :: ts, c :: cs, [], e, e', _, _, hu => by cases hu
  | [], c :: cs, _, e, e', _, hl, _ => by simp at hl
  | t :: ts, [], _, e, e', _, hl, _ => by simp at hl

/-- what a literal tells of a fact, all of it bound -/
structure Has (home : Tm) (l : Lt) (f : F) (e : Env) : Prop where
  pred : l.pred = f.pred
  len : l.args.length = f.ks.length
  at_ : val (place home l.at_) e = some (nm f.at_)
  by_ : if nul l.by_ = true then f.by_ = f.at_ else val l.by_ e = some (nm f.by_)
  args : ∀ i (h1 : i < l.args.length) (h2 : i < f.ks.length), val l.args[i] e = some f.ks[i]
theorem lit_has {home : Tm} {l : Lt} {f : F} {e e' : Env} (h : lit home l f e = some e') : (∃ m, e' = e ++ m) ∧ Has home l f e' := by
  unfold lit at h
  split at h
  · rename_i hp
    obtain ⟨e1, h1, h⟩ := Option.bind_eq_some_iff.1 h
    obtain ⟨e2, h2, h3⟩ := Option.bind_eq_some_iff.1 h
    obtain ⟨v1, m1, rfl⟩ := uni_val h1
    obtain ⟨⟨m3, rfl⟩, _, v3⟩ := unis_val h3
    unfold by1 at h2
    split at h2
    · rename_i hn
      split at h2
      · rename_i hb
        cases h2
        exact ⟨⟨m1 ++ m3, by simp⟩, hp.1, hp.2, val_ext v1 m3, by rw [if_pos hn]; exact hb, v3⟩
      · cases h2
    · rename_i hn
      obtain ⟨v2, m2, rfl⟩ := uni_val h2
      exact ⟨⟨m1 ++ m2 ++ m3, by simp⟩, hp.1, hp.2, by rw [List.append_assoc]; exact val_ext v1 (m2 ++ m3), by rw [if_neg hn]; exact val_ext v2 m3, v3⟩
  · cases h
theorem has_lit {home : Tm} {l : Lt} {f : F} {e : Env} (h : Has home l f e) : lit home l f e = some e := by
  unfold lit
  rw [if_pos ⟨h.pred, h.len⟩, uni_fix h.at_]
  simp only [Option.bind_some]
  have hb := h.by_
  unfold by1
  split
  · rename_i hn
    rw [if_pos hn] at hb
    rw [if_pos hb]
    simp only [Option.bind_some]
    exact unis_fix h.len h.args
  · rename_i hn
    rw [if_neg hn] at hb
    rw [uni_fix hb]
    simp only [Option.bind_some]
    exact unis_fix h.len h.args
/-- P11.5: it matches the fact again, unchanged -/
theorem lit_again {home : Tm} {l : Lt} {f : F} {e e' : Env} (h : lit home l f e = some e') : lit home l f e' = some e' := has_lit (lit_has h).2
/-- another fact does not match by it -/
theorem lit_only {home : Tm} {l : Lt} {f g : F} {e e' : Env} (h : Has home l f e) (hg : lit home l g e = some e') : f = g := by
  unfold lit at hg
  split at hg
  · rename_i hp
    obtain ⟨e1, h1, hg⟩ := Option.bind_eq_some_iff.1 hg
    obtain ⟨e2, h2, h3⟩ := Option.bind_eq_some_iff.1 hg
    obtain ⟨ha, rfl⟩ := uni_only h.at_ h1
    have ha := nm_inj ha
    have hb := h.by_
    have hby : f.by_ = g.by_ ∧ e2 = e1 := by
      unfold by1 at h2
      split at h2
      · rename_i hn
        rw [if_pos hn] at hb
        split at h2
        · rename_i hq; cases h2; exact ⟨by rw [hb, hq, ha], rfl⟩
        · cases h2
      · rename_i hn
        rw [if_neg hn] at hb
        obtain ⟨hq, rfl⟩ := uni_only hb h2
        exact ⟨nm_inj hq, rfl⟩
    obtain ⟨hby, rfl⟩ := hby
    have hk := unis_only h.args h.len h3
    have hpr := h.pred.symm.trans hp.1
    obtain ⟨f1, f2, f3, f4⟩ := f; obtain ⟨g1, g2, g3, g4⟩ := g
    simp only at ha hby hk hpr
    subst ha hby hk hpr
    rfl
  · cases hg
end Mt
end Go.Proofs.YtpdmmmdkpipmkaaGreatDoor

/-
  The mathematics of layer 11: a rule's instances follow. No program in this text.
-/
namespace Go.Proofs.YtpdmmmdkpipmkaaGreatDoor
namespace Mt

/-- bindings that say nothing else than others do -/
def Sub (e d : Env) : Prop := ∀ v c, get v e = some c → get v d = some c
theorem Sub.nil (d : Env) : Sub [] d := fun v c h => by simp [get] at h
theorem get_app {v u : Tx} {e : Env} {c k : K} (h : get v (e ++ [(u, k)]) = some c) : get v e = some c ∨ (v = u ∧ c = k) := by
  unfold get at *
  rw [List.find?_append] at h
  cases hx : e.find? (fun b => b.1 == v) with
  | some b => rw [hx] at h; exact .inl h
  | none =>
    rw [hx] at h
    by_cases hu : u = v
    · subst hu
      simp at h
      exact .inr ⟨rfl, h.symm⟩
    · have hb : (u == v) = false := by simpa using hu
      simp [hb] at h
theorem val_sub {t : Tm} {e d : Env} {c : K} (hs : Sub e d) (h : val t e = some c) : val t d = some c := by
  unfold val at *
  split at h
  · cases h
  · rename_i h1
    rw [if_neg h1]
    split at h
    · rename_i h2; rw [if_pos h2]; exact h
    · rename_i h2; rw [if_neg h2]; exact hs _ _ h
/-- a term that has a value: it is made that one, and the bindings say nothing else -/
theorem uni_sub {t : Tm} {e d : Env} {c : K} (hs : Sub e d) (h : val t d = some c) : ∃ e', uni t c e = some e' ∧ Sub e' d := by
  cases hv : val t e with
  | some v =>
    have := val_sub hs hv
    rw [h] at this
    cases this
    exact ⟨e, uni_fix hv, hs⟩
  | none =>
    have hn : nul t = false := by
      unfold val at h
      split at h
      · cases h
      · rename_i h1; simpa using h1
    have hg : get t.v d = some c := by
      unfold val at h hv
      rw [if_neg (by rw [hn]; decide)] at h hv
      split at h
      · rename_i h2; rw [if_pos h2] at hv; cases hv
      · exact h
    refine ⟨e ++ [(t.v, c)], ?_, fun v k hk => ?_⟩
    · unfold uni; rw [hv]; simp only; rw [if_neg (by rw [hn]; decide)]
    · rcases get_app hk with h1 | ⟨rfl, rfl⟩
      · exact hs _ _ h1
      · exact hg
theorem name_val {t : Tm} {e : Env} {a : Tx} (h : name t e = some a) : val t e = some (nm a) := by
  unfold name at h
  obtain ⟨c, h1, h2⟩ := Option.bind_eq_some_iff.1 h
  split at h2
  · rename_i hk
    cases h2
    rw [h1, ← (eqK_iff _ _).1 hk]
  · cases h2
theorem val_name {t : Tm} {e : Env} {a : Tx} (h : val t e = some (nm a)) : name t e = some a := by
  unfold name
  rw [h]
  simp only [Option.bind_some]
  exact if_pos (eqK_self _)
theorem vals_val {e : Env} : ∀ {ts : List Tm} {ks : List K}, vals e ts = some ks → ts.length = ks.length ∧ ∀ i (h1 : i < ts.length) (h2 : i < ks.length), val ts[i] e = some ks[i]
  | [], ks, h => by cases h; exact ⟨rfl, fun i h => by simp at h⟩
  | t :: ts, ks, h => by
    rw [vals] at h
    obtain ⟨c, h1, h2⟩ := Option.bind_eq_some_iff.1 h
    obtain ⟨cs, h3, rfl⟩ := Option.map_eq_some_iff.1 h2
    obtain ⟨hl, hi⟩ := vals_val h3
    refine ⟨by simp [hl], fun i q1 q2 => ?_⟩
    match i with
    | 0 => exact h1
    | i + 1 => exact hi i (by simpa using q1) (by simpa using q2)
theorem val_vals {e : Env} : ∀ {ts : List Tm} {ks : List K}, ts.length = ks.length → (∀ i (h1 : i < ts.length) (h2 : i < ks.length), val ts[i] e = some ks[i]) → vals e ts = some ks
  | [], [], _, _ => rfl
  | t :: ts, c :: cs, hl, h => by
    have h0 : val t e = some c := h 0 (by simp) (by simp)
    rw [vals, h0]
    simp only [Option.bind_some]
    rw [val_vals (by simpa using hl) fun i q1 q2 => h (i + 1) (by simpa using q1) (by simpa using q2)]
    rfl
  | [], c :: cs, hl, _ => by simp at hl
  | t :: ts, [], hl, _ => by simp at hl
theorem unis_sub {d : Env} : ∀ {ts : List Tm} {cs : List K} {e : Env}, Sub e d → ts.length = cs.length → (∀ i (h1 : i < ts.length) (h2 : i < cs.length), val ts[i] d = some cs[i]) → ∃ e', unis ts cs e = some e' ∧ Sub e' d
  | [], [], e, hs, _, _ => ⟨e, rfl, hs⟩
  | t :: ts, c :: cs, e, hs, hl, h => by
    have h0 : val t d = some c := h 0 (by simp) (by simp)
    obtain ⟨e1, h1, hs1⟩ := uni_sub hs h0
    obtain ⟨e2, h2, hs2⟩ := unis_sub hs1 (by simpa using hl) fun i q1 q2 => h (i + 1) (by simpa using q1) (by simpa using q2)
    exact ⟨e2, by rw [unis, h1]; exact h2, hs2⟩
  | [], c :: cs, e, _, hl, _ => by simp at hl
  | t :: ts, [], e, _, hl, _ => by simp at hl
theorem fact_parts {a b : Tm} {p : Tx} {ts : List Tm} {e : Env} {f : F} (h : fact a b p ts e = some f) : val a e = some (nm f.at_) ∧ val b e = some (nm f.by_) ∧ f.pred = p ∧ vals e ts = some f.ks := by
  unfold fact at h
  obtain ⟨x, h1, h⟩ := Option.bind_eq_some_iff.1 h
  obtain ⟨y, h2, h⟩ := Option.bind_eq_some_iff.1 h
  obtain ⟨ks, h3, rfl⟩ := Option.map_eq_some_iff.1 h
  exact ⟨name_val h1, name_val h2, rfl, h3⟩
theorem parts_fact {a b : Tm} {p : Tx} {ts : List Tm} {e : Env} {f : F} (h1 : val a e = some (nm f.at_)) (h2 : val b e = some (nm f.by_)) (h3 : f.pred = p) (h4 : vals e ts = some f.ks) : fact a b p ts e = some f := by
  unfold fact
  rw [val_name h1, val_name h2, h4]
  subst h3
  rfl
/-- a literal's own fact matches it -/
theorem lit_sub {home : Tm} {l : Lt} {f : F} {e d : Env} (hs : Sub e d) (h : bodyF home l d = some f) : ∃ e', lit home l f e = some e' ∧ Sub e' d := by
  obtain ⟨h1, h2, h3, h4⟩ := fact_parts h
  obtain ⟨hl, hi⟩ := vals_val h4
  obtain ⟨e1, u1, s1⟩ := uni_sub hs h1
  have hb : ∃ e2, by1 l f e1 = some e2 ∧ Sub e2 d := by
    unfold by1
    by_cases hn : nul l.by_ = true
    · rw [if_pos hn]
      unfold place at h2
      rw [if_pos hn] at h2
      rw [show (if nul l.at_ = true then home else l.at_) = place home l.at_ from rfl, h1] at h2
      have := nm_inj (Option.some.inj h2)
      exact ⟨e1, by rw [if_pos this.symm], s1⟩
    · rw [if_neg hn]
      unfold place at h2
      rw [if_neg hn] at h2
      exact uni_sub s1 h2
  obtain ⟨e2, u2, s2⟩ := hb
  obtain ⟨e3, u3, s3⟩ := unis_sub s2 hl hi
  refine ⟨e3, ?_, s3⟩
  unfold lit
  rw [if_pos ⟨h3.symm, hl⟩, u1]
  simp only [Option.bind_some]
  rw [u2]
  simp only [Option.bind_some]
  exact u3
theorem body_len {home : Tm} {d : Env} : ∀ {ls : List Lt} {fs : List F}, body home d ls = some fs → ls.length = fs.length
  | [], fs, h => by cases h; rfl
  | l :: ls, fs, h => by
    rw [body] at h
    obtain ⟨f, h1, h2⟩ := Option.bind_eq_some_iff.1 h
    obtain ⟨gs, h3, rfl⟩ := Option.map_eq_some_iff.1 h2
    simp [body_len h3]
/-- a body's own facts match its literals; all that is in it is bound -/
theorem lits_sub {home : Tm} {d : Env} : ∀ {ls : List Lt} {fs : List F} {e : Env}, Sub e d → body home d ls = some fs → ∃ e', lits home ls fs e = some e' ∧ Sub e' d ∧ (∃ m, e' = e ++ m) ∧ ∀ l ∈ ls, ∃ f, Has home l f e'
  | [], fs, e, hs, h => by cases h; exact ⟨e, rfl, hs, ⟨[], by simp⟩, fun l hl => by simp at hl⟩
  | l :: ls, fs, e, hs, h => by
    rw [body] at h
    obtain ⟨f, h1, h2⟩ := Option.bind_eq_some_iff.1 h
    obtain ⟨gs, h3, rfl⟩ := Option.map_eq_some_iff.1 h2
    obtain ⟨e1, u1, s1⟩ := lit_sub hs h1
    obtain ⟨⟨m1, rfl⟩, hh⟩ := lit_has u1
    obtain ⟨e2, u2, s2, ⟨m2, rfl⟩, hall⟩ := lits_sub s1 h3
    refine ⟨_, by rw [lits, u1]; exact u2, s2, ⟨m1 ++ m2, by simp⟩, fun y hy => ?_⟩
    rcases List.mem_cons.1 hy with rfl | hy
    · refine ⟨f, hh.pred, hh.len, val_ext hh.at_ m2, ?_, fun i q1 q2 => val_ext (hh.args i q1 q2) m2⟩
      have hb := hh.by_
      split
      · rename_i hn; rw [if_pos hn] at hb; exact hb
      · rename_i hn; rw [if_neg hn] at hb; exact val_ext hb m2
    · exact hall y hy
/-- a variable is one of a rule's: of its home, or of a literal's -/
def Of (r : Ru) (v : Tx) : Prop := v = r.home.v ∨ ∃ y ∈ r.body, v = y.by_.v ∨ (∃ t ∈ y.args, v = t.v) ∨ v = y.at_.v
theorem val_get {t : Tm} {e : Env} {c : K} (hv : t.v ≠ []) (h : val t e = some c) : get t.v e = some c := by
  unfold val at h
  split at h
  · cases h
  · exact h
theorem nul_v {t : Tm} (h : t.v ≠ []) : nul t = false := by
  unfold nul
  cases ht : t.v with
  | nil => exact absurd ht h
  | cons a b => rfl
/-- THE STAGE'S THEOREM: where a rule's head and body have values, the head follows from the body -/
theorem instances {r : Ru} {d : Env} {h : F} {b : List F} (hh : head r d = some h) (hb : body r.home d r.body = some b) (ho : ∀ t, (t ∈ r.args ∨ t = r.to_) → t.v ≠ [] → Of r t.v) : Fol r h b := by
  obtain ⟨h1, h2, h3, h4⟩ := fact_parts hh
  obtain ⟨e1, u1, s1⟩ := uni_sub (Sub.nil d) h2
  have v1 := (uni_val u1).1
  obtain ⟨e2, u2, s2, ⟨m, rfl⟩, hall⟩ := lits_sub s1 hb
  refine ⟨e1, _, u1, u2, ?_⟩
  have hbound : ∀ v, v ≠ [] → Of r v → ∃ c, get v (e1 ++ m) = some c := fun v hv hof => by
    rcases hof with rfl | ⟨y, hy, hof⟩
    · exact ⟨_, get_ext (val_get hv v1) m⟩
    · obtain ⟨f, hf⟩ := hall y hy
      rcases hof with rfl | ⟨t, ht, rfl⟩ | rfl
      · have := hf.by_
        rw [if_neg (by rw [nul_v hv]; decide)] at this
        exact ⟨_, val_get hv this⟩
      · obtain ⟨i, hi, rfl⟩ := List.getElem_of_mem ht
        have hi2 : i < f.ks.length := by have := hf.len; omega
        exact ⟨_, val_get hv (hf.args i hi hi2)⟩
      · have := hf.at_
        unfold place at this
        rw [if_neg (by rw [nul_v hv]; decide)] at this
        exact ⟨_, val_get hv this⟩
  have hval : ∀ t c, (t.v ≠ [] → Of r t.v) → val t d = some c → val t (e1 ++ m) = some c := fun t c hof hc => by
    by_cases hv : t.v = []
    · unfold val at hc ⊢
      split at hc
      · cases hc
      · rename_i hn
        rw [if_neg hn, if_pos hv] at *
        exact hc
    · obtain ⟨k, hk⟩ := hbound _ hv (hof hv)
      have h5 := s2 _ _ hk
      rw [val_get hv hc] at h5
      cases h5
      unfold val
      rw [if_neg (by rw [nul_v hv]; decide), if_neg hv]
      exact hk
  obtain ⟨hl, hi⟩ := vals_val h4
  refine parts_fact ?_ (val_ext v1 m) h3 (val_vals hl fun i q1 q2 => hval _ _ (ho _ (.inl (List.getElem_mem q1))) (hi i q1 q2))
  unfold place at h1 ⊢
  split
  · rename_i hn
    rw [if_pos hn] at h1
    exact hval _ _ (fun _ => .inl rfl) h1
  · rename_i hn
    rw [if_neg hn] at h1
    exact hval _ _ (ho _ (.inr rfl)) h1
/-- with another predicate in place of one it does not follow -/
theorem lits_pred {home : Tm} : ∀ {ls : List Lt} {fs : List F} {e e' : Env}, lits home ls fs e = some e' → ls.length = fs.length ∧ ∀ i (h1 : i < ls.length) (h2 : i < fs.length), ls[i].pred = fs[i].pred
  | [], [], e, e', _ => ⟨rfl, fun i h => by simp at h⟩
  | l :: ls, f :: fs, e, e', h => by
    rw [lits] at h
    obtain ⟨e1, h1, h2⟩ := Option.bind_eq_some_iff.1 h
    obtain ⟨hl, hi⟩ := lits_pred h2
    refine ⟨by simp [hl], fun i q1 q2 => ?_⟩
    match i with
    | 0 => exact (lit_has h1).2.pred
    | i + 1 => exact hi i (by simpa using q1) (by simpa using q2)
  | [], f :: fs, e, e', h => by cases h
  | l :: ls, [], e, e', h => by cases h
theorem body_pred {home : Tm} {d : Env} : ∀ {ls : List Lt} {fs : List F}, body home d ls = some fs → ∀ i (h1 : i < ls.length) (h2 : i < fs.length), ls[i].pred = fs[i].pred
  | [], fs, h => fun i h1 => by simp at h1
  | l :: ls, fs, h => by
    rw [body] at h
    obtain ⟨f, h1, h2⟩ := Option.bind_eq_some_iff.1 h
    obtain ⟨gs, h3, rfl⟩ := Option.map_eq_some_iff.1 h2
    intro i q1 q2
    match i with
    | 0 => exact (fact_parts h1).2.2.1.symm
    | i + 1 => exact body_pred h3 i (by simpa using q1) (by simpa using q2)
theorem not_fol_pred {r : Ru} {d : Env} {h : F} {b b' : List F} {k : Nat} (hb : body r.home d r.body = some b) (hk : k < b.length) (hl : b'.length = b.length) (hp : (b'[k]'(by omega)).pred ≠ b[k].pred) : ¬ Fol r h b' := fun ⟨_, _, _, h2, _⟩ => by
  obtain ⟨h3, h4⟩ := lits_pred h2
  have h5 := body_len hb
  have h6 := h4 k (by omega) (by omega)
  have h7 := body_pred hb k (by omega) hk
  exact hp (h6.symm.trans h7)
theorem not_fol_len {r : Ru} {h : F} {b' : List F} (hl : b'.length ≠ r.body.length) : ¬ Fol r h b' := fun ⟨_, _, _, h2, _⟩ => hl (lits_pred h2).1.symm
end Mt
end Go.Proofs.YtpdmmmdkpipmkaaGreatDoor
