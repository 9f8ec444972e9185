/-
  The mathematics of layer 4: constants, facts, their order (told by numbers), lists in order each once. No memory, no program.
-/
import Derived.Test.YtomiefhfkdfgbaaKt
import Derived.Lib.Bytealg
import Derived.Lib.Small
import Derived.Laws.Strings
namespace Go.Proofs.Ytomiefhfkdfgbaa
open Go

/-- an order told by numbers; two that are not one may be as good as each other -/
structure Pre {α : Type} (c : α → α → Int) : Prop where
  anti : ∀ x y, c x y = - c y x
  trans : ∀ x y z, c x y ≤ 0 → c y z ≤ 0 → c x z ≤ 0
  low : ∀ x y, -1 ≤ c x y
  high : ∀ x y, c x y ≤ 1

def lex2 (a b : Int) : Int := if a = 0 then b else a
theorem lex2_zero {a b : Int} : lex2 a b = 0 ↔ a = 0 ∧ b = 0 := by
  unfold lex2; split <;> omega

theorem Pre.refl {α : Type} {c : α → α → Int} (h : Pre c) (x : α) : c x x = 0 := by have := h.anti x x; omega
theorem Pre.lt_of_lt_of_le {α : Type} {c : α → α → Int} (h : Pre c) {x y z : α} (h1 : c x y < 0) (h2 : c y z ≤ 0) : c x z < 0 := by
  have := h.trans x y z (by omega) h2
  rcases Int.lt_or_eq_of_le this with h3 | h3
  · exact h3
  · have := h.anti x z
    have := h.trans y z x h2 (by omega)
    have := h.anti x y
    omega
theorem Pre.lt_of_le_of_lt {α : Type} {c : α → α → Int} (h : Pre c) {x y z : α} (h1 : c x y ≤ 0) (h2 : c y z < 0) : c x z < 0 := by
  have := h.trans x y z h1 (by omega)
  rcases Int.lt_or_eq_of_le this with h3 | h3
  · exact h3
  · have := h.anti x z
    have := h.trans z x y (by omega) h1
    have := h.anti y z
    omega
theorem Pre.on {α β : Type} {c : α → α → Int} (h : Pre c) (p : β → α) : Pre fun x y => c (p x) (p y) :=
  ⟨fun _ _ => h.anti _ _, fun _ _ _ => h.trans _ _ _, fun _ _ => h.low _ _, fun _ _ => h.high _ _⟩
theorem Pre.lex {α : Type} {c d : α → α → Int} (h : Pre c) (k : Pre d) : Pre fun x y => lex2 (c x y) (d x y) where
  anti x y := by
    have := h.anti x y; have := k.anti x y
    unfold lex2; split <;> split <;> omega
  low x y := by
    have := h.low x y; have := k.low x y
    unfold lex2; split <;> omega
  high x y := by
    have := h.high x y; have := k.high x y
    unfold lex2; split <;> omega
  trans x y z h1 h2 := by
    have a1 := h.anti x y; have a2 := h.anti y z; have a3 := h.anti x z
    have t1 := h.trans x y z; have t2 := h.trans z x y; have t3 := h.trans y z x; have t4 := k.trans x y z
    revert h1 h2
    simp only [lex2]
    intro h1 h2
    split at h1 <;> split at h2 <;> split <;> omega

def cL {α : Type} (c : α → α → Int) : List α → List α → Int
  | [], [] => 0
  | [], _ :: _ => -1
  | _ :: _, [] => 1
  | x :: xs, y :: ys => lex2 (c x y) (cL c xs ys)

theorem Pre.list {α : Type} {c : α → α → Int} (h : Pre c) : Pre (cL c) where
  anti x y := by
    induction x generalizing y with
    | nil => cases y <;> simp [cL]
    | cons a x ih =>
      cases y with
      | nil => simp [cL]
      | cons b y =>
        have := h.anti a b; have := ih y
        simp only [cL, lex2]; split <;> split <;> omega
  low x y := by
    induction x generalizing y with
    | nil => cases y <;> simp [cL]
    | cons a x ih =>
      cases y with
      | nil => simp [cL]
      | cons b y =>
        have := h.low a b; have := ih y
        simp only [cL, lex2]; split <;> omega
  high x y := by
    induction x generalizing y with
    | nil => cases y <;> simp [cL]
    | cons a x ih =>
      cases y with
      | nil => simp [cL]
      | cons b y =>
        have := h.high a b; have := ih y
        simp only [cL, lex2]; split <;> omega
  trans x y z := by
    induction x generalizing y z with
    | nil => cases y <;> cases z <;> simp [cL]
    | cons a x ih =>
      cases y with
      | nil => cases z <;> simp [cL]
      | cons b y =>
        cases z with
        | nil => simp [cL]
        | cons d z =>
          have t0 := ih y z
          have a1 := h.anti a b; have a2 := h.anti b d; have a3 := h.anti a d
          have t1 := h.trans a b d; have t2 := h.trans d a b; have t3 := h.trans b d a
          simp only [cL, lex2]
          intro h1 h2
          split at h1 <;> split at h2 <;> split <;> omega
theorem cL_zero {α : Type} {c : α → α → Int} (h : ∀ x y, c x y = 0 ↔ x = y) (x y : List α) : cL c x y = 0 ↔ x = y := by
  induction x generalizing y with
  | nil => cases y <;> simp [cL]
  | cons a x ih =>
    cases y with
    | nil => simp [cL]
    | cons b y => simp only [cL, lex2_zero, h, ih, List.cons.injEq]

/-- what a walk along both lists says -/
theorem cL_at {α : Type} (c : α → α → Int) (x y : List α) : ∀ k, k ≤ x.length → k ≤ y.length → (∀ j (hx : j < x.length) (hy : j < y.length), j < k → c x[j] y[j] = 0) → cL c x y = cL c (x.drop k) (y.drop k) := by
  intro k
  induction k generalizing x y with
  | zero => intro _ _ _; simp
  | succ k ih =>
    intro hx hy h
    cases x with
    | nil => simp at hx
    | cons a x =>
      cases y with
      | nil => simp at hy
      | cons b y =>
        have h0 := h 0 (by simp) (by simp) (by omega)
        simp only [List.getElem_cons_zero] at h0
        simp only [cL, lex2, h0, if_true, List.drop_succ_cons]
        exact ih x y (by simpa using hx) (by simpa using hy) fun j hjx hjy hj => by
          have := h (j + 1) (by simp; omega) (by simp; omega) (by omega)
          simpa using this
theorem cL_hit {α : Type} (c : α → α → Int) (x y : List α) (k : Nat) (hx : k < x.length) (hy : k < y.length) (h : ∀ j (hx : j < x.length) (hy : j < y.length), j < k → c x[j] y[j] = 0) (hn : c x[k] y[k] ≠ 0) : cL c x y = c x[k] y[k] := by
  rw [cL_at c x y k (by omega) (by omega) h, List.drop_eq_getElem_cons hx, List.drop_eq_getElem_cons hy]
  simp only [cL, lex2, if_neg hn]
theorem cL_long {α : Type} (c : α → α → Int) (x y : List α) (hl : y.length < x.length) (h : ∀ j (hx : j < x.length) (hy : j < y.length), c x[j] y[j] = 0) : cL c x y = 1 := by
  rw [cL_at c x y y.length (by omega) (by omega) fun j a b _ => h j a b, List.drop_eq_getElem_cons hl, List.drop_length]
  simp [cL]
theorem cL_short {α : Type} (c : α → α → Int) (x y : List α) (hl : x.length < y.length) (h : ∀ j (hx : j < x.length) (hy : j < y.length), c x[j] y[j] = 0) : cL c x y = -1 := by
  rw [cL_at c x y x.length (by omega) (by omega) fun j a b _ => h j a b, List.drop_eq_getElem_cons hl, List.drop_length]
  simp [cL]
theorem cL_even {α : Type} (c : α → α → Int) (x y : List α) (hl : x.length = y.length) (h : ∀ j (hx : j < x.length) (hy : j < y.length), c x[j] y[j] = 0) : cL c x y = 0 := by
  rw [cL_at c x y x.length (by omega) (by omega) fun j a b _ => h j a b, List.drop_length, hl, List.drop_length]
  simp [cL]

/-! texts -/
def cB (a b : UInt8) : Int := if a < b then -1 else if b < a then 1 else 0
theorem pre_cB : Pre cB where
  anti x y := by
    simp only [cB, UInt8.lt_iff_toNat_lt]
    split <;> split <;> omega
  trans x y z h1 h2 := by
    simp only [cB, UInt8.lt_iff_toNat_lt] at *
    split at h1 <;> split at h2 <;> split <;> omega
  low x y := by simp only [cB]; split <;> (try split) <;> omega
  high x y := by simp only [cB]; split <;> (try split) <;> omega
theorem cB_zero (x y : UInt8) : cB x y = 0 ↔ x = y := by
  simp only [cB, UInt8.lt_iff_toNat_lt, ← UInt8.toNat_inj]
  split <;> (try split) <;> omega

theorem compareBytes_cL : ∀ a b : List UInt8, Lib.compareBytes a b = cL cB a b
  | [], [] => rfl
  | [], _ :: _ => rfl
  | _ :: _, [] => rfl
  | a :: as, b :: bs => by
    have := compareBytes_cL as bs
    simp only [Lib.compareBytes, cL, lex2, cB, UInt8.lt_iff_toNat_lt, this]
    split <;> (try split) <;> (try split) <;> omega

abbrev cT (a b : List UInt8) : Int := Lib.compareBytes a b
theorem pre_cT : Pre cT := by
  have : cT = cL cB := by funext a b; exact compareBytes_cL a b
  rw [this]; exact pre_cB.list
theorem cT_zero (a b : List UInt8) : cT a b = 0 ↔ a = b := by
  rw [show cT a b = cL cB a b from compareBytes_cL a b]; exact cL_zero cB_zero a b
theorem bytesLess_cT : ∀ a b : List UInt8, Op.bytesLess a b = decide (cT a b < 0)
  | [], [] => rfl
  | [], _ :: _ => rfl
  | _ :: _, [] => rfl
  | a :: as, b :: bs => by
    have := bytesLess_cT as bs
    simp only [Op.bytesLess, cT, Lib.compareBytes] at *
    rw [this]
    by_cases h1 : a < b
    · simp [h1]
    · by_cases h2 : b < a
      · have : (a == b) = false := by
          simp only [beq_eq_false_iff_ne, ne_eq, ← UInt8.toNat_inj]; rw [UInt8.lt_iff_toNat_lt] at h2; omega
        simp [h1, h2, this]
      · have : (a == b) = true := by
          simp only [beq_iff_eq, ← UInt8.toNat_inj]; rw [UInt8.lt_iff_toNat_lt] at h1 h2; omega
        simp [h1, h2, this]

/-! constants and facts -/

def cNum (x y : Bool) : Int := if x = y then 0 else if x then -1 else 1
theorem pre_cNum : Pre cNum where
  anti x y := by cases x <;> cases y <;> decide
  trans x y z := by cases x <;> cases y <;> cases z <;> decide
  low x y := by cases x <;> cases y <;> decide
  high x y := by cases x <;> cases y <;> decide
theorem pre_cInt : Pre Lib.compareInt where
  anti x y := by unfold Lib.compareInt; repeat' split
                 all_goals omega
  trans x y z := by unfold Lib.compareInt; repeat' split
                    all_goals omega
  low x y := by unfold Lib.compareInt; split <;> (try split) <;> omega
  high x y := by unfold Lib.compareInt; split <;> (try split) <;> omega

def cK (x y : K) : Int := lex2 (cNum x.num y.num) (lex2 (Lib.compareInt x.n y.n) (cT x.s y.s))
theorem pre_cK : Pre cK := (pre_cNum.on K.num).lex ((pre_cInt.on K.n).lex (pre_cT.on K.s))
theorem cK_zero (x y : K) : cK x y = 0 ↔ x = y := by
  obtain ⟨a, b, c⟩ := x; obtain ⟨a', b', c'⟩ := y
  simp only [cK, lex2_zero, cT_zero, K.mk.injEq]
  have h1 : cNum a a' = 0 ↔ a = a' := by cases a <;> cases a' <;> decide
  have h2 : Lib.compareInt b b' = 0 ↔ b = b' := by unfold Lib.compareInt; split <;> (try split) <;> omega
  rw [h1, h2]

def cF (x y : F) : Int := lex2 (cT x.at_ y.at_) (lex2 (cT x.by_ y.by_) (lex2 (cT x.pred y.pred) (cL cK x.ks y.ks)))
theorem pre_cF : Pre cF := (pre_cT.on F.at_).lex ((pre_cT.on F.by_).lex ((pre_cT.on F.pred).lex (pre_cK.list.on F.ks)))
theorem cF_zero (x y : F) : cF x y = 0 ↔ x = y := by
  obtain ⟨a, b, c, d⟩ := x; obtain ⟨a', b', c', d'⟩ := y
  simp only [cF, lex2_zero, cT_zero, cL_zero cK_zero, F.mk.injEq]
theorem cF_self (x : F) : cF x x = 0 := pre_cF.refl x

/-! lists in order, each once -/
abbrev SS (l : List F) : Prop := l.Pairwise fun x y => cF x y < 0

theorem SS.uniq : ∀ {l m : List F}, SS l → SS m → (∀ x, x ∈ l ↔ x ∈ m) → l = m
  | [], [], _, _, _ => rfl
  | [], b :: m, _, _, h => by have := (h b).2 (by simp); simp at this
  | a :: l, [], _, _, h => by have := (h a).1 (by simp); simp at this
  | a :: l, b :: m, h1, h2, h => by
    obtain ⟨ha, hl⟩ := List.pairwise_cons.1 h1
    obtain ⟨hb, hm⟩ := List.pairwise_cons.1 h2
    have hab : a = b := by
      have h3 := (h a).1 (by simp)
      have h4 := (h b).2 (by simp)
      rcases List.mem_cons.1 h3 with h3 | h3
      · exact h3
      · rcases List.mem_cons.1 h4 with h4 | h4
        · exact h4.symm
        · have := ha b h4; have := hb a h3; have := pre_cF.anti a b; omega
    subst hab
    congr 1
    refine SS.uniq hl hm fun x => ⟨fun hx => ?_, fun hx => ?_⟩
    · rcases List.mem_cons.1 ((h x).1 (List.mem_cons_of_mem _ hx)) with rfl | h5
      · have := ha x hx; have := cF_self x; omega
      · exact h5
    · rcases List.mem_cons.1 ((h x).2 (List.mem_cons_of_mem _ hx)) with rfl | h5
      · have := hb x hx; have := cF_self x; omega
      · exact h5

/-- a list in order with a fact more -/
def ins : List F → F → List F
  | [], f => [f]
  | y :: ys, f => if cF y f < 0 then y :: ins ys f else if cF y f = 0 then y :: ys else f :: y :: ys
theorem mem_ins (l : List F) (f x : F) : x ∈ ins l f ↔ x ∈ l ∨ x = f := by
  induction l with
  | nil => simp [ins]
  | cons y ys ih =>
    simp only [ins]
    split
    · simp only [List.mem_cons, ih, or_assoc]
    · split
      · rename_i h; rw [cF_zero] at h; subst h
        simp only [List.mem_cons]
        constructor
        · intro h; exact .inl h
        · rintro (h | h)
          · exact h
          · exact .inl h
      · simp only [List.mem_cons]
        constructor
        · rintro (h | h | h) <;> simp [h]
        · rintro ((h | h) | h) <;> simp [h]
theorem SS_ins {l : List F} (h : SS l) (f : F) : SS (ins l f) := by
  induction l with
  | nil => simp [ins]
  | cons y ys ih =>
    obtain ⟨hy, hys⟩ := List.pairwise_cons.1 h
    simp only [ins]
    split
    · rename_i hlt
      refine List.pairwise_cons.2 ⟨fun x hx => ?_, ih hys⟩
      rcases (mem_ins ys f x).1 hx with h1 | rfl
      · exact hy x h1
      · exact hlt
    · split
      · exact h
      · rename_i h1 h2
        have hf : cF f y < 0 := by have := pre_cF.anti f y; omega
        refine List.pairwise_cons.2 ⟨fun x hx => ?_, h⟩
        rcases List.mem_cons.1 hx with rfl | hx
        · exact hf
        · exact pre_cF.lt_of_lt_of_le hf (Int.le_of_lt (hy x hx))
theorem ins_at (f : F) : ∀ (l : List F) (k : Nat), k ≤ l.length → (∀ j (hj : j < l.length), j < k → cF l[j] f < 0) → (∀ hk : k < l.length, ¬ cF l[k] f < 0) →
    ins l f = if h : k < l.length then (if cF l[k] f = 0 then l else l.take k ++ f :: l.drop k) else l.take k ++ f :: l.drop k
  | [], k, hk, _, _ => by simp [ins]
  | y :: ys, 0, _, _, h => by
    have := h (by simp)
    simp only [List.getElem_cons_zero] at this
    simp [ins, this]
  | y :: ys, k + 1, hk, h1, h2 => by
    have h0 := h1 0 (by simp) (by omega)
    simp only [List.getElem_cons_zero] at h0
    have := ins_at f ys k (by simpa using hk) (fun j hj hjk => h1 (j + 1) (by simpa using hj) (by omega)) (fun hk' => h2 (by simpa using hk'))
    simp only [ins, if_pos h0, this, List.length_cons, Nat.add_lt_add_iff_right, List.getElem_cons_succ]
    split
    · split <;> simp
    · simp

def sortF (l : List F) : List F := l.foldl ins []
theorem foldl_ins (l : List F) : ∀ m : List F, SS m → SS (l.foldl ins m) ∧ ∀ x, x ∈ l.foldl ins m ↔ x ∈ m ∨ x ∈ l := by
  induction l with
  | nil => intro m hm; simp [hm]
  | cons a l ih =>
    intro m hm
    obtain ⟨h1, h2⟩ := ih (ins m a) (SS_ins hm a)
    refine ⟨h1, fun x => ?_⟩
    rw [List.foldl_cons, h2, mem_ins, List.mem_cons, or_assoc]
theorem sortF_SS (l : List F) : SS (sortF l) := (foldl_ins l [] List.Pairwise.nil).1
theorem mem_sortF (l : List F) (x : F) : x ∈ sortF l ↔ x ∈ l := by
  have := (foldl_ins l [] List.Pairwise.nil).2 x
  simpa [sortF] using this
theorem sortF_of {l m : List F} (h : SS m) (hm : ∀ x, x ∈ m ↔ x ∈ l) : m = sortF l := h.uniq (sortF_SS l) fun x => by rw [hm, mem_sortF]
theorem sortF_eq_iff (l m : List F) : sortF l = sortF m ↔ ∀ x, x ∈ l ↔ x ∈ m := by
  constructor
  · intro h x
    rw [← mem_sortF l, h, mem_sortF]
  · intro h
    exact (sortF_SS l).uniq (sortF_SS m) fun x => by rw [mem_sortF, mem_sortF, h]

/-- what is in one list and not in another one -/
def hasF (b : List F) (x : F) : Bool := b.any fun y => decide (cF x y = 0)
theorem hasF_iff (b : List F) (x : F) : hasF b x = true ↔ x ∈ b := by
  simp only [hasF, List.any_eq_true, decide_eq_true_eq, cF_zero]
  constructor
  · rintro ⟨y, hy, rfl⟩; exact hy
  · exact fun h => ⟨x, h, rfl⟩
def minusF (a b : List F) : List F := (sortF a).filter fun x => !hasF b x
theorem mem_minusF (a b : List F) (x : F) : x ∈ minusF a b ↔ x ∈ a ∧ x ∉ b := by simp [minusF, mem_sortF, ← hasF_iff b x]
theorem minusF_SS (a b : List F) : SS (minusF a b) := (sortF_SS a).filter _

/-! neighbours that are the same: what is kept of the first k -/
def kept {α : Type} (c : α → α → Int) (l : List α) : Nat → List α
  | 0 => []
  | k + 1 => match l[k]? with
    | none => kept c l k
    | some x => match k with
      | 0 => [x]
      | j + 1 => match l[j]? with
        | none => kept c l k
        | some y => if c x y = 0 then kept c l k else kept c l k ++ [x]
theorem kept_one {α : Type} (c : α → α → Int) (l : List α) (h : 0 < l.length) : kept c l 1 = [l[0]] := by simp [kept, h]
theorem kept_dup {α : Type} (c : α → α → Int) (l : List α) (k : Nat) (h0 : 0 < k) (h : k < l.length) (he : c l[k] l[k - 1] = 0) : kept c l (k + 1) = kept c l k := by
  obtain ⟨j, rfl⟩ : ∃ j, k = j + 1 := ⟨k - 1, by omega⟩
  rw [kept]
  simp only [List.getElem?_eq_getElem h, List.getElem?_eq_getElem (show j < l.length by omega)]
  rw [if_pos (by simpa using he)]
theorem kept_new {α : Type} (c : α → α → Int) (l : List α) (k : Nat) (h0 : 0 < k) (h : k < l.length) (he : c l[k] l[k - 1] ≠ 0) : kept c l (k + 1) = kept c l k ++ [l[k]] := by
  obtain ⟨j, rfl⟩ : ∃ j, k = j + 1 := ⟨k - 1, by omega⟩
  rw [kept]
  simp only [List.getElem?_eq_getElem h, List.getElem?_eq_getElem (show j < l.length by omega)]
  rw [if_neg (by simpa using he)]
theorem kept_len {α : Type} (c : α → α → Int) (l : List α) : ∀ k, k ≤ l.length → (kept c l k).length ≤ k
  | 0, _ => by simp [kept]
  | 1, h => by rw [kept_one c l (by omega)]; simp
  | k + 2, h => by
    have := kept_len c l (k + 1) (by omega)
    by_cases he : c l[k + 1] (l[k + 1 - 1]'(by omega)) = 0
    · rw [kept_dup c l (k + 1) (by omega) (by omega) he]; omega
    · rw [kept_new c l (k + 1) (by omega) (by omega) he]; simp; omega
theorem kept_all {α : Type} (c : α → α → Int) (l : List α) : ∀ k, k ≤ l.length → (∀ j (h : j < l.length), 0 < j → j < k → c l[j] (l[j - 1]'(by omega)) ≠ 0) → kept c l k = l.take k
  | 0, _, _ => by simp [kept]
  | 1, h, _ => by rw [kept_one c l (by omega), List.take_one, List.head?_eq_getElem?, List.getElem?_eq_getElem (by omega)]; rfl
  | k + 2, h, hn => by
    rw [kept_new c l (k + 1) (by omega) (by omega) (hn (k + 1) (by omega) (by omega) (by omega)), kept_all c l (k + 1) (by omega) fun j hj h0 hk => hn j hj h0 (by omega)]
    exact (List.take_succ_eq_append_getElem (by omega)).symm

theorem kept_mem {α : Type} (c : α → α → Int) (l : List α) : ∀ k, k ≤ l.length → ∀ x ∈ kept c l k, x ∈ l.take k
  | 0, _ => by simp [kept]
  | 1, h => by
    rw [kept_one c l (by omega)]; intro x hx
    rw [List.mem_singleton] at hx; subst hx
    exact List.mem_take_iff_getElem.2 ⟨0, by omega, rfl⟩
  | k + 2, h => by
    have ih := kept_mem c l (k + 1) (by omega)
    have up : ∀ x ∈ l.take (k + 1), x ∈ l.take (k + 2) := fun x hx => (List.take_prefix_take_left (Nat.le_succ (k + 1))).subset hx
    by_cases he : c l[k + 1] (l[k + 1 - 1]'(by omega)) = 0
    · rw [kept_dup c l (k + 1) (by omega) (by omega) he]; exact fun x hx => up x (ih x hx)
    · rw [kept_new c l (k + 1) (by omega) (by omega) he]
      intro x hx
      rcases List.mem_append.1 hx with hx | hx
      · exact up x (ih x hx)
      · rw [List.mem_singleton] at hx; subst hx
        exact List.mem_take_iff_getElem.2 ⟨k + 1, by omega, rfl⟩

/-- of a list in order: what is kept is in order, each once; nothing is lost -/
theorem kept_sorted {α : Type} (c : α → α → Int) (hc : Pre c) (l : List α) (hs : ∀ i j (hi : i < l.length) (hj : j < l.length), i < j → c l[i] l[j] ≤ 0) : ∀ k, k ≤ l.length →
    (kept c l k).Pairwise (fun x y => c x y < 0) ∧ ∀ j (hj : j < l.length), j < k → ∃ x ∈ kept c l k, c x l[j] = 0
  | 0, _ => by simp [kept]
  | 1, h => by
    rw [kept_one c l (by omega)]
    refine ⟨by simp, fun j hj hk => ⟨l[0], by simp, ?_⟩⟩
    have : j = 0 := by omega
    subst this; exact hc.refl _
  | k + 2, h => by
    obtain ⟨h1, h2⟩ := kept_sorted c hc l hs (k + 1) (by omega)
    by_cases he : c l[k + 1] (l[k + 1 - 1]'(by omega)) = 0
    · rw [kept_dup c l (k + 1) (by omega) (by omega) he]
      refine ⟨h1, fun j hj hk => ?_⟩
      by_cases hjk : j < k + 1
      · exact h2 j hj hjk
      · have : j = k + 1 := by omega
        subst this
        obtain ⟨x, hx, hx0⟩ := h2 k (by omega) (by omega)
        refine ⟨x, hx, ?_⟩
        simp only [Nat.add_sub_cancel] at he
        have a1 := hc.anti x l[k]; have a2 := hc.anti l[k + 1] l[k]; have a3 := hc.anti x l[k + 1]
        have := hc.trans x l[k] l[k + 1] (by omega) (by omega)
        have := hc.trans l[k + 1] l[k] x (by omega) (by omega)
        omega
    · rw [kept_new c l (k + 1) (by omega) (by omega) he]
      have hlt : c l[k] l[k + 1] < 0 := by
        have := hs k (k + 1) (by omega) (by omega) (by omega)
        have := hc.anti l[k + 1] l[k]
        simp only [Nat.add_sub_cancel] at he
        omega
      refine ⟨List.pairwise_append.2 ⟨h1, by simp, fun x hx y hy => ?_⟩, fun j hj hk => ?_⟩
      · rw [List.mem_singleton] at hy; subst hy
        obtain ⟨i, hi, rfl⟩ := List.mem_take_iff_getElem.1 (kept_mem c l (k + 1) (by omega) x hx)
        by_cases hik : i = k
        · subst hik; exact hlt
        · exact hc.lt_of_le_of_lt (hs i k (by omega) (by omega) (by omega)) hlt
      · by_cases hjk : j < k + 1
        · obtain ⟨x, hx, hx0⟩ := h2 j hj hjk
          exact ⟨x, List.mem_append_left _ hx, hx0⟩
        · have : j = k + 1 := by omega
          subst this
          exact ⟨l[k + 1], by simp, hc.refl _⟩


end Go.Proofs.Ytomiefhfkdfgbaa
