/-
  Constants, facts and bindings in memory, rows of them.
-/
import Derived.Test.YtomiefhfkdfgbaaMv
namespace Go.Proofs.Ytomiefhfkdfgbaa
open Go.RowKit Go.Sort

/-! constants -/
def kv (k : K) : List Value := [.bool k.num, .int .i64 k.n, str k.s]
abbrev kval (k : K) : Value := .agg #[.bool k.num, .int .i64 k.n, str k.s]
def kcells (ks : List K) : List Value := ks.flatMap kv
theorem kv_len (k : K) : (kv k).length = 3 := rfl
theorem kcells_len (ks : List K) : (kcells ks).length = ks.length * 3 := flat_len kv 3 kv_len ks
theorem kcells_one (ks : List K) : ∀ u ∈ kcells ks, u.oneCell' = true := by
  intro u hu
  obtain ⟨k, _, hk⟩ := List.mem_flatMap.1 hu
  simp only [kv, List.mem_cons, List.not_mem_nil, or_false] at hk
  rcases hk with rfl | rfl | rfl <;> rfl

/-- A SLICE OF CONSTANTS in the world w -/
structure ArgsAt (w : World) (a : Option Addr) (cap : Nat) (ks : List K) : Prop where
  room : ks.length ≤ cap
  few : ks.length ≤ 4398046510976
  void : a = none → ks = [] ∧ cap = 0
  cells : ∀ ad, a = some ad → ∀ j u, (kcells ks)[j]? = some u → w.cell? (ad.add j) = some u

theorem ArgsAt.nil (w : World) : ArgsAt w none 0 [] := ⟨Nat.le_refl _, by simp, fun _ => ⟨rfl, rfl⟩, fun _ h => by cases h⟩
theorem ArgsAt.below {w w' : World} {a : Option Addr} {cap : Nat} {ks : List K} {B : Nat} (h : ArgsAt w a cap ks) (hb : Below B w w') (hB : w.heap.size ≤ B) : ArgsAt w' a cap ks :=
  ⟨h.room, h.few, h.void, fun ad ha j u hu => by
    have hc := h.cells ad ha j u hu
    rw [hb.cell (Nat.lt_of_lt_of_le (cell_block hc) hB)]
    exact hc⟩
theorem ArgsAt.addr {w : World} {a : Option Addr} {cap : Nat} {ks : List K} (h : ArgsAt w a cap ks) (hl : 0 < ks.length) : ∃ b o, a = some ⟨b, o, none⟩ := by
  cases a with
  | none => have := (h.void rfl).1; subst this; simp at hl
  | some ad =>
    have hc := h.cells ad rfl 0 (.bool ks[0].num) (by have := flat_get kv 3 kv_len ks 0 0 hl (by omega); simpa [kcells, kv] using this)
    obtain ⟨b, o, sp⟩ := ad
    have : sp = none := by simpa [Addr.add] using World.cell?_spot hc
    subst this
    exact ⟨b, o, rfl⟩
theorem ArgsAt.get {w : World} {b o cap : Nat} {ks : List K} (h : ArgsAt w (some ⟨b, o, none⟩) cap ks) (i : Nat) (hi : i < ks.length) :
    w.cell? ⟨b, o + i * 3, none⟩ = some (.bool ks[i].num) ∧ w.cell? ⟨b, o + i * 3 + 1, none⟩ = some (.int .i64 ks[i].n) ∧ w.cell? ⟨b, o + i * 3 + 2, none⟩ = some (str ks[i].s) := by
  have key : ∀ c, c < 3 → w.cell? ⟨b, o + i * 3 + c, none⟩ = (kv ks[i])[c]? := fun c hc => by
    have h1 := flat_get kv 3 kv_len ks i c hi hc
    obtain ⟨u, hu⟩ : ∃ u, (kv ks[i])[c]? = some u := ⟨_, List.getElem?_eq_getElem (show c < (kv ks[i]).length from hc)⟩
    have := h.cells _ rfl (i * 3 + c) u (by rw [kcells, h1, hu])
    rw [Addr.add_lit] at this
    rw [hu, ← this, Nat.add_assoc]
  exact ⟨key 0 (by omega), key 1 (by omega), key 2 (by omega)⟩

/-! facts -/
structure Fv where
  at_ : List UInt8
  by_ : List UInt8
  pred : List UInt8
  a : Option Addr
  cap : Nat
  ks : List K
def nof : Fv := ⟨[], [], [], none, 0, []⟩
def Fv.f (x : Fv) : F := ⟨x.at_, x.by_, x.pred, x.ks⟩
def fv (x : Fv) : List Value := [str x.at_, str x.by_, str x.pred, .slice x.a x.ks.length x.cap]
abbrev Fv.val (x : Fv) : Value := .agg #[str x.at_, str x.by_, str x.pred, .slice x.a x.ks.length x.cap]
theorem fv_len (x : Fv) : (fv x).length = 4 := rfl
def fcells (xs : List Fv) : List Value := xs.flatMap fv
theorem fcells_len (xs : List Fv) : (fcells xs).length = xs.length * 4 := flat_len fv 4 fv_len xs
theorem fv_one (x : Fv) : ∀ u ∈ fv x, u.oneCell' = true := by
  intro u hk
  simp only [fv, List.mem_cons, List.not_mem_nil, or_false] at hk
  rcases hk with rfl | rfl | rfl | rfl <;> rfl
theorem fcells_one (xs : List Fv) : ∀ u ∈ fcells xs, u.oneCell' = true := by
  intro u hu
  obtain ⟨x, _, hx⟩ := List.mem_flatMap.1 hu
  exact fv_one x u hx
theorem fcells_append (xs ys : List Fv) : fcells (xs ++ ys) = fcells xs ++ fcells ys := by simp [fcells]

abbrev Fv.At (w : World) (x : Fv) : Prop := ArgsAt w x.a x.cap x.ks
theorem Fv.At.below {w w' : World} {x : Fv} {B : Nat} (h : Fv.At w x) (hb : Below B w w') (hB : w.heap.size ≤ B) : Fv.At w' x := ArgsAt.below h hb hB
theorem Fv.At.grew {w w' : World} {x : Fv} (h : Fv.At w x) (hb : Grew w w') : Fv.At w' x := ArgsAt.below h hb.below (Nat.le_refl _)

/-- A SLICE OF FACTS in the world w: its own cells alone -/
structure Lies (w : World) (a : Option Addr) (cap : Nat) (xs : List Fv) : Prop where
  room : xs.length ≤ cap
  most : cap ≤ maxLen
  few : xs.length ≤ 1954687338211
  void : a = none → xs = [] ∧ cap = 0
  cells : ∀ ad, a = some ad → ∀ j u, (fcells xs)[j]? = some u → w.cell? (ad.add j) = some u
theorem Lies.nil (w : World) : Lies w none 0 [] := ⟨Nat.le_refl _, by simp, by simp, fun _ => ⟨rfl, rfl⟩, fun _ h => by cases h⟩
theorem Lies.below {w w' : World} {a : Option Addr} {cap : Nat} {xs : List Fv} {B : Nat} (h : Lies w a cap xs) (hb : Below B w w') (hB : w.heap.size ≤ B) : Lies w' a cap xs :=
  ⟨h.room, h.most, h.few, h.void, fun ad ha j u hu => by
    have hc := h.cells ad ha j u hu
    rw [hb.cell (Nat.lt_of_lt_of_le (cell_block hc) hB)]
    exact hc⟩
theorem Lies.addr {w : World} {a : Option Addr} {cap : Nat} {xs : List Fv} (h : Lies w a cap xs) (hl : 0 < xs.length) : ∃ b o, a = some ⟨b, o, none⟩ := by
  cases a with
  | none => have := (h.void rfl).1; subst this; simp at hl
  | some ad =>
    have hc := h.cells ad rfl 0 (str xs[0].at_) (by have := flat_get fv 4 fv_len xs 0 0 hl (by omega); simpa [fcells, fv] using this)
    obtain ⟨b, o, sp⟩ := ad
    have : sp = none := by simpa [Addr.add] using World.cell?_spot hc
    subst this
    exact ⟨b, o, rfl⟩
theorem Lies.get {w : World} {b o cap : Nat} {xs : List Fv} (h : Lies w (some ⟨b, o, none⟩) cap xs) (i : Nat) (hi : i < xs.length) :
    w.cell? ⟨b, o + i * 4, none⟩ = some (str xs[i].at_) ∧ w.cell? ⟨b, o + i * 4 + 1, none⟩ = some (str xs[i].by_) ∧ w.cell? ⟨b, o + i * 4 + 2, none⟩ = some (str xs[i].pred) ∧ w.cell? ⟨b, o + i * 4 + 3, none⟩ = some (.slice xs[i].a xs[i].ks.length xs[i].cap) := by
  have key : ∀ c, c < 4 → w.cell? ⟨b, o + i * 4 + c, none⟩ = (fv xs[i])[c]? := fun c hc => by
    have h1 := flat_get fv 4 fv_len xs i c hi hc
    obtain ⟨u, hu⟩ : ∃ u, (fv xs[i])[c]? = some u := ⟨_, List.getElem?_eq_getElem (show c < (fv xs[i]).length from hc)⟩
    have := h.cells _ rfl (i * 4 + c) u (by rw [fcells, h1, hu])
    rw [Addr.add_lit] at this
    rw [hu, ← this, Nat.add_assoc]
  exact ⟨key 0 (by omega), key 1 (by omega), key 2 (by omega), key 3 (by omega)⟩

/-! constants, facts, bindings as records -/
def kK : Kd K := ⟨kv, 3, fun _ => rfl, fun _ => rfl, by decide⟩
def fK : Kd Fv := ⟨fv, 4, fun _ => rfl, fun _ => rfl, by decide⟩
def bv (b : List UInt8 × K) : List Value := [str b.1, .bool b.2.num, .int .i64 b.2.n, str b.2.s]
abbrev bval (b : List UInt8 × K) : Value := .agg #[str b.1, .bool b.2.num, .int .i64 b.2.n, str b.2.s]
def bK : Kd (List UInt8 × K) := ⟨bv, 4, fun _ => rfl, fun _ => rfl, by decide⟩
theorem args_row {w : World} {a : Option Addr} {cap : Nat} {ks : List K} (h : ArgsAt w a cap ks) : Row kK w a cap ks := ⟨h.room, h.few, h.void, h.cells⟩
theorem row_args {w : World} {a : Option Addr} {cap : Nat} {ks : List K} (h : Row kK w a cap ks) : ArgsAt w a cap ks := ⟨h.room, h.few, h.void, h.cells⟩
end Go.Proofs.Ytomiefhfkdfgbaa
