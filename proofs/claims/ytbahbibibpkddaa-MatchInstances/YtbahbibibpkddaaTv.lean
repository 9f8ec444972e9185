/-
  Rules in memory of which nothing but their cells is known; whether two terms, literals, rules are the same.
-/
import Derived.Test.YtbahbibibpkddaaMv
import Derived.Deep.QuietTactic
import Derived.BigQuiet
import Derived.Deep.LoopGhost
import Derived.Laws.StructEq
namespace Go.Proofs.Ytbahbibibpkddaa
open Go.RowKit Go.Lib Go.Shelf

def Lv.Aw (w : World) (x : Lv) : Prop := Row tK w x.a x.cap x.args
structure Rv.Aw (w : World) (x : Rv) : Prop where
  args : Row tK w x.a x.cap x.args
  body : Row lK w x.ba x.bcap x.body
  each : ∀ l ∈ x.body, Lv.Aw w l
theorem Lv.Aw.below {w w' : World} {x : Lv} {B : Nat} (h : Lv.Aw w x) (hb : Below B w w') (hB : w.heap.size ≤ B) : Lv.Aw w' x := Row.below h hb hB
theorem Rv.Aw.below {w w' : World} {x : Rv} {B : Nat} (h : Rv.Aw w x) (hb : Below B w w') (hB : w.heap.size ≤ B) : Rv.Aw w' x := ⟨h.args.below hb hB, h.body.below hb hB, fun l hl => (h.each l hl).below hb hB⟩
theorem Rv.At.aw {w : World} {x : Rv} (h : Rv.At w x) : Rv.Aw w x := ⟨h.args.row, h.body.row, fun l hl => (show RowT tK _ _ _ _ _ from h.each l hl).row⟩
/-- rules in memory, as a slice -/
structure Rws (w : World) (a : Option Addr) (c : Nat) (xs : List Rv) : Prop where
  row : Row rK w a c xs
  each : ∀ x ∈ xs, Rv.Aw w x
theorem Rws.below {w w' : World} {a : Option Addr} {c : Nat} {xs : List Rv} (h : Rws w a c xs) (hb : Below w.heap.size w w') : Rws w' a c xs := ⟨h.row.below hb (Nat.le_refl _), fun x hx => (h.each x hx).below hb (Nat.le_refl _)⟩
def sameT (t u : Tm) : Bool := (t.v == u.v) && ((t.k.num == u.k.num) && ((t.k.n == u.k.n) && (t.k.s == u.k.s)))
theorem sameT_iff (t u : Tm) : sameT t u = true ↔ t = u := by
  obtain ⟨v, ⟨a, b, c⟩⟩ := t; obtain ⟨v', ⟨a', b', c'⟩⟩ := u
  simp [sameT]
def sameK (k k' : K) : Bool := (k.num == k'.num) && ((k.n == k'.n) && (k.s == k'.s))
theorem beq_str (a b : List UInt8) : ((⟨a.toArray⟩ : ByteArray).toList == (⟨b.toArray⟩ : ByteArray).toList) = (a == b) := by rw [ByteArray.toList_eq, ByteArray.toList_eq]
theorem eqConst (k k' : K) (d : Nat) (w : World) : (Op.equalIn (d + 2) 23 (.agg #[.bool k.num, .int .i64 k.n, str k.s]) (.agg #[.bool k'.num, .int .i64 k'.n, str k'.s])).run Try.prog w = .ok (sameK k k') w := by
  rw [run_equalIn_struct w (d + 1) 23 _ _ (by kernel_rfl) (by kernel_rfl)]
  simp only [Program.fieldsOf, Try.underlying23, Op.eqFields]
  simp [part, Try.isAgg4, Try.isAgg3, Try.isAgg9, run_equalIn_bool' w d _ _ _ Try.underlying4, run_equalIn_int w d _ _ _ _ _ Try.underlying3, run_equalIn_string w d _ _ _ Try.underlying9, sameK]
  by_cases h1 : k.num = k'.num <;> by_cases h2 : k.n = k'.n <;> by_cases h3 : k.s = k'.s <;> simp [h1, h2, h3]
theorem eqTerm (t u : Tm) (w : World) : (Op.equalIn 10000 25 (tval t) (tval u)).run Try.prog w = .ok (sameT t u) w := by
  rw [run_equalIn_struct w 9999 25 _ _ (by kernel_rfl) (by kernel_rfl)]
  simp only [Program.fieldsOf, Try.underlying25, Op.eqFields]
  have hc := eqConst t.k u.k 9997 w
  simp [part, Try.isAgg9, Try.isAgg23, Try.sizeOf23, run_equalIn_string w 9998 _ _ _ Try.underlying9, hc]
  by_cases h1 : t.v = u.v <;> cases h2 : sameK t.k u.k <;> simp [sameT, h1] <;> simpa [sameK] using h2
def sameTs : List Tm → List Tm → Bool
  | [], [] => true
  | t :: r, u :: s => sameT t u && sameTs r s
  | _, _ => false
theorem sameTs_iff : ∀ ts us : List Tm, sameTs ts us = true ↔ ts = us
  | [], [] => by simp [sameTs]
  | t :: r, u :: s => by simp [sameTs, sameT_iff, sameTs_iff r s]
  | [], _ :: _ => by simp [sameTs]
  | _ :: _, [] => by simp [sameTs]
theorem sameTs_no {ts us : List Tm} (h : ts ≠ us) : sameTs ts us = false := by
  rw [Bool.eq_false_iff]; exact fun h' => h ((sameTs_iff _ _).1 h')
def sameL (x y : Lt) : Bool := sameT x.by_ y.by_ && ((x.pred == y.pred) && (sameTs x.args y.args && sameT x.at_ y.at_))
theorem sameL_iff (x y : Lt) : sameL x y = true ↔ x = y := by
  obtain ⟨a, b, c, d⟩ := x; obtain ⟨a', b', c', d'⟩ := y
  simp [sameL, sameT_iff, sameTs_iff]
def sameLs : List Lt → List Lt → Bool
  | [], [] => true
  | t :: r, u :: s => sameL t u && sameLs r s
  | _, _ => false
theorem sameLs_iff : ∀ ts us : List Lt, sameLs ts us = true ↔ ts = us
  | [], [] => by simp [sameLs]
  | t :: r, u :: s => by simp [sameLs, sameL_iff, sameLs_iff r s]
  | [], _ :: _ => by simp [sameLs]
  | _ :: _, [] => by simp [sameLs]
theorem sameLs_no {ts us : List Lt} (h : ts ≠ us) : sameLs ts us = false := by
  rw [Bool.eq_false_iff]; exact fun h' => h ((sameLs_iff _ _).1 h')
def sameR (x y : Ru) : Bool := sameT x.home y.home && ((x.pred == y.pred) && (sameTs x.args y.args && (sameT x.to_ y.to_ && sameLs x.body y.body)))
theorem sameR_iff (x y : Ru) : sameR x y = true ↔ x = y := by
  obtain ⟨a, b, c, d, e⟩ := x; obtain ⟨a', b', c', d', e'⟩ := y
  simp [sameR, sameT_iff, sameTs_iff, sameLs_iff]
end Go.Proofs.Ytbahbibibpkddaa
