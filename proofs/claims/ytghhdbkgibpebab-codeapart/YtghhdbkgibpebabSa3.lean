/-
  Whether two terms, two lists of terms are the same: what slices.Equal answers.
-/
import Derived.Deep.QuietTactic
import Derived.BigQuiet
import Derived.Deep.LoopGhost
import Derived.Test.YtghhdbkgibpebabTk
import Derived.Test.YtghhdbkgibpebabOrd
namespace Go.Proofs.Ytghhdbkgibpebab
open Go.RowKit Go.Sort

def sameT (t u : Tm) : Bool := (t.v == u.v) && ((t.k.num == u.k.num) && ((t.k.n == u.k.n) && (t.k.s == u.k.s)))
theorem sameT_iff (t u : Tm) : sameT t u = true ↔ t = u := by
  obtain ⟨v, ⟨a, b, c⟩⟩ := t; obtain ⟨v', ⟨a', b', c'⟩⟩ := u
  simp [sameT]
def sameK (k k' : K) : Bool := (k.num == k'.num) && ((k.n == k'.n) && (k.s == k'.s))
theorem beq_str (a b : List UInt8) : ((⟨a.toArray⟩ : ByteArray).toList == (⟨b.toArray⟩ : ByteArray).toList) = (a == b) := by rw [ByteArray.toList_eq, ByteArray.toList_eq]
theorem eqConst (k k' : K) (d : Nat) (w : World) : (Op.equalIn (d + 2) 35 (kval k) (kval k')).run Try.prog w = .ok (sameK k k') w := by
  rw [run_equalIn_struct w (d + 1) 35 _ _ (by kernel_rfl) (by kernel_rfl)]
  simp only [Program.fieldsOf, Try.underlying35, Op.eqFields]
  simp [part, Try.isAgg4, Try.isAgg3, Try.isAgg9, run_equalIn_bool' w d _ _ _ Try.underlying4, run_equalIn_int w d _ _ _ _ _ Try.underlying3, run_equalIn_string w d _ _ _ Try.underlying9, sameK]
  by_cases h1 : k.num = k'.num <;> by_cases h2 : k.n = k'.n <;> by_cases h3 : k.s = k'.s <;> simp [h1, h2, h3]
theorem eqTerm (t u : Tm) (w : World) : (Op.equalIn 10000 48 (tval t) (tval u)).run Try.prog w = .ok (sameT t u) w := by
  rw [run_equalIn_struct w 9999 48 _ _ (by kernel_rfl) (by kernel_rfl)]
  simp only [Program.fieldsOf, Try.underlying48, Op.eqFields]
  have hc := eqConst t.k u.k 9997 w
  simp [part, Try.isAgg9, Try.isAgg35, Try.sizeOf35, run_equalIn_string w 9998 _ _ _ Try.underlying9, hc]
  by_cases h1 : t.v = u.v <;> cases h2 : sameK t.k u.k <;> simp [sameT, h1] <;> simpa [sameK] using h2
def sameTs : List Tm → List Tm → Bool
  | [], [] => true
  | t :: r, u :: s => sameT t u && sameTs r s
  | _, _ => false
theorem sameTs_iff : ∀ ts us : List Tm, sameTs ts us = true ↔ ts = us
  | [], [] => by simp [sameTs]
  | t :: r, u :: s => by simp [sameTs, sameT_iff, sameTs_iff r s]
  | [], _ :: _ => by simp [sameTs]
  | _ :: _, [] => by simp [sameTs]
theorem sameTs_no {ts us : List Tm} (h : ts ≠ us) : sameTs ts us = false := by
  rw [Bool.eq_false_iff]; exact fun h' => h ((sameTs_iff _ _).1 h')

end Go.Proofs.Ytghhdbkgibpebab

/-
  Whether two literals, two rules are the same: what the program answers.
-/
namespace Go.Proofs.Ytghhdbkgibpebab
open Go.RowKit Go.Sort

def sameL (x y : Lt) : Bool := sameT x.by_ y.by_ && ((x.pred == y.pred) && (sameTs x.args y.args && sameT x.at_ y.at_))
theorem sameL_iff (x y : Lt) : sameL x y = true ↔ x = y := by
  obtain ⟨a, b, c, d⟩ := x; obtain ⟨a', b', c', d'⟩ := y
  simp [sameL, sameT_iff, sameTs_iff]
def sameLs : List Lt → List Lt → Bool
  | [], [] => true
  | t :: r, u :: s => sameL t u && sameLs r s
  | _, _ => false
theorem sameLs_iff : ∀ ts us : List Lt, sameLs ts us = true ↔ ts = us
  | [], [] => by simp [sameLs]
  | t :: r, u :: s => by simp [sameLs, sameL_iff, sameLs_iff r s]
  | [], _ :: _ => by simp [sameLs]
  | _ :: _, [] => by simp [sameLs]
theorem sameLs_no {ts us : List Lt} (h : ts ≠ us) : sameLs ts us = false := by
  rw [Bool.eq_false_iff]; exact fun h' => h ((sameLs_iff _ _).1 h')
def sameR (x y : Ru) : Bool := sameT x.home y.home && ((x.pred == y.pred) && (sameTs x.args y.args && (sameT x.to_ y.to_ && sameLs x.body y.body)))
theorem sameR_iff (x y : Ru) : sameR x y = true ↔ x = y := by
  obtain ⟨a, b, c, d, e⟩ := x; obtain ⟨a', b', c', d', e'⟩ := y
  simp [sameR, sameT_iff, sameTs_iff, sameLs_iff]

end Go.Proofs.Ytghhdbkgibpebab

/-
  Whether two bodies, two rules, two facts are the same: what the program answers.
-/
namespace Go.Proofs.Ytghhdbkgibpebab
open Go.RowKit Go.Sort

theorem sameFact_at (x y : Fv) (w : World) (hx : Fv.At w x) (hy : Fv.At w y) : Calls Try.prog 8 #[x.val, y.val] w fun e w' => e = .returned (.bool (decide (cF x.f y.f = 0))) ∧ Grew w w' := by
  have hO := fun (W : World) (hg : Grew w W) => order_at x y W (hx.grew hg) (hy.grew hg)
  have hg2 : ∀ o o' : Obj, Grew w ((w.alloc o).alloc o') := fun o o' => ((Grew.refl w).allocs o).allocs o'
  generalize cF x.f y.f = r at *
  obtain ⟨x1, x2, x3, xa, xc, xk⟩ := x; obtain ⟨y1, y2, y3, ya, yc, yk⟩ := y
  go_enter Try.func8, Try.ntmps8
  go_wp2_with fail
  refine (hO _ (hg2 _ _)).mono ?_; rintro e w1 ⟨rfl, hg⟩
  go_wp2_with fail
  go_ret
  refine ⟨ret_bool ?_, (hg2 _ _).trans hg⟩
  rw [Bool.eq_iff_iff]; simp

end Go.Proofs.Ytghhdbkgibpebab
