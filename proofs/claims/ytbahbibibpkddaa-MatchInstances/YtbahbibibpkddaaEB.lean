/-
  The program's Follows.
-/
import Derived.Test.YtbahbibibpkddaaE9
import Derived.Test.YtbahbibibpkddaaE6
import Derived.Test.YtbahbibibpkddaaROrd
namespace Go.Proofs.Ytbahbibibpkddaa
open Go.RowKit Go.Lib Go.Shelf

/-- a derivation in memory: its cells -/
def dv (n : Int) (x : Fv) (a : Option Addr) (c : Nat) (xs : List Fv) : List Value := [.int .i64 n, str x.at_, str x.by_, str x.pred, .slice x.a x.ks.length x.cap, .slice a xs.length c]
abbrev dval5 (n : Int) (x : Fv) (a : Option Addr) (c : Nat) (xs : List Fv) : Value := .agg #[.int .i64 n, str x.at_, str x.by_, str x.pred, .slice x.a x.ks.length x.cap, .slice a xs.length c]
theorem dv_cells {w : World} {b : Nat} {n : Int} {x : Fv} {a : Option Addr} {c : Nat} {xs : List Fv} (H : w.heap[b]? = some (.cells (dv n x a c xs).toArray 55)) :
    w.cell? ⟨b, 1, none⟩ = some (str x.at_) ∧ w.cell? ⟨b, 2, none⟩ = some (str x.by_) ∧ w.cell? ⟨b, 3, none⟩ = some (str x.pred) ∧ w.cell? ⟨b, 4, none⟩ = some (.slice x.a x.ks.length x.cap) ∧ w.cell? ⟨b, 5, none⟩ = some (.slice a xs.length c) := by
  refine ⟨?_, ?_, ?_, ?_, ?_⟩ <;> (rw [heap_cell H]; rfl)
theorem rv_home5 {w : World} {b : Nat} {x : Rv} (H : w.heap[b]? = some (.cells (rv x).toArray 37)) :
    w.cell? ⟨b, 0, none⟩ = some (str x.home.v) ∧ w.cell? ⟨b, 1, none⟩ = some (.bool x.home.k.num) ∧ w.cell? ⟨b, 2, none⟩ = some (.int .i64 x.home.k.n) ∧ w.cell? ⟨b, 3, none⟩ = some (str x.home.k.s) ∧ w.cell? ⟨b, 10, none⟩ = some (.slice x.ba x.body.length x.bcap) := by
  refine ⟨?_, ?_, ?_, ?_, ?_⟩ <;> (rw [heap_cell H]; rfl)
theorem lv_in5 {w : World} {b o : Nat} {y : Lv} (h : w.rangeAt b o (lv y)) :
    w.cell? ⟨b, o, none⟩ = some (str y.by_.v) ∧ w.cell? ⟨b, o + 1, none⟩ = some (.bool y.by_.k.num) ∧ w.cell? ⟨b, o + 2, none⟩ = some (.int .i64 y.by_.k.n) ∧ w.cell? ⟨b, o + 3, none⟩ = some (str y.by_.k.s) ∧ w.cell? ⟨b, o + 4, none⟩ = some (str y.pred) ∧ w.cell? ⟨b, o + 5, none⟩ = some (.slice y.a y.args.length y.cap) ∧
    w.cell? ⟨b, o + 6, none⟩ = some (str y.at_.v) ∧ w.cell? ⟨b, o + 7, none⟩ = some (.bool y.at_.k.num) ∧ w.cell? ⟨b, o + 8, none⟩ = some (.int .i64 y.at_.k.n) ∧ w.cell? ⟨b, o + 9, none⟩ = some (str y.at_.k.s) :=
  ⟨h 0 _ rfl, h 1 _ rfl, h 2 _ rfl, h 3 _ rfl, h 4 _ rfl, h 5 _ rfl, h 6 _ rfl, h 7 _ rfl, h 8 _ rfl, h 9 _ rfl⟩
/-- two boxes: a rule, a derivation; of what lay below the base nothing turned -/
structure BxD (r : Rv) (n : Int) (x : Fv) (a : Option Addr) (c : Nat) (xs : List Fv) (w wc : World) : Prop where
  below : Below w.heap.size w wc
  h0 : wc.heap[w.heap.size]? = some (.cells (rv r).toArray 37)
  h1 : wc.heap[w.heap.size + 1]? = some (.cells (dv n x a c xs).toArray 55)
theorem BxD.next {r : Rv} {n : Int} {x : Fv} {a : Option Addr} {c : Nat} {xs : List Fv} {w wc wd : World} (h : BxD r n x a c xs w wc) (b : Below w.heap.size wc wd) (s : ∀ ty : TypeId, ty ≠ 57 → Safe ty wc wd) : BxD r n x a c xs w wd := ⟨h.below.trans b, s _ (by decide) _ _ h.h0, s _ (by decide) _ _ h.h1⟩
theorem BxD.then {r : Rv} {n : Int} {x : Fv} {a : Option Addr} {c : Nat} {xs : List Fv} {w wc wd : World} (h : BxD r n x a c xs w wc) (b : Below wc.heap.size wc wd) : BxD r n x a c xs w wd := h.next (b.mono h.below.size) (fun _ _ => Safe.below b)
theorem lit_two (home : Tm) (l : Lt) (f : F) (L : Mt.Env) : (Mt.lit home l f L = none ∧ litE home l f L = [] ∧ litB home l f L = false) ∨ (∃ e, Mt.lit home l f L = some e ∧ litE home l f L = e ∧ litB home l f L = true ∧ e.length ≤ L.length + (l.args.length + 2)) := by
  unfold litE litB
  cases h : Mt.lit home l f L with
  | none => exact .inl ⟨rfl, rfl, rfl⟩
  | some e => exact .inr ⟨e, rfl, rfl, rfl, Mt.lit_len h⟩
/-- what is told of a rule and a derivation, from the i-th literal on -/
def folF (r : Ru) (h : F) (ls : List Lt) (fs : List F) (e : Mt.Env) : Bool := match (Mt.lits r.home ls fs e).bind fun e2 => Mt.head r e2 with
  | none => false
  | some f => decide (cF f h = 0)
theorem fol_folF {r : Ru} {h : F} {b : List F} {e : Mt.Env} (hu : Mt.uni r.home (Mt.nm h.by_) [] = some e) : Mt.fol r h b = folF r h r.body b e := by
  unfold folF
  cases hx : (Mt.lits r.home r.body b e).bind fun e2 => Mt.head r e2 with
  | none => exact Mt.fol_no (by rw [hu]; exact hx)
  | some f => exact Mt.fol_some (f := f) (by rw [hu]; exact hx) _ (by rw [decide_eq_true_iff, cF_zero])
theorem folF_step {r : Ru} {h : F} {ls : List Lt} {fs : List F} {e : Mt.Env} {i : Nat} (h1 : i < ls.length) (h2 : i < fs.length) : folF r h (ls.drop i) (fs.drop i) e = match Mt.lit r.home ls[i] fs[i] e with
    | none => false
    | some e1 => folF r h (ls.drop (i + 1)) (fs.drop (i + 1)) e1 := by
  unfold folF
  rw [Mt.lits_step h1 h2]
  cases Mt.lit r.home ls[i] fs[i] e with
  | none => rfl
  | some e1 => rfl
theorem folF_done {r : Ru} {h : F} {ls : List Lt} {fs : List F} {e : Mt.Env} {i : Nat} (h1 : ls.length ≤ i) (h2 : fs.length ≤ i) : folF r h (ls.drop i) (fs.drop i) e = match Mt.head r e with
    | none => false
    | some f => decide (cF f h = 0) := by
  unfold folF
  rw [Mt.lits_done h1 h2]; rfl
end Go.Proofs.Ytbahbibibpkddaa
