/-
  A table's facts in memory: a row of pointers, each to a fact in a block of its own; a table.
-/
import Derived.Test.YtomiefhfkdfgbaaSf15
import Derived.Test.YtomiefhfkdfgbaaTb15
namespace Go.Proofs.Ytomiefhfkdfgbaa
open Go.RowKit Go.Sort

/-- a pointer, and the fact to which it leads -/
structure Pn where
  q : Nat
  x : Fv
abbrev Pn.f (p : Pn) : F := p.x.f
def pn0 : Pn := ⟨0, nof⟩
def pnK : Kd Pn := ⟨fun p => [ptr p.q], 1, fun _ => rfl, fun _ => rfl, by decide⟩
theorem Try.infoP : (Try.prog.info? 72).map (fun i => (i.zero, i.size, i.bytes)) = some (some (.pointer none), 1, 8) := by kernel_rfl

/-- A FACT IN MEMORY, in a block of facts -/
structure InAt (w : World) (p : Pn) : Prop where
  cell : w.heap[p.q]? = some (.cells (fv p.x).toArray 34)
  args : RowT kK 50 w p.x.a p.x.cap p.x.ks
/-- A LIST of facts in memory -/
structure LstAt (w : World) (a : Option Addr) (cap : Nat) (ps : List Pn) : Prop where
  row : RowT pnK 72 w a cap ps
  each : ∀ p ∈ ps, InAt w p
/-- what a list of facts wants of two worlds -/
structure S3 (w w' : World) : Prop where
  ptrs : Safe 72 w w'
  facts : Safe 34 w w'
  args : Safe 50 w w'
theorem S3.refl (w : World) : S3 w w := ⟨Safe.refl _ w, Safe.refl _ w, Safe.refl _ w⟩
theorem S3.trans {a b c : World} (h : S3 a b) (k : S3 b c) : S3 a c := ⟨h.ptrs.trans k.ptrs, h.facts.trans k.facts, h.args.trans k.args⟩
theorem S3.below {w w' : World} (h : Below w.heap.size w w') : S3 w w' := ⟨Safe.below h, Safe.below h, Safe.below h⟩
theorem S3.but {w w' : World} {R : Nat} {C : Array Value} {ty : TypeId} (h : But R w w') (hR : w.heap[R]? = some (.cells C ty)) (h1 : 72 ≠ ty) (h2 : 34 ≠ ty) (h3 : 50 ≠ ty) : S3 w w' := ⟨Safe.but h hR h1, Safe.but h hR h2, Safe.but h hR h3⟩
theorem InAt.safe {w w' : World} {p : Pn} (h : InAt w p) (s : S3 w w') : InAt w' p := ⟨s.facts _ _ h.cell, h.args.safe s.args⟩
theorem LstAt.safe {w w' : World} {a : Option Addr} {cap : Nat} {ps : List Pn} (h : LstAt w a cap ps) (s : S3 w w') : LstAt w' a cap ps := ⟨h.row.safe s.ptrs, fun p hp => (h.each p hp).safe s⟩
theorem LstAt.below {w w' : World} {a : Option Addr} {cap : Nat} {ps : List Pn} (h : LstAt w a cap ps) (hb : Below w.heap.size w w') : LstAt w' a cap ps := h.safe (S3.below hb)
theorem LstAt.nil (w : World) : LstAt w none 0 [] := ⟨RowT.nil _ _ w, fun _ h => by cases h⟩
theorem InAt.at_ {w : World} {p : Pn} (h : InAt w p) : Fv.At w p.x := row_args h.args.row

/-- A TABLE in memory: its limit, its facts, in order, each once, each of which may be -/
structure TabAt (w : World) (b : Nat) (m : Nat) (a : Option Addr) (cap : Nat) (ps : List Pn) : Prop where
  cell : w.heap[b]? = some (.cells #[.int .i64 (m : Int), .slice a ps.length cap] 66)
  lst : LstAt w a cap ps
  sorted : SS (ps.map Pn.f)
  room : ps.length ≤ m
  low : 1 ≤ m
  high : m ≤ 4096
  wide : ∀ p ∈ ps, p.x.ks.length ≤ 48
theorem TabAt.safe {w w' : World} {b m : Nat} {a : Option Addr} {cap : Nat} {ps : List Pn} (h : TabAt w b m a cap ps) (s : S3 w w') (t : Safe 66 w w') : TabAt w' b m a cap ps := ⟨t _ _ h.cell, h.lst.safe s, h.sorted, h.room, h.low, h.high, h.wide⟩
theorem TabAt.below {w w' : World} {b m : Nat} {a : Option Addr} {cap : Nat} {ps : List Pn} (h : TabAt w b m a cap ps) (hb : Below w.heap.size w w') : TabAt w' b m a cap ps := h.safe (S3.below hb) (Safe.below hb)
theorem TabAt.lt {w : World} {b m : Nat} {a : Option Addr} {cap : Nat} {ps : List Pn} (h : TabAt w b m a cap ps) : b < w.heap.size := heap_lt h.cell
/-- another table's block turned -/
theorem TabAt.other {w w' : World} {b m b' : Nat} {a : Option Addr} {cap : Nat} {ps : List Pn} {C : Array Value} (h : TabAt w b m a cap ps) (hb : But b' w w') (hc : w.heap[b']? = some (.cells C 66)) (hn : b ≠ b') : TabAt w' b m a cap ps :=
  ⟨hb.heap hn h.cell, h.lst.safe (S3.but hb hc (by decide) (by decide) (by decide)), h.sorted, h.room, h.low, h.high, h.wide⟩
end Go.Proofs.Ytomiefhfkdfgbaa
