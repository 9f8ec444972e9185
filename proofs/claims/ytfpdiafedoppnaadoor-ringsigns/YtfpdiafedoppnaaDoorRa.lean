/-
  Acts in memory.
-/
import Derived.Test.YtfpdiafedoppnaaDoorRq
namespace Go.Proofs.YtfpdiafedoppnaaDoor
open Go.RowKit

structure Av where
  kind : Int
  who : List UInt8
  dom : List UInt8
  ta : Option Addr
  tc : Nat
  txt : List UInt8
  ga : Option Addr
  gc : Nat
  tag : List UInt8
def av (x : Av) : List Value := [.int .i64 x.kind, str x.who, str x.dom, .slice x.ta x.txt.length x.tc, .slice x.ga x.tag.length x.gc]
abbrev Av.val (x : Av) : Value := .agg #[.int .i64 x.kind, str x.who, str x.dom, .slice x.ta x.txt.length x.tc, .slice x.ga x.tag.length x.gc]
def aK : Kd Av := ⟨av, 5, fun _ => rfl, fun _ => rfl, by decide⟩
structure Av.At (w : World) (x : Av) : Prop where
  t : Holds w x.ta x.tc x.txt
  g : Holds w x.ga x.gc x.tag
  lw : x.who.length ≤ 140737488351232
  ld : x.dom.length ≤ 140737488351232
  lt : x.txt.length ≤ 140737488351232
  lg : x.tag.length ≤ 140737488351232
  k0 : -9223372036854775808 ≤ x.kind
  k1 : x.kind ≤ 9223372036854775807
theorem Av.At.below {w w' : World} {x : Av} (h : Av.At w x) (b : Below w.heap.size w w') : Av.At w' x := ⟨h.t.below b, h.g.below b, h.lw, h.ld, h.lt, h.lg, h.k0, h.k1⟩
theorem Av.At.fits {w : World} {x : Av} (h : Av.At w x) : Fits (x.who, x.dom, x.txt) := ⟨by have := h.lw; unfold maxLen; simp only; omega, by have := h.ld; unfold maxLen; simp only; omega, by have := h.lt; unfold maxLen; simp only; omega⟩
/-- an act in a block of its own -/
structure ActIn (w : World) (B : Nat) (x : Av) : Prop where
  blk : w.heap[B]? = some (.cells (av x).toArray 40)
theorem ActIn.below {w w' : World} {B : Nat} {x : Av} (h : ActIn w B x) (b : Below w.heap.size w w') : ActIn w' B x := ⟨below_heap b h.blk⟩
theorem ActIn.c0 {w : World} {B : Nat} {x : Av} (h : ActIn w B x) : w.cell? ⟨B, 0, none⟩ = some (.int .i64 x.kind) := by rw [heap_cell h.blk]; rfl
theorem ActIn.c1 {w : World} {B : Nat} {x : Av} (h : ActIn w B x) : w.cell? ⟨B, 1, none⟩ = some (str x.who) := by rw [heap_cell h.blk]; rfl
theorem ActIn.c2 {w : World} {B : Nat} {x : Av} (h : ActIn w B x) : w.cell? ⟨B, 2, none⟩ = some (str x.dom) := by rw [heap_cell h.blk]; rfl
theorem ActIn.c3 {w : World} {B : Nat} {x : Av} (h : ActIn w B x) : w.cell? ⟨B, 3, none⟩ = some (.slice x.ta x.txt.length x.tc) := by rw [heap_cell h.blk]; rfl
theorem ActIn.c4 {w : World} {B : Nat} {x : Av} (h : ActIn w B x) : w.cell? ⟨B, 4, none⟩ = some (.slice x.ga x.tag.length x.gc) := by rw [heap_cell h.blk]; rfl
theorem act_new (w : World) (x : Av) : ActIn (w.alloc (.cells #[.int .i64 x.kind, str x.who, str x.dom, .slice x.ta x.txt.length x.tc, .slice x.ga x.tag.length x.gc] 40)) w.heap.size x := ⟨heap_alloc_new w _⟩
end Go.Proofs.YtfpdiafedoppnaaDoor
