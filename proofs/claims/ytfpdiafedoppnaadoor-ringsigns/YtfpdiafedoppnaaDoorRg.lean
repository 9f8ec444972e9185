/-
  A ring of the program in memory; what it is asked.
-/
import Derived.Test.YtfpdiafedoppnaaDoorKy
import Derived.Test.YtfpdiafedoppnaaDoorMm
import Derived.Test.YtfpdiafedoppnaaDoorLentKept
namespace Go.Proofs.YtfpdiafedoppnaaDoor
open Go.RowKit

theorem cs_all (l : List UInt8) : (cs l).all (·.oneCell') = true := List.all_eq_true.2 (cs_one l)
/-- a principal: a name, a key -/
def pK (seed : Int) : Kd (List UInt8) := ⟨fun n => str n :: cs (Mm.pkey seed n), 33, fun n => by rw [List.length_cons, cs_length, Mm.pkey_length], fun n => by rw [List.all_cons, cs_all]; rfl, by decide⟩
/-- a text -/
def sK : Kd (List UInt8) := ⟨fun n => [str n], 1, fun _ => rfl, fun _ => rfl, by decide⟩

/-- A RING in the world w: block rb is it, its principals lie in block g, its book is block bm -/
structure RingAt (w : World) (rb g cap bm : Nat) (seed : Int) (N : List (List UInt8)) (L : List P3) : Prop where
  ring : w.heap[rb]? = some (.cells #[.slice (some ⟨g, 0, none⟩) N.length cap, .map (some bm)] 58)
  row : RowT (pK seed) 63 w (some ⟨g, 0, none⟩) cap N
  book : BookAt w bm L
  few : N.length ≤ 6
  lens : ∀ n ∈ N, n.length ≤ 32
  s0 : -9223372036854775808 ≤ seed
  s1 : seed ≤ 9223372036854775807
  full : L.length ≤ 4096
theorem RingAt.c0 {w : World} {rb g cap bm : Nat} {seed : Int} {N : List (List UInt8)} {L : List P3} (h : RingAt w rb g cap bm seed N L) : w.cell? ⟨rb, 0, none⟩ = some (.slice (some ⟨g, 0, none⟩) N.length cap) := by
  rw [heap_cell h.ring]; rfl
theorem RingAt.c1 {w : World} {rb g cap bm : Nat} {seed : Int} {N : List (List UInt8)} {L : List P3} (h : RingAt w rb g cap bm seed N L) : w.cell? ⟨rb, 1, none⟩ = some (.map (some bm)) := by
  rw [heap_cell h.ring]; rfl
/-- it stays while blocks of other types turn -/
structure Stays (w w' : World) (bm : Nat) : Prop where
  ring : Safe 58 w w'
  row : Safe 63 w w'
  book : w'.heap[bm]? = w.heap[bm]?
theorem RingAt.stays {w w' : World} {rb g cap bm : Nat} {seed : Int} {N : List (List UInt8)} {L : List P3} (h : RingAt w rb g cap bm seed N L) (s : Stays w w' bm) : RingAt w' rb g cap bm seed N L :=
  ⟨s.ring _ _ h.ring, h.row.safe s.row, h.book.block s.book, h.few, h.lens, h.s0, h.s1, h.full⟩
theorem RingAt.below {w w' : World} {rb g cap bm : Nat} {seed : Int} {N : List (List UInt8)} {L : List P3} (h : RingAt w rb g cap bm seed N L) (b : Below w.heap.size w w') : RingAt w' rb g cap bm seed N L :=
  h.stays ⟨Safe.below b, Safe.below b, b.block _ h.book.lt⟩
theorem RingAt.lt {w : World} {rb g cap bm : Nat} {seed : Int} {N : List (List UInt8)} {L : List P3} (h : RingAt w rb g cap bm seed N L) : rb < w.heap.size := heap_lt h.ring

/-- a digest and a word handed back -/
theorem results_cs {P : Program} {fn : Func} {p q : Tmp} {ty : TypeId} {tmps : Array Value} {w : World} {b o : Nat} {cs : List Value} {v : Value} {d : TypeDesc} (h : fn.results = #[.cell p ty, .tmp q]) (hp : tmps.getD p undef = .pointer (some ⟨b, o, none⟩)) (hq : tmps.getD q undef = v) (hc : w.rangeAt b o cs)
    (hu : P.underlying ty = some d) (hd : d.isRow = true) (hi : (P.info? ty).map (·.size) = some cs.length) : (results fn tmps).run P w = .ok (.tuple #[.agg cs.toArray, v]) w := by
  simp only [Array.getD_eq_getD_getElem?] at hp hq
  simp only [results, h]
  simp [asAddr, hp, hq, run_loadVar_mid w b o ty cs d hc hu hd hi]

theorem map_some (bm : Nat) (w : World) : (binOp .neq 56 (.map (some bm)) (.map none)).run Tryd.prog w = .ok (.bool true) w := by kernel_rfl
theorem map_none (w : World) : (binOp .neq 56 (.map none) (.map none)).run Tryd.prog w = .ok (.bool false) w := by kernel_rfl
set_option maxRecDepth 100000 in
theorem fromNew6 (w : World) (rb bm : Nat) (h : w.cell? ⟨rb, 1, none⟩ = some (.map (some bm))) :
    Calls Tryd.prog 27 #[.pointer (some ⟨rb, 0, none⟩)] w fun e w' => e = .returned (.bool true) ∧ w = w' := by
  have hm := map_some bm w
  go_enter Tryd.func27, Tryd.ntmps27
  go_wp2
  go_ret
  exact ⟨rfl, rfl⟩
set_option maxRecDepth 100000 in
theorem fromNew6_nil (w : World) :
    Calls Tryd.prog 27 #[.pointer none] w fun e w' => e = .returned (.bool false) ∧ w = w' := by
  go_enter Tryd.func27, Tryd.ntmps27
  go_wp2
  go_ret
  exact ⟨rfl, rfl⟩
set_option maxRecDepth 100000 in
theorem fromNew6_zero (w : World) (rb : Nat) (h : w.cell? ⟨rb, 1, none⟩ = some (.map none)) :
    Calls Tryd.prog 27 #[.pointer (some ⟨rb, 0, none⟩)] w fun e w' => e = .returned (.bool false) ∧ w = w' := by
  have hm := map_none w
  go_enter Tryd.func27, Tryd.ntmps27
  go_wp2
  go_ret
  exact ⟨rfl, rfl⟩

set_option maxRecDepth 100000 in
theorem len6 (w : World) (rb g cap bm : Nat) (seed : Int) (N : List (List UInt8)) (L : List P3) (r : RingAt w rb g cap bm seed N L) :
    Calls Tryd.prog 16 #[.pointer (some ⟨rb, 0, none⟩)] w fun e w' => e = .returned (.int .i64 (L.length : Int)) ∧ w = w' := by
  have c1 := r.c1
  have hl := r.book.len (ty := 3)
  go_enter Tryd.func16, Tryd.ntmps16
  go_wp2_with fail
  refine (fromNew6 w rb bm c1).mono ?_
  rintro _ w1 ⟨rfl, rfl⟩
  go_wp2_with fail
  go_ret
  exact ⟨rfl, rfl⟩
end Go.Proofs.YtfpdiafedoppnaaDoor
