/-
  What every walk of any layer leans on: a slice that holds bytes, in whatever memory; strings of bytes; facts of this program's types.
-/
import Derived.Test.YtomiefhfkdfgbaaRows
import Derived.WalkKit
import Derived.ProofKit
import Derived.OpenShut
import Derived.ShutString
import Derived.ChangeOld
import Derived.Below
import Derived.WalkSpells
import Derived.WalkLawsBesides
import Derived.Deep.AppendSrc
import Derived.Deep.DeepAppendRoom
import Derived.Laws.IdiomStrings
import Derived.Laws.AppendOwnNone
namespace Go.Proofs.Ytomiefhfkdfgbaa
open Go.RowKit

theorem Try.own : ownKnob Try.prog.godebug = none := by kernel_rfl
theorem Try.laidOut : laidOutB Try.prog = true := by kernel_rfl
theorem Try.infoU8 : (Try.prog.info? 5).map (fun i => (i.zero, i.size, i.bytes)) = some (some (.int .u8 0), 1, 1) := by kernel_rfl

/-- the cells of some bytes -/
def cs (l : List UInt8) : List Value := l.map fun b => Value.int .u8 (b.toNat : Int)
theorem cs_length (l : List UInt8) : (cs l).length = l.length := by simp [cs]
theorem cs_append (l m : List UInt8) : cs (l ++ m) = cs l ++ cs m := by simp [cs]
theorem cs_one (l : List UInt8) : ∀ u ∈ cs l, u.oneCell' = true := by
  intro u hu
  obtain ⟨_, _, rfl⟩ := List.mem_map.1 hu
  rfl
theorem cs_get (l : List UInt8) (j : Nat) (h : j < l.length) : (cs l)[j]? = some (.int .u8 (l[j].toNat : Int)) := by simp [cs, h]

/-- A SLICE THAT HOLDS BYTES in the world w: nil and none, or an address behind which they lie. -/
def Holds (w : World) (a : Option Addr) (cap : Nat) (l : List UInt8) : Prop :=
  l.length ≤ cap ∧ (a = none → l = [] ∧ cap = 0) ∧ ∀ ad, a = some ad → ∀ j u, (cs l)[j]? = some u → w.cell? (ad.add j) = some u

theorem Holds.nil (w : World) : Holds w none 0 [] := ⟨by simp, fun _ => ⟨rfl, rfl⟩, fun ad h => by cases h⟩

theorem cell_block {w : World} {p : Addr} {v : Value} (h : w.cell? p = some v) : p.block < w.heap.size := by
  rcases Nat.lt_or_ge p.block w.heap.size with h' | h'
  · exact h'
  · exfalso
    have e : w.heap[p.block]? = none := by simp [h']
    simp [World.cell?, e] at h

theorem Holds.below {w w' : World} {a : Option Addr} {cap : Nat} {l : List UInt8} (h : Holds w a cap l) (hb : Below w.heap.size w w') : Holds w' a cap l :=
  ⟨h.1, h.2.1, fun ad ha j u hu => by
    have hc := h.2.2 ad ha j u hu
    rw [hb.cell (cell_block hc)]
    exact hc⟩

theorem Holds.cell {w : World} {b o cap : Nat} {l : List UInt8} (h : Holds w (some ⟨b, o, none⟩) cap l) (j : Nat) (hj : j < l.length) : w.cell? ⟨b, o + j, none⟩ = some (.int .u8 (l[j].toNat : Int)) := by
  have := h.2.2 _ rfl j _ (cs_get l j hj)
  simpa [Addr.add_lit] using this

theorem Holds.addr {w : World} {a : Option Addr} {cap : Nat} {l : List UInt8} (h : Holds w a cap l) (hl : 0 < l.length) : ∃ b o, a = some ⟨b, o, none⟩ := by
  cases a with
  | none => have := (h.2.1 rfl).1; subst this; simp at hl
  | some ad =>
    have hc := h.2.2 ad rfl 0 _ (cs_get l 0 hl)
    obtain ⟨b, o, sp⟩ := ad
    have : sp = none := by simpa [Addr.add] using World.cell?_spot hc
    subst this
    exact ⟨b, o, rfl⟩

theorem Holds.drew {w : World} {a : Option Addr} {cap : Nat} {l : List UInt8} (h : Holds w a cap l) : Holds w.drew a cap l := ⟨h.1, h.2.1, fun ad ha j u hu => by simpa using h.2.2 ad ha j u hu⟩
theorem Holds.take {w : World} {a : Option Addr} {cap : Nat} {l : List UInt8} (h : Holds w a cap l) (k : Nat) : Holds w a cap (l.take k) := by
  refine ⟨Nat.le_trans (by simp; omega) h.1, fun ha => ?_, fun ad ha j u hu => h.2.2 ad ha j u ?_⟩
  · obtain ⟨rfl, hc⟩ := h.2.1 ha
    exact ⟨by simp, hc⟩
  · have hj : j < k := by
      have := (List.getElem?_eq_some_iff.1 hu).1
      rw [cs_length, List.length_take] at this; omega
    simp only [cs, List.map_take] at hu
    rw [List.getElem?_take, if_pos hj] at hu
    exact hu

/-- a row of the call's own, of bytes -/
abbrev Own (w : World) (base g n cap : Nat) (l : List UInt8) : Prop := w.ownsRow base 5 1 (.slice (some ⟨g, 0, none⟩) n cap) n (cs l)

theorem Own.len {w : World} {base g n cap : Nat} {l : List UInt8} (h : Own w base g n cap l) : l.length = n := by
  have := h.1; rw [cs_length] at this; omega

theorem Own.parts {w : World} {base g n cap : Nat} {l : List UInt8} (h : Own w base g n cap l) :
    base ≤ g ∧ g < w.heap.size ∧ n ≤ cap ∧ ∀ j u, (cs l)[j]? = some u → w.cell? ⟨g, j, none⟩ = some u := by
  rcases h.2 with ⟨h0, _⟩ | ⟨g', cap', cur, hv, hbg, hg, hnc, hcm, hcs, htake⟩
  · cases h0
  · cases hv
    have hgs : g < w.heap.size := by
      rcases Nat.lt_or_ge g w.heap.size with h' | h'
      · exact h'
      · simp [h'] at hg
    refine ⟨hbg, hgs, hnc, fun j u hu => ?_⟩
    have hj : j < n * 1 := by
      have := (List.getElem?_eq_some_iff.1 hu).1
      rw [cs_length, Own.len h] at this; omega
    rw [← htake, List.getElem?_take, if_pos hj] at hu
    simp [World.cell?, hg]
    simpa using hu

theorem Own.holds {w : World} {base g n cap : Nat} {l : List UInt8} (h : Own w base g n cap l) : Holds w (some ⟨g, 0, none⟩) cap l := by
  obtain ⟨_, _, hnc, hc⟩ := h.parts
  refine ⟨by rw [h.len]; exact hnc, fun h => (by cases h), fun ad ha j u hu => ?_⟩
  cases ha
  simpa [Addr.add_lit] using hc j u hu

/-- a string of bytes -/
abbrev str (l : List UInt8) : Value := .string ⟨l.toArray⟩

theorem ret_bool {a b : Bool} (h : a = b) : Ending.returned (.bool a) = .returned (.bool b) := by rw [h]
theorem ret_int {k : IntKind} {a b : Int} (h : a = b) : Ending.returned (.int k a) = .returned (.int k b) := by rw [h]
theorem holds_new (w : World) (l : List UInt8) (A : Array Value) (t : TypeId) (hA : A.toList = cs l) : Holds (w.alloc (.cells A t)) (some ⟨w.heap.size, 0, none⟩) l.length l := by
  refine ⟨Nat.le_refl _, fun h => (by cases h), fun ad had j u hu => ?_⟩
  cases had
  rw [← hA] at hu
  rw [Addr.add_lit, Nat.zero_add]
  simpa using hu

theorem below_alloc (w : World) (o : Obj) : Below w.heap.size w (w.alloc o) := (Below.refl _ _).alloc (Nat.le_refl _) o
/-- one step behind another: what the later one's own start says is more than enough -/
theorem Below.then {w w1 w2 : World} (h1 : Below w.heap.size w w1) (h2 : Below w1.heap.size w1 w2) : Below w.heap.size w w2 := h1.trans (h2.mono h1.size)

theorem own_new (w : World) (l : List UInt8) (A : Array Value) (hA : A.toList = cs l) (hm : l.length ≤ maxLen) : Own (w.alloc (.cells A 5)) w.heap.size w.heap.size l.length l.length l := by
  have hs : A.size = l.length := by rw [← Array.length_toList, hA, cs_length]
  exact ⟨by rw [cs_length]; omega, .inr ⟨w.heap.size, l.length, A, rfl, Nat.le_refl _, heap_alloc_new w _, Nat.le_refl _, hm, by omega, by rw [hA, Nat.mul_one, ← cs_length l]; exact List.take_length⟩⟩

theorem Own.base_le {w : World} {base g n cap : Nat} {l : List UInt8} (h : Own w base g n cap l) : base ≤ w.heap.size := Nat.le_trans h.parts.1 (Nat.le_of_lt h.parts.2.1)

end Go.Proofs.Ytomiefhfkdfgbaa
