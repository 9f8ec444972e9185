/-
  What every walk of layer 1 leans on: a slice that holds bytes, in whatever memory; strings of bytes; facts of this program's types.
-/
import Derived.Test.YtmgddkijheaknaaRows
import Derived.Test.YtmgddkijheaknaaMath
import Derived.WalkKit
import Derived.ProofKit
import Derived.OpenShut
import Derived.ShutString
import Derived.ChangeOld
import Derived.Below
import Derived.WalkSpells
import Derived.WalkLawsBesides
import Derived.Deep.AppendSrc
import Derived.Deep.DeepAppendRoom
import Derived.Laws.IdiomStrings
namespace Go.Proofs.Ytmgddkijheaknaa
open Go.RowKit

theorem Try.own : ownKnob Try.prog.godebug = none := by kernel_rfl
theorem Try.laidOut : laidOutB Try.prog = true := by kernel_rfl
theorem Try.infoU8 : (Try.prog.info? 5).map (fun i => (i.zero, i.size, i.bytes)) = some (some (.int .u8 0), 1, 1) := by kernel_rfl

/-- the cells of some bytes -/
def cs (l : List UInt8) : List Value := l.map fun b => Value.int .u8 (b.toNat : Int)
theorem cs_length (l : List UInt8) : (cs l).length = l.length := by simp [cs]
theorem cs_append (l m : List UInt8) : cs (l ++ m) = cs l ++ cs m := by simp [cs]
theorem cs_one (l : List UInt8) : ∀ u ∈ cs l, u.oneCell' = true := by
  intro u hu
  obtain ⟨_, _, rfl⟩ := List.mem_map.1 hu
  rfl
theorem cs_get (l : List UInt8) (j : Nat) (h : j < l.length) : (cs l)[j]? = some (.int .u8 (l[j].toNat : Int)) := by simp [cs, h]

/-- A SLICE THAT HOLDS BYTES in the world w: nil and none, or an address behind which they lie. -/
def Holds (w : World) (a : Option Addr) (cap : Nat) (l : List UInt8) : Prop :=
  l.length ≤ cap ∧ (a = none → l = [] ∧ cap = 0) ∧ ∀ ad, a = some ad → ∀ j u, (cs l)[j]? = some u → w.cell? (ad.add j) = some u

theorem Holds.nil (w : World) : Holds w none 0 [] := ⟨by simp, fun _ => ⟨rfl, rfl⟩, fun ad h => by cases h⟩

theorem cell_block {w : World} {p : Addr} {v : Value} (h : w.cell? p = some v) : p.block < w.heap.size := by
  rcases Nat.lt_or_ge p.block w.heap.size with h' | h'
  · exact h'
  · exfalso
    have e : w.heap[p.block]? = none := by simp [h']
    simp [World.cell?, e] at h

theorem Holds.below {w w' : World} {a : Option Addr} {cap : Nat} {l : List UInt8} (h : Holds w a cap l) (hb : Below w.heap.size w w') : Holds w' a cap l :=
  ⟨h.1, h.2.1, fun ad ha j u hu => by
    have hc := h.2.2 ad ha j u hu
    rw [hb.cell (cell_block hc)]
    exact hc⟩

theorem Holds.cell {w : World} {b o cap : Nat} {l : List UInt8} (h : Holds w (some ⟨b, o, none⟩) cap l) (j : Nat) (hj : j < l.length) : w.cell? ⟨b, o + j, none⟩ = some (.int .u8 (l[j].toNat : Int)) := by
  have := h.2.2 _ rfl j _ (cs_get l j hj)
  simpa [Addr.add_lit] using this

theorem Holds.addr {w : World} {a : Option Addr} {cap : Nat} {l : List UInt8} (h : Holds w a cap l) (hl : 0 < l.length) : ∃ b o, a = some ⟨b, o, none⟩ := by
  cases a with
  | none => have := (h.2.1 rfl).1; subst this; simp at hl
  | some ad =>
    have hc := h.2.2 ad rfl 0 _ (cs_get l 0 hl)
    obtain ⟨b, o, sp⟩ := ad
    have : sp = none := by simpa [Addr.add] using World.cell?_spot hc
    subst this
    exact ⟨b, o, rfl⟩

theorem Holds.drew {w : World} {a : Option Addr} {cap : Nat} {l : List UInt8} (h : Holds w a cap l) : Holds w.drew a cap l := ⟨h.1, h.2.1, fun ad ha j u hu => by simpa using h.2.2 ad ha j u hu⟩
theorem Holds.take {w : World} {a : Option Addr} {cap : Nat} {l : List UInt8} (h : Holds w a cap l) (k : Nat) : Holds w a cap (l.take k) := by
  refine ⟨Nat.le_trans (by simp; omega) h.1, fun ha => ?_, fun ad ha j u hu => h.2.2 ad ha j u ?_⟩
  · obtain ⟨rfl, hc⟩ := h.2.1 ha
    exact ⟨by simp, hc⟩
  · have hj : j < k := by
      have := (List.getElem?_eq_some_iff.1 hu).1
      rw [cs_length, List.length_take] at this; omega
    simp only [cs, List.map_take] at hu
    rw [List.getElem?_take, if_pos hj] at hu
    exact hu

/-- a row of the call's own, of bytes -/
abbrev Own (w : World) (base g n cap : Nat) (l : List UInt8) : Prop := w.ownsRow base 5 1 (.slice (some ⟨g, 0, none⟩) n cap) n (cs l)

theorem Own.len {w : World} {base g n cap : Nat} {l : List UInt8} (h : Own w base g n cap l) : l.length = n := by
  have := h.1; rw [cs_length] at this; omega

theorem Own.parts {w : World} {base g n cap : Nat} {l : List UInt8} (h : Own w base g n cap l) :
    base ≤ g ∧ g < w.heap.size ∧ n ≤ cap ∧ ∀ j u, (cs l)[j]? = some u → w.cell? ⟨g, j, none⟩ = some u := by
  rcases h.2 with ⟨h0, _⟩ | ⟨g', cap', cur, hv, hbg, hg, hnc, hcm, hcs, htake⟩
  · cases h0
  · cases hv
    have hgs : g < w.heap.size := by
      rcases Nat.lt_or_ge g w.heap.size with h' | h'
      · exact h'
      · simp [h'] at hg
    refine ⟨hbg, hgs, hnc, fun j u hu => ?_⟩
    have hj : j < n * 1 := by
      have := (List.getElem?_eq_some_iff.1 hu).1
      rw [cs_length, Own.len h] at this; omega
    rw [← htake, List.getElem?_take, if_pos hj] at hu
    simp [World.cell?, hg]
    simpa using hu

theorem Own.holds {w : World} {base g n cap : Nat} {l : List UInt8} (h : Own w base g n cap l) : Holds w (some ⟨g, 0, none⟩) cap l := by
  obtain ⟨_, _, hnc, hc⟩ := h.parts
  refine ⟨by rw [h.len]; exact hnc, fun h => (by cases h), fun ad ha j u hu => ?_⟩
  cases ha
  simpa [Addr.add_lit] using hc j u hu

/-- a string of bytes -/
abbrev str (l : List UInt8) : Value := .string ⟨l.toArray⟩

/-- []byte to string -/
theorem conv {w : World} {a : Option Addr} {cap : Nat} {l : List UInt8} (h : Holds w a cap l) :
    (convert 22 9 (.slice a l.length cap)).run Try.prog w = .ok (str l) w := by
  cases a with
  | none =>
    obtain ⟨rfl, rfl⟩ := h.2.1 rfl
    rw [run_convert_bytes_string w _ _ _ _ _ _ Try.underlying22 Try.underlying5 Try.underlying9]
    simp [Conv.bytesToString]
    rfl
  | some ad =>
    exact run_convert_bytes_back w _ _ _ ad cap l Try.underlying22 Try.underlying5 Try.underlying9 fun j hj => h.2.2 ad rfl j _ (cs_get l j hj)

theorem ret_bool {a b : Bool} (h : a = b) : Ending.returned (.bool a) = .returned (.bool b) := by rw [h]
theorem ret_int {k : IntKind} {a b : Int} (h : a = b) : Ending.returned (.int k a) = .returned (.int k b) := by rw [h]
end Go.Proofs.Ytmgddkijheaknaa
