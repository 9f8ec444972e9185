/-
  The statements' own look at acts: light ones alone are gone on with.
-/
import Derived.Test.YtfpdiafedoppnaaDoorRa
import Derived.Test.YtfpdiafedoppnaaDoorEqual
import Derived.BigQuiet
namespace Go.Proofs.YtfpdiafedoppnaaDoor
open Go.RowKit

def Av.sz (x : Av) : Nat := x.txt.length + x.tag.length + x.dom.length
/-- it says no, or all are light -/
def FewSays (xs : List Av) (e : Ending) : Prop := ∃ d : Bool, e = .returned (.bool d) ∧ (d = true → ∀ x ∈ xs, x.sz ≤ 9000)
theorem FewSays.no (xs : List Av) : FewSays xs (.returned (.bool false)) := ⟨false, rfl, fun h => by cases h⟩
theorem FewSays.yes {xs : List Av} (h : ∀ x ∈ xs, x.sz ≤ 9000) : FewSays xs (.returned (.bool true)) := ⟨true, rfl, fun _ => h⟩

set_option maxRecDepth 100000 in
set_option maxHeartbeats 1600000 in
theorem few6 (w : World) (a : Option Addr) (c n : Nat) (xs : List Av) (hn : xs.length = n) (h : Row aK w a c xs) (hat : ∀ x ∈ xs, Av.At w x) :
    Calls Tryd.prog 17 #[.slice a n c] w fun e w' => FewSays xs e ∧ Below w.heap.size w w' := by
  subst hn
  have few := h.few
  go_enter Tryd.func17, Tryd.ntmps17
  go_wp2_with fail
  go_loopw [3, 4] (fun u v wr => ∃ k m : Nat, u = .int .i64 (m : Int) ∧ v = .int .i64 (k : Int) ∧ k ≤ xs.length ∧ m ≤ 200 ∧ Hid (∀ i (h : i < xs.length), i < k → xs[i].sz ≤ 9000) ∧ Below w.heap.size w wr) (fun _ v _ => xs.length - (intOf v).toNat)
  case atStart => exact ⟨0, 0, rfl, rfl, by omega, by omega, hideP (fun i _ h => absurd h (by omega)), Below.refl _ _⟩
  case round =>
    obtain ⟨k, m, rfl, rfl, hk, hm, hall, hbel⟩ := hrel
    by_cases hlt : k < xs.length
    · have q0 : (k : Int) < (xs.length : Int) := by omega
      obtain ⟨b, o, rfl⟩ := h.addr (by omega)
      have rr := (h.below hbel (Nat.le_refl _)).range k hlt
      have hA := hat xs[k] (List.getElem_mem hlt)
      have HS : Hid (xs[k].sz ≤ 9000 → ∀ i (h : i < xs.length), i < k + 1 → xs[i].sz ≤ 9000) := hideP fun h1 i hi hik => by
        by_cases e : i = k
        · subst e; exact h1
        · exact hall.out i hi (by omega)
      have l1 := hA.lt; have l2 := hA.lg; have l3 := hA.ld
      generalize xs[k] = x at *
      have c2 : wr.cell? ⟨b, o + k * 5 + 2, none⟩ = some (str x.dom) := rr 2 _ rfl
      have c3 : wr.cell? ⟨b, o + k * 5 + 3, none⟩ = some (.slice x.ta x.txt.length x.tc) := rr 3 _ rfl
      have c4 : wr.cell? ⟨b, o + k * 5 + 4, none⟩ = some (.slice x.ga x.tag.length x.gc) := rr 4 _ rfl
      have hsz : (⟨x.dom.toArray⟩ : ByteArray).size = x.dom.length := by simp [ByteArray.size]
      clear rr hA
      have hs : x.sz = x.txt.length + x.tag.length + x.dom.length := rfl
      by_cases hn : m + (1 + x.sz / 40) ≤ 200
      · have q1 : ¬ (200 : Int) < (m : Int) + (1 + ((x.txt.length : Int) + (x.tag.length : Int) + (x.dom.length : Int)) / 40) := by rw [hs] at hn; omega
        have HS' := hideP (HS.out (by omega))
        go_wp2_with fail
        go_quiet (fail)
        go_wp2_with fail
        refine ⟨⟨k + 1, m + (1 + x.sz / 40), by rw [hs]; simp, rfl, hlt, hn, HS', Below.then hbel (below_drewN (Below.refl _ _) _)⟩, by simp [intOf]; omega⟩
      · have q1 : (200 : Int) < (m : Int) + (1 + ((x.txt.length : Int) + (x.tag.length : Int) + (x.dom.length : Int)) / 40) := by rw [hs] at hn; omega
        go_wp2_with fail
        go_quiet (fail)
        go_wp2_with fail
        go_ret
        exact ⟨FewSays.no xs, Below.then hbel (below_drewN (Below.refl _ _) _)⟩
    · have q0 : ¬ (k : Int) < (xs.length : Int) := by omega
      have HY : Hid (∀ x ∈ xs, x.sz ≤ 9000) := hideP fun x hx => by
        obtain ⟨i, hi, rfl⟩ := List.getElem_of_mem hx
        exact hall.out i hi (by omega)
      go_wp2_with fail
      go_ret
      exact ⟨FewSays.yes HY.out, hbel⟩
end Go.Proofs.YtfpdiafedoppnaaDoor
