/-
  The contract of the statements' own look at the document's examples: it is true, in whatever memory; nothing that was there turns.
-/
import Derived.Test.YtmgddkijheaknaaPut
import Derived.Test.YtmgddkijheaknaaRead
import Derived.Test.YtmgddkijheaknaaHex
namespace Go.Proofs.Ytmgddkijheaknaa
open Go.RowKit

theorem holds_new (w : World) (l : List UInt8) (A : Array Value) (t : TypeId) (hA : A.toList = cs l) : Holds (w.alloc (.cells A t)) (some ⟨w.heap.size, 0, none⟩) l.length l := by
  refine ⟨Nat.le_refl _, fun h => (by cases h), fun ad had j u hu => ?_⟩
  cases had
  rw [← hA] at hu
  rw [Addr.add_lit, Nat.zero_add]
  simpa using hu

theorem int_at (a : Option Addr) (n c : Nat) (l : List UInt8) (x : Int) (w : World) (hn : l.length = n) (ha : Holds w a c l) (hm : n ≤ maxLen) (h0 : -9223372036854775808 ≤ x) (h1 : x ≤ 9223372036854775807) :
    Calls Try.prog 17 #[.slice a n c, .int .i64 x] w fun e w' => e = .returned (three (Pm.rd l x)) ∧ w = w' := by
  subst hn
  exact int_any a c l x w ha hm h0 h1
theorem putInt_at (a : Option Addr) (n c : Nat) (l : List UInt8) (x : Int) (w : World) (hn : l.length = n) (ha : Holds w a c l) (hr : n + 10 ≤ 281474976710656) (h0 : -9223372036854775808 ≤ x) (h1 : x ≤ 9223372036854775807) :
    Calls Try.prog 11 #[.slice a n c, .int .i64 x] w fun e w' =>
      e = .returned (.slice (some ⟨w.heap.size, 0, none⟩) (l ++ Pm.vb (Pm.tb x)).length (n + 10)) ∧ Own w' w.heap.size w.heap.size (l ++ Pm.vb (Pm.tb x)).length (n + 10) (l ++ Pm.vb (Pm.tb x)) ∧ Below w.heap.size w w' := by
  subst hn
  exact putInt_any a c l x w ha hr h0 h1
theorem same_at (a b : Option Addr) (n m ca cb : Nat) (l k : List UInt8) (w : World) (hl : l.length = n) (hk : k.length = m) (ha : Holds w a ca l) (hb : Holds w b cb k) :
    Calls Try.prog 10 #[.slice a n ca, .slice b m cb] w fun e w' => e = .returned (.bool (l == k)) ∧ w = w' := by
  subst hl hk
  exact same_any a b ca cb l k w ha hb
theorem hex_at (a : Option Addr) (n c : Nat) (l : List UInt8) (w : World) (hn : l.length = n) (ha : Holds w a c l) (hr : 2 * n ≤ 281474976710656) :
    Calls Try.prog 25 #[.slice a n c] w fun e w' => e = .returned (str (Pm.hexOf l)) ∧ Below w.heap.size w w' := by
  subst hn
  exact hex_any a c l w ha hr

theorem putInt_ex (a : Option Addr) (n c m : Nat) (l k : List UInt8) (x : Int) (w : World) (hn : l.length = n) (ha : Holds w a c l) (hr : n + 10 ≤ 281474976710656) (h0 : -9223372036854775808 ≤ x) (h1 : x ≤ 9223372036854775807)
    (hk : l ++ Pm.vb (Pm.tb x) = k) (hm : k.length = m) :
    Calls Try.prog 11 #[.slice a n c, .int .i64 x] w fun e w' => ∃ g cap, e = .returned (.slice (some ⟨g, 0, none⟩) m cap) ∧ Own w' w.heap.size g m cap k ∧ Below w.heap.size w w' := by
  subst hk hm
  exact (putInt_at a n c l x w hn ha hr h0 h1).mono fun e w' ⟨he, ho, hb⟩ => ⟨_, _, he, ho, hb⟩

theorem below_alloc (w : World) (o : Obj) : Below w.heap.size w (w.alloc o) := (Below.refl _ _).alloc (Nat.le_refl _) o
/-- one step behind another: what the later one's own start says is more than enough -/
theorem Below.then {w w1 w2 : World} (h1 : Below w.heap.size w w1) (h2 : Below w1.heap.size w1 w2) : Below w.heap.size w w2 := h1.trans (h2.mono h1.size)

theorem ex1 : Pm.rd [128, 0] 0 = (0, 0, 11) := by decide
theorem ex2 : [] ++ Pm.vb (Pm.tb (-1)) = [1] := by rw [show Pm.tb (-1) = 1 from rfl, Pm.vb_lt (by omega)]; rfl
theorem ex3 : [] ++ Pm.vb (Pm.tb 64) = [128, 1] := by rw [show Pm.tb 64 = 128 from rfl, Pm.vb_ge (by omega), Pm.vb_lt (by omega)]; rfl
theorem ex4 : Pm.hexOf [10, 255] = [48, 97, 102, 102] := by decide

set_option maxRecDepth 100000 in
set_option maxHeartbeats 800000 in
theorem live_any (w : World) : Calls Try.prog 16 #[] w fun e w' => e = .returned (.bool true) ∧ Below w.heap.size w w' := by
  go_enter Try.func16, Try.ntmps16
  go_wp2_with fail
  refine (int_at _ 2 2 [128, 0] 0 _ rfl (holds_new w [128, 0] _ _ rfl) (by unfold maxLen; omega) (by omega) (by omega)).mono ?_
  rintro e w1 ⟨rfl, rfl⟩
  rw [ex1]
  go_wp2_with fail
  refine (putInt_ex none 0 0 1 [] [1] (-1) _ rfl (Holds.nil _) (by omega) (by omega) (by omega) ex2 rfl).mono ?_
  rintro e w1 ⟨g1, c1, rfl, ho1, hb1⟩
  have B1 := Below.then (below_alloc w _) hb1
  clear hb1
  go_wp2_with fail
  refine (same_at (some ⟨g1, 0, none⟩) (some ⟨w1.heap.size, 0, none⟩) 1 1 c1 1 [1] [1] (w1.alloc (.cells #[.int .u8 1] 5)) rfl rfl (ho1.holds.below (below_alloc _ _)) (holds_new w1 [1] #[.int .u8 1] 5 rfl)).mono ?_
  rintro e w2 ⟨rfl, rfl⟩
  rw [show (([1] : List UInt8) == [1]) = true from rfl]
  have B2 := Below.then B1 (below_alloc w1 (.cells #[.int .u8 1] 5))
  go_wp2_with fail
  refine (putInt_ex none 0 0 2 [] [128, 1] 64 _ rfl (Holds.nil _) (by omega) (by omega) (by omega) ex3 rfl).mono ?_
  rintro e w3 ⟨g3, c3, rfl, ho3, hb3⟩
  have B3 := Below.then B2 hb3
  clear hb3 ho1 B1 B2
  go_wp2_with fail
  refine (same_at (some ⟨g3, 0, none⟩) (some ⟨w3.heap.size, 0, none⟩) 2 2 c3 2 [128, 1] [128, 1] (w3.alloc (.cells #[.int .u8 128, .int .u8 1] 5)) rfl rfl (ho3.holds.below (below_alloc _ _)) (holds_new w3 [128, 1] #[.int .u8 128, .int .u8 1] 5 rfl)).mono ?_
  rintro e w4 ⟨rfl, rfl⟩
  rw [show (([128, 1] : List UInt8) == [128, 1]) = true from rfl]
  have B4 := Below.then B3 (below_alloc w3 (.cells #[.int .u8 128, .int .u8 1] 5))
  clear ho3 B3
  generalize w3.alloc (.cells #[.int .u8 128, .int .u8 1] 5) = W4 at *
  go_wp2_with fail
  refine (hex_at (some ⟨W4.heap.size, 0, none⟩) 2 2 [10, 255] (W4.alloc (.cells #[.int .u8 10, .int .u8 255] 5)) rfl (holds_new W4 [10, 255] #[.int .u8 10, .int .u8 255] 5 rfl) (by omega)).mono ?_
  rintro e w5 ⟨rfl, hb5⟩
  rw [ex4]
  have B5 := Below.then (Below.then B4 (below_alloc _ _)) hb5
  clear hb5 B4
  go_wp2
  go_ret
  exact ⟨rfl, B5⟩
end Go.Proofs.Ytmgddkijheaknaa
