/-
  The walk of MacKeys: a principal's key is the document's.
-/
import Derived.Test.YtmdeielcoomeeaaDoorMLive
import Derived.Test.YtmdeielcoomeeaaDoorMKey
namespace Go.Proofs.YtmdeielcoomeeaaDoor
open Go.RowKit

set_option maxRecDepth 100000 in
set_option maxHeartbeats 1600000 in
theorem macKeys_walk (x : Int) (l : List UInt8) (w : World) (hL : Laid w) (x0 : -9223372036854775808 ≤ x) (x1 : x ≤ 9223372036854775807) (_ : l.length ≤ 140737488351232) :
    Calls Tryd.prog 4 #[.int .i64 x, str l] w fun e w' => e = .returned (.bool true) ∧ Below w.heap.size w w' := by
  have hsz : (⟨l.toArray⟩ : ByteArray).size = l.length := by simp [ByteArray.size]
  by_cases h : l.length ≤ 5000
  · have q0 : ¬ (5000 : Int) < (l.length : Int) := by omega
    have lD := Mm.pkey_length x l
    have hE := equalIn32 (Mm.pkey x l) (Mm.pkey x l) lD lD
    rw [beq_self_eq_true] at hE
    go_enter Tryd.func4, Tryd.ntmps4
    go_wp2_with fail
    refine (key_any x l w hL x0 x1 (by omega)).mono ?_
    rintro _ w1 ⟨rfl, b1⟩
    go_wp2_with fail
    refine (rkey_any x l w1 x0 x1 (by omega)).mono ?_
    rintro _ w2 ⟨rfl, b2⟩
    have B2 := Below.then b1 b2
    generalize Mm.pkey x l = D at hE ⊢
    go_wp2_with fail
    refine (live_any w2 (hL.below B2)).mono ?_
    rintro _ w3 ⟨rfl, b3⟩
    go_wp2_with fail
    go_ret
    exact ⟨rfl, Below.then B2 b3⟩
  · have q0 : (5000 : Int) < (l.length : Int) := by omega
    go_enter Tryd.func4, Tryd.ntmps4
    go_wp2_with fail
    refine (live_any w hL).mono ?_
    rintro _ w3 ⟨rfl, b3⟩
    go_wp2_with fail
    go_ret
    exact ⟨rfl, b3⟩
end Go.Proofs.YtmdeielcoomeeaaDoor
