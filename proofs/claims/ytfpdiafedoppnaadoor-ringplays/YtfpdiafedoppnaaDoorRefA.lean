/-
  The document's own sum, by definition: the contracts of its small parts: what turns bits, the rounds' words.
-/
import Derived.Test.YtfpdiafedoppnaaDoorAt
import Derived.Test.YtfpdiafedoppnaaDoorEql
import Derived.Deep.RegionHeld3
namespace Go.Proofs.YtfpdiafedoppnaaDoor
open Go.RowKit

set_option maxHeartbeats 400000 in
theorem refRot_any (x : Sm.Wd) (n : Nat) (w : World) (h0 : 0 < n) (h1 : n < 32) :
    Calls Tryd.prog 52 #[wv x, .int .u64 (n : Int)] w fun e w' => e = .returned (wv (Sm.rotr x n)) ∧ w = w' := by
  obtain ⟨m, hm⟩ : ∃ m, n + m = 32 := ⟨32 - n, by omega⟩
  have k0 : (0 : Int) ≤ (n : Int) := by omega
  have k1 : (n : Int) ≤ 31 := by omega
  have k3 : (x.toNat : Int) ≤ 4294967295 := by have := Sm.lt' x; omega
  have k4 : (32 : Int) - (n : Int) = (m : Int) := by omega
  have k5 : (m : Int) ≤ 31 := by omega
  have HM : Hid (n + m = 32) := hm
  clear hm
  go_enter Tryd.func52, Tryd.ntmps52
  go_wp2
  go_ret
  refine ⟨ret_int ?_, rfl⟩
  have h2 := HM.out
  rw [Sm.shl_eq', Sm.shr_eq, Sm.or_eq, Sm.rotr_def, BitVec.or_comm, show 32 - n = m by omega]
theorem refRot_at (x : Sm.Wd) (k : Int) (w : World) (h0 : 0 < k) (h1 : k < 32) :
    Calls Tryd.prog 52 #[wv x, .int .u64 k] w fun e w' => e = .returned (wv (Sm.rotr x k.toNat)) ∧ w' = w := by
  obtain ⟨n, rfl⟩ : ∃ n : Nat, k = (n : Int) := ⟨k.toNat, by omega⟩
  exact (refRot_any x n w (by omega) (by omega)).mono fun e w' ⟨h, h'⟩ => ⟨by rw [h]; rfl, h'.symm⟩

set_option maxRecDepth 100000 in
set_option maxHeartbeats 800000 in
theorem rounds_any (w : World) : Calls Tryd.prog 50 #[] w fun e w' => e = .returned (wa Sm.mix) ∧ Below w.heap.size w w' := by
  have iW : (Tryd.prog.info? 92).map (·.size) = some (ws Sm.mix).length := Tryd.infoWords
  have oW := ws_one Sm.mix
  go_enter Tryd.func50, Tryd.ntmps50
  go_wp2_with (refine wpList_store_new rfl 92 _ _ rfl w.heap.size rfl (ws Sm.mix) rfl (by kernel_rfl) rfl iW oW ?_)
  exact bodyPost_ret (results_cell (b := w.heap.size) (o := 0) (cs := ws Sm.mix) rfl rfl (rangeAt_new _ _ _ _ (by simp)) Tryd.underlying92 rfl iW) rfl ⟨rfl, below_alloc _ _⟩

end Go.Proofs.YtfpdiafedoppnaaDoor
