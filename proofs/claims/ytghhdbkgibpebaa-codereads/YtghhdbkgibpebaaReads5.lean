/-
  CodeReads, walked: any bytes are read as the reference reads them.
-/
import Derived.Test.YtghhdbkgibpebaaRdd
import Derived.Test.YtghhdbkgibpebaaRs2
import Derived.Test.YtghhdbkgibpebaaLive5
import Derived.Test.YtghhdbkgibpebaaLentKept
namespace Go.Proofs.Ytghhdbkgibpebaa
open Go.RowKit Go.Sort

set_option maxRecDepth 100000 in
set_option maxHeartbeats 4000000 in
theorem codeReads_walk (a : Option Addr) (c : Nat) (l : List UInt8) (w : World) (ha : Holds w a c l) (hr : l.length ≤ 140737488351232) :
    Calls Try.prog 5 #[.slice a l.length c] w fun e w' => e = .returned (.bool true) ∧ Below w.heap.size w w' := by
  have mixed : Try.prog.follows .mixedOrders = true := by kernel_rfl
  have hV := fun W => live5_at W
  have hD1 := fun (g cap : Nat) W (hh : Holds W (some ⟨g, 2, none⟩) cap l) => decode5_at (some ⟨g, 2, none⟩) cap l W hh (by omega)
  have hD2 := fun W (h : Below w.heap.size w W) => rdecode_at a c l W (ha.below h) (by omega)
  have hL := fun W (h : Below w.heap.size w W) => lent_any a c l W (ha.below h) hr
  generalize dR l = D at *
  obtain ⟨rs, er⟩ := D
  simp only at hD1 hD2
  go_enter Try.func5, Try.ntmps5
  by_cases hb : (3000 : Int) < (l.length : Int)
  · go_wp2_with fail
    refine (hV _).mono ?_; rintro e w2 ⟨rfl, b2⟩
    go_wp2_with fail
    go_ret
    exact ⟨rfl, b2⟩
  go_wp2_with fail
  refine (hL _ (Below.refl _ _)).mono ?_; rintro e w2 ⟨g, cap, rfl, L2, hg, b2⟩
  have T2 : Holds w2 (some ⟨g, 2, none⟩) cap l := by have := L2.take l.length; rwa [List.take_left] at this
  clear hL hb hg
  go_wp2_with fail
  refine (hD1 g cap w2 T2).mono ?_; rintro e w3 ⟨p3, c3, ys, rfl, Y3, y3, e3, b3⟩
  have B3 := Below.then b2 b3
  have L3 := L2.below b3
  clear b2 b3 L2 T2 hD1
  go_wp2_with fail
  refine (hD2 w3 B3).mono ?_; rintro e w4 ⟨p4, c4, zs, rfl, Z4, z4, e4, b4⟩
  have B4 := Below.then B3 b4
  have L4 := L3.below b4
  have Y4 := Y3.below b4 (Nat.le_refl _)
  have y4 : ∀ y ∈ ys, Rv.At w4 y := fun y hy => (y3 y hy).below b4 (Nat.le_refl _)
  have hK := rlike_at p3 p4 c3 c4 ys zs w4 Y4 Z4 y4 z4
  rw [show sameRs (ys.map Rv.r) (zs.map Rv.r) = true by rw [e3, e4]; exact (sameRs_iff _ _).2 rfl] at hK
  clear B3 b4 L3 Y3 y3 e3 e4 hD2 Y4 Z4 y4 z4
  go_wp2_with fail
  refine hK.mono ?_; rintro e w5 ⟨rfl, b5⟩
  have B5 := Below.then B4 b5
  have L5 := L4.below b5
  clear hK B4 b5 L4
  go_wp2_with fail
  refine (kept_any a g c cap l w5 L5 (ha.below B5) hr).mono ?_; rintro e w6 ⟨rfl, rfl⟩
  go_wp2_with fail
  refine (hV _).mono ?_; rintro e w7 ⟨rfl, b7⟩
  go_wp2_with fail
  go_ret
  exact ⟨rfl, Below.then B5 b7⟩
end Go.Proofs.Ytghhdbkgibpebaa
