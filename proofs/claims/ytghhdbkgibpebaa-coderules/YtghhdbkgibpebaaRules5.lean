/-
  CodeRules, walked: any rules are laid as the reference lays them, or refused.
-/
import Derived.Test.YtghhdbkgibpebaaCp5
import Derived.Test.YtghhdbkgibpebaaRp3
import Derived.Test.YtghhdbkgibpebaaRs2
import Derived.Test.YtghhdbkgibpebaaLive5
namespace Go.Proofs.Ytghhdbkgibpebaa
open Go.RowKit Go.Sort

set_option maxRecDepth 100000 in
set_option maxHeartbeats 4000000 in
theorem codeRules_walk (a : Option Addr) (c : Nat) (xs : List Rv) (w : World) (hx : Row rK w a c xs) (ax : ∀ x ∈ xs, Rv.At w x) (nx : ∀ x ∈ xs, RIn x.r ∧ TxR x) :
    Calls Try.prog 4 #[.slice a xs.length c] w fun e w' => e = .returned (.bool true) ∧ Below w.heap.size w w' := by
  have mixed : Try.prog.follows .mixedOrders = true := by kernel_rfl
  have hV := fun W => live5_at W
  go_enter Try.func4, Try.ntmps4
  go_wp2_with fail
  refine (rweight_few a c xs w hx ax (fun x h => (nx x h).2)).mono ?_
  rintro e w1 ⟨⟨r, rfl, hfew⟩, g1⟩
  have B1 : Below w.heap.size w w1 := g1.below
  by_cases hr : 600 < r
  · clear hfew
    go_wp2_with fail
    refine (hV _).mono ?_; rintro e w2 ⟨rfl, b2⟩
    go_wp2_with fail
    go_ret
    exact ⟨rfl, Below.then B1 b2⟩
  obtain ⟨hn, hfx⟩ := hfew hr
  clear g1
  go_wp2_with fail
  refine (rcopy_at a c xs w1 (hx.below B1 (Nat.le_refl _)) (fun x h => (ax x h).below B1 (Nat.le_refl _)) hn hfx).mono ?_
  rintro e w2 ⟨a', c', zs, rfl, row2, each2, hzs, b2⟩
  have B2 := Below.then B1 b2
  have hlen : zs.length = xs.length := by have := congrArg List.length hzs; simpa using this
  have hri : ∀ z ∈ zs, RIn z.r := fun z hz => by
    have : z.r ∈ xs.map Rv.r := by rw [← hzs]; exact List.mem_map_of_mem hz
    obtain ⟨x, hx, he⟩ := List.mem_map.1 this
    rw [← he]; exact (nx x hx).1
  have hall : (zs.all fun x => mayR x.r) = (xs.all fun x => mayR x.r) := by
    have h1 : (zs.map Rv.r).all mayR = zs.all fun x => mayR x.r := by rw [List.all_map]; rfl
    have h2 : (xs.map Rv.r).all mayR = xs.all fun x => mayR x.r := by rw [List.all_map]; rfl
    rw [← h1, ← h2, hzs]
  have hE := encode5_at a' c' zs w2 row2 each2 hri
  rw [hall, hlen, hzs] at hE
  have hD := fun W (h : Below w.heap.size w W) => rencode_at a c xs W (hx.below h (Nat.le_refl _)) (fun x hx => (ax x hx).below h (Nat.le_refl _)) (fun x h => (nx x h).1)
  have hL := fun W (h : Below w2.heap.size w2 W) => rlike_at a' a c' c zs xs W (row2.below h (Nat.le_refl _)) (hx.below (Below.then B2 h) (Nat.le_refl _)) (fun z hz => (each2 z hz).below h (Nat.le_refl _)) (fun x hx => (ax x hx).below (Below.then B2 h) (Nat.le_refl _))
  simp only [(sameRs_iff _ _).2 hzs, hlen] at hL
  rw [hlen]
  generalize encE xs.length (xs.all fun x => mayR x.r) = EE at *
  generalize (if EE = 0 then progB (xs.map Rv.r) else []) = BB at *
  clear hall hri hlen hr hfx hzs row2 each2 b2 B1
  go_wp2_with fail
  refine hE.mono ?_; rintro e w3 ⟨v3, rfl, o3, b3⟩
  have B3 := Below.then B2 b3
  obtain ⟨p3, c3, rfl, X3, _⟩ := o3.holds
  clear hE o3
  go_wp2_with fail
  refine (hD w3 B3).mono ?_; rintro e w4 ⟨v4, rfl, o4, b4⟩
  have B4 := Below.then B3 b4
  obtain ⟨p4, c4, rfl, X4, _⟩ := o4.holds
  clear hD o4
  go_wp2_with fail
  refine (same_at p3 p4 BB.length BB.length c3 c4 BB BB w4 rfl rfl (X3.below b4) X4).mono ?_; rintro e w5 ⟨rfl, rfl⟩
  rw [beq_self_eq_true]
  go_wp2_with fail
  refine (hL w4 (Below.then b3 b4)).mono ?_; rintro e w6 ⟨rfl, b6⟩
  go_wp2_with fail
  refine (hV _).mono ?_; rintro e w7 ⟨rfl, b7⟩
  go_wp2_with fail
  go_ret
  exact ⟨rfl, Below.then (Below.then B4 b6) b7⟩
end Go.Proofs.Ytghhdbkgibpebaa
