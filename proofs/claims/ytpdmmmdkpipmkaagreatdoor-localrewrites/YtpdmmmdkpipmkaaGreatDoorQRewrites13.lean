/-
  LocalRewrites: its walk.
-/
import Derived.Test.YtpdmmmdkpipmkaaGreatDoorQOp0
import Derived.Test.YtpdmmmdkpipmkaaGreatDoorQRr13
import Derived.Test.YtpdmmmdkpipmkaaGreatDoorQFrame
import Derived.Test.YtpdmmmdkpipmkaaGreatDoorQWt0
namespace Go.Proofs.YtpdmmmdkpipmkaaGreatDoor
open Go.RowKit Go.Lib Go.Shelf

theorem rows_few {xs : List Rv} {w : World} {a : Option Addr} {c : Nat} {m : Nat} (h : Row rK w a c xs) (hA : ∀ y ∈ xs, Rv.Ao m w y) : Rws w a c xs := ⟨h, fun x hx => (hA x hx).aw⟩

set_option maxRecDepth 100000 in
set_option maxHeartbeats 1000000 in
theorem localRewrites_walk (a : Option Addr) (c : Nat) (xs : List Rv) (w : World) (hL : Laid w) (hx : Row rK w a c xs) (ax : ∀ x ∈ xs, Rv.Aw w x) (nx : ∀ x ∈ xs, Sh.RIn x.r ∧ TxR x ∧ TxV x.r) :
    Calls Tryz.prog 3 #[.slice a xs.length c] w fun e w' => e = .returned (.bool true) ∧ Below w.heap.size w w' := by
  have LV := hideP live13_at
  have rw0 : Rws w a c xs := ⟨hx, ax⟩
  have hin : ∀ x ∈ xs, Sh.RIn x.r := fun x h => (nx x h).1
  have few := hx.few
  go_enter Tryz.func3, Tryz.ntmps3
  go_wp2_with fail
  refine (rweight_few2 a c xs w hx ax (fun x h => (nx x h).2.1)).mono ?_
  rintro e w1 ⟨⟨r, rfl, hfew⟩, g1⟩
  have B1 : Below w.heap.size w w1 := g1.below
  have HF := hideP hfew
  clear hfew
  by_cases hr : r > 200
  · go_wp2_with fail
    refine (LV.out _ (hL.below B1)).mono ?_
    rintro e w2 ⟨rfl, b2⟩
    go_wp2_with fail
    go_ret
    exact ⟨rfl, Below.then B1 b2⟩
  obtain ⟨hn, hfx⟩ := HF.out (by omega)
  clear g1 HF
  go_wp2_with fail
  refine (rcopy_at a c xs w1 (hx.below B1 (Nat.le_refl _)) (fun x h => (ax x h).below B1 (Nat.le_refl _)) (by omega) (fun x h => (hfx x h).few)).mono ?_
  rintro e w2 ⟨a', c', zs, rfl, row2, each2, hzs, b2⟩
  have B2 := Below.then B1 b2
  have hlen : zs.length = xs.length := by have := congrArg List.length hzs; simpa using this
  have rwz : Rws w2 a' c' zs := ⟨row2, each2⟩
  have hiz : ∀ z ∈ zs, Sh.RIn z.r := fun z hz => by
    have : z.r ∈ xs.map Rv.r := by rw [← hzs]; exact List.mem_map_of_mem hz
    obtain ⟨x, hx, he⟩ := List.mem_map.1 this
    rw [← he]; exact hin x hx
  have T1 := hideP (rewrite_at a' c' zs w2 (hL.below B2) rwz hiz)
  have T2 := hideP (fun W (h : Below w.heap.size w W) => rrewrite_at w.heap.size a c xs W (hx.below h (Nat.le_refl _)) (fun x hxx => (ax x hxx).ao.safe (Kq.below h (Nat.le_refl _))) h.size hin)
  have K := hideP (fun W (h : Below w2.heap.size w2 W) => rlike_rws (rwz.below h) (rw0.below (Below.then B2 h)) hzs)
  rw [hzs] at T1
  unfold RwAns at T1 T2
  generalize hp1 : (Ck.prog (xs.map Rv.r)).1 = p1 at *
  clear hp1
  clear hzs
  rw [hlen] at T1 K ⊢
  clear row2 each2 hiz hfx hr B1 b2
  have Hl := hideP hlen
  clear hlen
  go_wp2_with fail
  refine T1.out.mono ?_
  rintro e w3 ⟨⟨a3, c3, ys, rfl, R3, A3, E3⟩, b3⟩
  have B3 := Below.then B2 b3
  go_wp2_with fail
  refine (T2.out w3 B3).mono ?_
  rintro e w4 ⟨⟨a4, c4, us, rfl, R4, A4, E4⟩, b4⟩
  have B4 := Below.then B3 b4
  have KL := hideP (rlike_rws ((rows_few R3 A3).below b4) (rows_few R4 A4) (E3.trans E4.symm))
  clear E3 E4 T1 T2
  go_wp2_with fail
  refine KL.out.mono ?_
  rintro e w5 ⟨rfl, b5⟩
  have B5 := Below.then B4 b5
  go_wp2_with fail
  refine (K.out w5 (Below.then (Below.then b3 b4) b5)).mono ?_
  rintro e w6 ⟨rfl, b6⟩
  have B6 := Below.then B5 b6
  clear K KL
  go_wp2_with fail
  refine (LV.out w6 (hL.below B6)).mono ?_
  rintro e w7 ⟨rfl, b7⟩
  go_wp2_with fail
  go_ret
  exact ⟨rfl, Below.then B6 b7⟩
end Go.Proofs.YtpdmmmdkpipmkaaGreatDoor
