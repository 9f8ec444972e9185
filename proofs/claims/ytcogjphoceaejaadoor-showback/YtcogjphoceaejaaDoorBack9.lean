/-
  ShowBack: its walk.
-/
import Derived.Test.YtcogjphoceaejaaDoorAgain9
import Derived.Test.YtcogjphoceaejaaDoorOp9
namespace Go.Proofs.YtcogjphoceaejaaDoor
open Go.RowKit Go.Lib Go.Shelf

theorem prog_text {l : List Ru} {s : List UInt8} (hs : Sh.progS l = .ok s) : s.length ≤ 4096 := by
  unfold Sh.progS at hs
  split at hs
  · cases hs
  · split at hs
    · cases hs
    · split at hs
      · cases hs
      · cases hs; omega
theorem prog_err_ne9 {l : List Ru} {e : Int} (hs : Sh.progS l = .error e) : e ≠ 0 := by
  unfold Sh.progS at hs
  split at hs
  · cases hs; decide
  · split at hs
    · cases hs; decide
    · split at hs
      · cases hs; decide
      · cases hs

set_option maxRecDepth 100000 in
set_option maxHeartbeats 2000000 in
theorem showBack_walk (a : Option Addr) (c : Nat) (xs : List Rv) (w : World) (hL : Laid w) (hx : Row rK w a c xs) (ax : ∀ x ∈ xs, Rv.Aw w x) (nx : ∀ x ∈ xs, Sh.RIn x.r ∧ TxR x) :
    Calls Tryd.prog 5 #[.slice a xs.length c] w fun e w' => e = .returned (.bool true) ∧ Below w.heap.size w w' := by
  have LV := hideP live9_at
  have rw0 : Rws w a c xs := ⟨hx, ax⟩
  have hin : ∀ x ∈ xs, Sh.RIn x.r := fun x h => (nx x h).1
  have T2 := hideP (fun (W : World) (h : Below w.heap.size w W) => showProgram_at a c xs W (hL.below h) (rw0.below h) hin)
  have few := hx.few
  go_enter Tryd.func5, Tryd.ntmps5
  go_wp2_with fail
  refine (rweight_at a c xs 300 w hx ax).mono ?_
  rintro e w1 ⟨⟨r, rfl⟩, g1⟩
  have B1 : Below w.heap.size w w1 := g1.below
  by_cases hr : r > 300
  · go_wp2_with fail
    refine (LV.out _ (hL.below B1)).mono ?_
    rintro e w2 ⟨rfl, b2⟩
    go_wp2_with fail
    go_ret
    exact ⟨rfl, Below.then B1 b2⟩
  clear g1
  go_wp2_with fail
  refine (T2.out w1 B1).mono ?_
  rintro e w2 ⟨rfl, b2⟩
  have B2 := Below.then B1 b2
  clear T2
  cases hs : Sh.progS (xs.map Rv.r) with
  | error er =>
    have q1 : (er != 0) = true := by simpa using prog_err_ne9 hs
    simp only [pv]
    clear hs
    go_wp2_with fail
    refine (LV.out _ (hL.below B2)).mono ?_
    rintro e w3 ⟨rfl, b3⟩
    go_wp2_with fail
    go_ret
    exact ⟨rfl, Below.then B2 b3⟩
  | ok s =>
    have hp := Sh.prog_shown (fun r hr => by
      obtain ⟨x, hx, rfl⟩ := List.mem_map.1 hr
      exact hin x hx) hs
    have hsl := prog_text hs
    have T3 := hideP (fun W (h : Laid W) => pprog_ok hp W (by omega) h)
    simp only [pv]
    rw [List.length_map] at T3
    clear hs hp
    go_wp2_with fail
    refine (T3.out w2 (hL.below B2)).mono ?_
    rintro e w3 ⟨⟨a3, c3, rfl, r3⟩, b3⟩
    have B3 := Below.then B2 b3
    have K : Hid (Calls Tryd.prog 15 #[.slice a3 xs.length c3, .slice a xs.length c] w3 fun e w' => e = .returned (.bool true) ∧ Below w3.heap.size w3 w') := by
      obtain ⟨ys, f1, f2, f3⟩ := r3.rws
      have := rlike_rws f3 (rw0.below B3) f2
      rw [f1] at this
      exact this
    clear T3 r3
    go_wp2_with fail
    refine K.out.mono ?_
    rintro e w5 ⟨rfl, b5⟩
    have B5 := Below.then B3 b5
    go_wp2_with fail
    refine (LV.out w5 (hL.below B5)).mono ?_
    rintro e w6 ⟨rfl, b6⟩
    go_wp2_with fail
    go_ret
    exact ⟨rfl, Below.then B5 b6⟩
end Go.Proofs.YtcogjphoceaejaaDoor
