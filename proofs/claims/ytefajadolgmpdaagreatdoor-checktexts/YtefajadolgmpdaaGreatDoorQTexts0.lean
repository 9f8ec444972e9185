/-
  CheckTexts: its walk.
-/
import Derived.Test.YtefajadolgmpdaaGreatDoorQLv0
import Derived.Test.YtefajadolgmpdaaGreatDoorQRp0
namespace Go.Proofs.YtefajadolgmpdaaGreatDoor
open Go.RowKit Go.Lib Go.Shelf

theorem parsed_ref {l : List UInt8} {r : List Ru} (hp : Ps.prog l = .ok r) (W : World) (a : Option Addr) (n c : Nat) (hr : RowsAt W r (.slice a n c)) :
    Calls Tryz.prog 13 #[.slice a n c] W fun e w' => e = .returned (ansV (Ck.prog r)) ∧ Below W.heap.size W w' := by
  obtain ⟨xs, rfl, h2, h3⟩ := hr.rws
  rw [← h2]
  exact rprogram10_at a c xs W h3 (map_in h2 (Sh.prog_good hp).1)

set_option maxRecDepth 100000 in
set_option maxHeartbeats 1000000 in
theorem checkTexts_walk (l : List UInt8) (w : World) (hL : Laid w) (hl : l.length ≤ 140737488351232) :
    Calls Tryz.prog 4 #[str l] w fun e w' => e = .returned (.bool true) ∧ Below w.heap.size w w' := by
  have LV := hideP live10_at
  have T1 := hideP (pprog_any l w (by omega) hL)
  cases hp : Ps.prog l with
  | error x =>
    obtain ⟨p, er⟩ := x
    have q1 : (er != 0) = true := by simpa using prog_err_ne hp
    rw [hp] at T1
    simp only [Ps.rs, Ps.place, Ps.err, List.length_nil] at T1
    clear hp
    go_enter Tryz.func4, Tryz.ntmps4
    go_wp2_with fail
    refine T1.out.mono ?_
    rintro e w1 ⟨⟨a1, c1, rfl, r1⟩, b1⟩
    go_wp2_with fail
    refine (LV.out _ (hL.below b1)).mono ?_
    rintro e w2 ⟨rfl, b2⟩
    go_wp2_with fail
    go_ret
    exact ⟨rfl, Below.then b1 b2⟩
  | ok r =>
    rw [hp] at T1
    simp only [Ps.rs, Ps.place, Ps.err] at T1
    have few := Ps.prog_few hp
    have T2 := hideP (fun W a n c h hr => parsed_rules hp W a n c h hr)
    have T3 := hideP (fun W a n c hr => parsed_ref hp W a n c hr)
    generalize Ck.prog r = p at *
    obtain ⟨p1, p2, p3⟩ := p
    simp only [ansV] at T2 T3
    clear hp
    go_enter Tryz.func4, Tryz.ntmps4
    go_wp2_with fail
    refine T1.out.mono ?_
    rintro e w1 ⟨⟨a1, c1, rfl, r1⟩, b1⟩
    go_wp2_with fail
    refine (T2.out w1 a1 r.length c1 (hL.below b1) r1).mono ?_
    rintro e w2 ⟨rfl, b2⟩
    have B2 := Below.then b1 b2
    go_wp2_with fail
    refine (T3.out w2 a1 r.length c1 (r1.below b2)).mono ?_
    rintro e w3 ⟨rfl, b3⟩
    have B3 := Below.then B2 b3
    go_wp2_with fail
    refine (LV.out w3 (hL.below B3)).mono ?_
    rintro e w4 ⟨rfl, b4⟩
    go_wp2_with fail
    go_ret
    exact ⟨rfl, Below.then B3 b4⟩
end Go.Proofs.YtefajadolgmpdaaGreatDoor
