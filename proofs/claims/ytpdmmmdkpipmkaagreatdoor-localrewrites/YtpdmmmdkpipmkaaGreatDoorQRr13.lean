/-
  The reference's Rewrite.
-/
import Derived.Test.YtpdmmmdkpipmkaaGreatDoorQRq13
import Derived.Test.YtpdmmmdkpipmkaaGreatDoorQLr13
import Derived.Test.YtpdmmmdkpipmkaaGreatDoorQRp0
namespace Go.Proofs.YtpdmmmdkpipmkaaGreatDoor
open Go.RowKit Go.Lib Go.Shelf

set_option maxRecDepth 100000 in
set_option maxHeartbeats 1000000 in
theorem rrewrite_at (m : Nat) (a : Option Addr) (c : Nat) (xs : List Rv) (w : World) (hx : Row rK w a c xs) (ax : ∀ x ∈ xs, Rv.Ao m w x) (hm : m ≤ w.heap.size) (hi : ∀ x ∈ xs, Sh.RIn x.r) :
    Calls Tryz.prog 13 #[.slice a xs.length c] w fun e w' => RwAns m (xs.map Rv.r) e w' ∧ Below w.heap.size w w' := by
  have T1 := hideP (rprogram10_at a c xs w ⟨hx, fun x h => (ax x h).aw⟩ hi)
  have HR := hideP hx
  have HA := hideP ax
  obtain ⟨p1, p2, p3, hp⟩ : ∃ p1 p2 p3, Hid (Ck.prog (xs.map Rv.r) = (p1, p2, p3)) := ⟨_, _, _, rfl⟩
  rw [hp.out] at T1
  simp only [ansV] at T1
  clear hx ax hi
  go_enter Tryz.func13, Tryz.ntmps13
  go_wp2_with fail
  refine T1.out.mono ?_
  rintro e w1 ⟨rfl, b1⟩
  clear T1
  by_cases h0 : p1 = 0
  · subst h0
    have ok : (Ck.prog (xs.map Rv.r)).1 = 0 := by rw [hp.out]
    obtain ⟨h16, hW, _⟩ := Ck.prog_ok ok
    rw [List.length_map] at h16
    have HW := hideP hW
    clear hW ok
    have I0 : SpR m w1.heap.size w (xs.map Rv.r) 0 [] (.slice none 0 0) w1 := ⟨World.ownsRow_nil _ _ _ _, ⟨Nat.le_trans hm b1.size, b1.size, Nat.le_refl _⟩, (fun _ h => by cases h), Lc.WayR.start _, b1, by simp⟩
    go_wp2_with fail
    go_loopw [7, 8] (fun v7 v8 wr => ∃ (j : Nat) (ys : List Rv), v8 = .int .i64 (j : Int) ∧ j ≤ xs.length ∧ SpR m w1.heap.size w (xs.map Rv.r) j ys v7 wr) (fun _ v8 _ => xs.length - (RowKit.intOf v8).toNat)
    case atStart => exact ⟨0, [], rfl, Nat.zero_le _, I0⟩
    case round =>
      clear I0
      obtain ⟨j, ys, rfl, hj, I⟩ := hrel
      have ln := I.len
      obtain ⟨a5, c5, rfl, R5, _⟩ := own_row (D := rK) I.all (by omega)
      by_cases hlt : j < xs.length
      · have q : (j : Int) < (xs.length : Int) := by omega
        have hjr : j < (xs.map Rv.r).length := by rw [List.length_map]; exact hlt
        have hyr : (xs.map Rv.r)[j] = (xs[j]'hlt).r := List.getElem_map ..
        have SH := Ck.shown (HW.out _ (List.getElem_mem hjr)).shape
        rw [hyr] at SH
        obtain ⟨P1, O1, hP⟩ := HR.out.addr (Nat.lt_of_le_of_lt (Nat.zero_le _) hlt)
        have r1 : wr.rangeAt P1 (O1 + j * 11) (rv (xs[j]'hlt)) := by
          have := HR.out.below I.bel (Nat.le_refl _)
          rw [hP] at this
          exact this.range j hlt
        have KB : Kq m w wr := Kq.below I.bel hm
        have aY := (HA.out _ (List.getElem_mem hlt)).safe KB
        rw [hP]
        generalize (xs[j]'hlt) = y at *
        have iP : (Tryz.prog.info? 48).map (·.size) = some (rv y).length := Tryz.iR11
        have SA := SH.ok
        have hmr := Nat.le_trans hm I.bel.size
        clear R5
        go_wp2_with (refine wpList_load_mid rfl 48 _ rfl P1 (O1 + j * 11) rfl (rv y) _ r1 Tryz.underlying48 rfl iP ?_)
        refine (rone_at m j y wr aY hmr SA (by omega)).mono ?_
        rintro e w3 ⟨a3, c3, zs, rfl, R3, A3, E3, b3⟩
        have I3 := I.next b3
        have zl : zs.length ≤ 700 := by have := congrArg List.length E3; rw [List.length_map] at this; rw [this]; exact one_few SH j
        have hb3 := I3.mB.2.2
        go_wp2_with (at_builtin; refine wpList_append_rec rK _ rfl _ _ 22 48 rfl _ 160 Tryz.underlying22 Tryz.iRk13 rfl (by decide) w1.heap.size (.slice a5 ys.length c5) ys zs a3 zs.length c3 rfl I3.all rfl rfl R3 hb3 (by omega) ?_; intro v4 w4 O4 g4)
        exact ⟨⟨j + 1, ys ++ zs, by go_num, by omega, I3.more hjr (by rw [hyr]; exact E3) A3 zl O4 g4⟩, by simp [RowKit.intOf]; omega⟩
      · have q : ¬ (j : Int) < (xs.length : Int) := by omega
        have FIN : RwAns m (xs.map Rv.r) (.returned (.tuple #[.slice a5 ys.length c5, .int .i64 0])) wr := ⟨a5, c5, ys, by rw [hp.out], R5.row, I.rules, by rw [if_pos (by rw [hp.out])]; exact (I.way.done (by rw [List.length_map]; omega)).symm⟩
        have HF := hideP FIN
        have HB := I.bel
        clear FIN I R5
        go_wp2_with fail
        go_ret2
        exact ⟨HF.out, HB⟩
  · have q : (p1 != 0) = true := by simpa using h0
    have FIN : RwAns m (xs.map Rv.r) (.returned (.tuple #[.slice none 0 0, .int .i64 p1])) w1 := ⟨none, 0, [], by rw [hp.out]; rfl, Row.nil _ _, (fun _ h => by cases h), by rw [if_neg (by rw [hp.out]; exact h0)]; rfl⟩
    have HF := hideP FIN
    clear FIN h0
    go_wp2_with fail
    go_ret2
    exact ⟨HF.out, b1⟩
end Go.Proofs.YtpdmmmdkpipmkaaGreatDoor
