/-
  The walk of HashPieces.
-/
import Derived.Test.YtekhenglepeaaaaDoorPieces
namespace Go.Proofs.YtekhenglepeaaaaDoor
open Go.RowKit

theorem Rep.same {w w' : World} {h : Nat} {l : List UInt8} (r : Rep w h l) (e : w'.heap[h]? = w.heap[h]?) : Rep w' h l := by
  have c : ∀ j, w'.cell? ⟨h, j, none⟩ = w.cell? ⟨h, j, none⟩ := fun j => World.cell?_of_block (w := w) e
  have f : ∀ j, w'.frozen? ⟨h, j, none⟩ = w.frozen? ⟨h, j, none⟩ := fun j => World.frozen?_of_block (w := w) e
  exact ⟨by rw [c]; exact r.made, fun j v hv => by rw [c]; exact r.st j v hv, fun j v hv => by rw [c]; exact r.tl j v hv, by rw [c]; exact r.n, fun j hj => by rw [c, f]; exact r.t j hj⟩

set_option maxRecDepth 100000 in
set_option maxHeartbeats 1600000 in
theorem hashPieces_some (b o n c : Nat) (R : Nat → List UInt8) (A : Nat → Option Addr) (C : Nat → Nat) (w : World) (hL : Laid w) (hn : n ≤ 281474976710656)
    (hrow : ∀ r, r < n → w.cell? ⟨b, o + r, none⟩ = some (.slice (A r) (R r).length (C r)) ∧ Holds w (A r) (C r) (R r) ∧ (R r).length ≤ 281474976710656) :
    Calls Tryd.prog 4 #[.slice (some ⟨b, o, none⟩) n c] w fun e w' => e = .returned (.bool true) ∧ Below w.heap.size w w' := by
  have sz := hL.size
  go_enter Tryd.func4, Tryd.ntmps4
  go_wp2_with fail
  go_loop [3, 4] (fun s v => ∃ i : Nat, s = .int .i64 (tot R i : Int) ∧ v = .int .i64 (i : Int) ∧ i ≤ n ∧ tot R i ≤ 3000) (fun _ v => n - (intOf v).toNat)
  case atStart => exact ⟨0, by simp [tot_zero], rfl, by omega, by simp [tot_zero]⟩
  case round =>
    obtain ⟨i, rfl, rfl, hi, ht⟩ := hrel
    by_cases hlt : i < n
    · obtain ⟨hc, hH, hm⟩ := hrow i hlt
      have k1 : (i : Int) < (n : Int) := by omega
      have k2 : ((R i).length : Int) ≤ 281474976710656 := by omega
      have k3 : (tot R i : Int) ≤ 3000 := by omega
      obtain ⟨T, hT⟩ : ∃ T, T = tot R (i + 1) := ⟨_, rfl⟩
      have k4 : (tot R i : Int) + (1 + ((R i).length : Int)) = (T : Int) := by rw [hT, tot_succ]; omega
      have HT : Hid (T = tot R (i + 1)) := hT
      clear hT
      by_cases h3 : 3000 < T
      · have k5 : (3000 : Int) < (T : Int) := by omega
        go_wp2_with (go_at_call 8; refine (live_any w hL).mono ?_; rintro e w2 ⟨rfl, hb2⟩)
        go_ret
        exact ⟨rfl, hb2⟩
      · have k5 : ¬ (3000 : Int) < (T : Int) := by omega
        go_wp2_with fail
        refine ⟨⟨i + 1, by rw [HT.out], by simp, by omega, by rw [← HT.out]; omega⟩, by simp [intOf]; omega⟩
    · have k1 : ¬ (i : Int) < (n : Int) := by omega
      have e1 : i = n := by omega
      rw [e1] at ht
      clear hlt hi e1
      go_wp2_with fail
      refine (new_any w hL).mono ?_
      rintro e1 w1 ⟨rfl, r1, hb1⟩
      have z1 := r1.block
      go_wp2_with fail
      go_loopw [6, 7] (fun al v wr => ∃ j : Nat, v = .int .i64 (j : Int) ∧ j ≤ n ∧ OwnV wr w1.heap.size al (joined R j).length (joined R j) ∧ Rep wr w.heap.size (joined R j) ∧ Below w.heap.size w wr ∧ w1.heap.size ≤ wr.heap.size) (fun _ v _ => n - (intOf v).toNat)
      case atStart =>
        refine ⟨0, rfl, by omega, ?_, by rw [joined_zero]; exact r1, hb1, Nat.le_refl _⟩
        rw [joined_zero]
        exact ⟨rfl, .inl ⟨rfl, rfl⟩⟩
      case round =>
        clear r1
        obtain ⟨j, rfl, hj, hown, hr, B, hz⟩ := hrel
        obtain ⟨ao, cap, rfl, hH, hob⟩ := hown.form
        have hJ3 : (joined R j).length ≤ 3000 := Nat.le_trans (joined_le R j) (Nat.le_trans (tot_mono R hj) ht)
        by_cases hlt : j < n
        · obtain ⟨hc, hR, hm⟩ := hrow j hlt
          have q1 : (j : Int) < (n : Int) := by omega
          have hs3 : (joined R (j + 1)).length ≤ 3000 := Nat.le_trans (joined_le R (j + 1)) (Nat.le_trans (tot_mono R (by omega)) ht)
          rw [joined_succ] at hs3
          have hcb : b < w.heap.size := cell_block hc
          have hc1 : wr.cell? ⟨b, o + j, none⟩ = _ := (B.cell (p := ⟨b, o + j, none⟩) hcb).trans hc
          have hne : ∀ ad, A j = some ad → 0 < (R j).length → ad.block ≠ w.heap.size := fun ad h1 h2 => by have := hR.block h1 h2; omega
          obtain ⟨X, hX⟩ : ∃ X, X = joined R j := ⟨_, rfl⟩
          obtain ⟨Y, hY⟩ : ∃ Y, Y = R j := ⟨_, rfl⟩
          rw [← hX] at hown hr hH hs3 hJ3
          rw [← hY] at hs3 hR hc1 hne
          rw [← hX]
          have HX : Hid (X = joined R j ∧ Y = R j) := ⟨hX, hY⟩
          clear hX hY hc hm
          have hXY : X.length + Y.length ≤ 3000 := by rw [List.length_append] at hs3; exact hs3
          go_wp2_with fail
          refine (add_at w.heap.size X Y (A j) (C j) Y.length wr rfl hr (hR.below B) hne (hL.below B) sz (by omega)).mono ?_
          rintro e2 w2 ⟨rfl, r2, hb2⟩
          have B2 : Below w.heap.size w w2 := B.trans (hb2.lower (Nat.le_refl _) B.size)
          have own2 := hown.but hb2 z1
          have hc2 : w2.cell? ⟨b, o + j, none⟩ = _ := (hb2.cell (p := ⟨b, o + j, none⟩) (by show b ≠ w.heap.size; omega) (cell_block hc1)).trans hc1
          have z2 : w1.heap.size ≤ w2.heap.size := Nat.le_trans hz hb2.size
          have hR2 := hR.below B2
          clear hown hr B hH hc1 hb2 hz hne
          go_wp2_with (at_builtin; refine wpList_append_row _ rfl _ _ rfl w1.heap.size X.length (.slice ao X.length cap) X Y (A j) Y.length (C j) rfl own2 rfl rfl hR2 z2 ?b1 ?ap)
          case b1 => omega
          case ap =>
            intro v3 w3 own3 hb3
            rw [← List.length_append] at own3
            obtain ⟨ao3, cap3, rfl, hH3, _⟩ := own3.form
            have B3 : Below w.heap.size w w3 := B2.trans (hb3.mono (Nat.le_of_lt z1))
            have r3 := r2.same (hb3.block w.heap.size z1)
            have z3 : w1.heap.size ≤ w3.heap.size := Nat.le_trans z2 hb3.size
            have HZ : Hid (X ++ Y = joined R (j + 1)) := by
              obtain ⟨h1, h2⟩ := HX.out
              rw [joined_succ, h1, h2]; trivial
            generalize X ++ Y = Z at hH3 own3 r3 HZ hs3 ⊢
            clear own2 r2 hb3 hc2 z2 hR2 B2
            have hE := equalIn32 (Sm.sum Z) (Sm.sum Z) (Sm.sum_length _) (Sm.sum_length _)
            rw [beq_self_eq_true] at hE
            go_wp2_with fail
            refine (len_any w3 w.heap.size Z r3).mono ?_
            rintro e4 w4 ⟨rfl, rfl⟩
            go_wp2_with fail
            refine (sum_any w3 w.heap.size Z r3 (hL.below B3) (by omega)).mono ?_
            rintro e4 w4 ⟨rfl, hb4⟩
            go_wp2_with fail
            refine (hsum_any ao3 cap3 Z w4 (hH3.below hb4) (hL.below (Below.then B3 hb4)) (by omega)).mono ?_
            rintro e5 w5 ⟨rfl, hb5⟩
            have b5 := Below.then hb4 hb5
            clear hb4 hb5
            go_wp2_with fail
            refine (sum_any w5 w.heap.size Z (r3.below b5) (hL.below (Below.then B3 b5)) (by omega)).mono ?_
            rintro e6 w6 ⟨rfl, hb6⟩
            have b6 := Below.then b5 hb6
            clear b5 hb6
            go_wp2_with fail
            refine (hsum_any ao3 cap3 Z w6 (hH3.below b6) (hL.below (Below.then B3 b6)) (by omega)).mono ?_
            rintro e7 w7 ⟨rfl, hb7⟩
            have b7 := Below.then b6 hb7
            clear b6 hb7
            go_wp2_with fail
            refine ⟨⟨j + 1, by simp, by omega, ?_, by rw [← HZ.out]; exact r3.below b7, Below.then B3 b7, Nat.le_trans z3 b7.size⟩, by simp [intOf]; omega⟩
            rw [← HZ.out]
            exact own3.after b7
        · have q1 : ¬ (j : Int) < (n : Int) := by omega
          have hE := equalIn32 (Sm.sum (joined R j)) (Sm.sum (joined R j)) (Sm.sum_length _) (Sm.sum_length _)
          rw [beq_self_eq_true] at hE
          clear hrow
          go_wp2_with fail
          refine (sum_any wr w.heap.size (joined R j) hr (hL.below B) (by omega)).mono ?_
          rintro e4 w4 ⟨rfl, hb4⟩
          go_wp2_with fail
          refine (hsum_any ao cap (joined R j) w4 (hH.below hb4) (hL.below (Below.then B hb4)) (by omega)).mono ?_
          rintro e5 w5 ⟨rfl, hb5⟩
          have B5 := Below.then (Below.then B hb4) hb5
          go_wp2_with (go_at_call 8; refine (live_any w5 (hL.below B5)).mono ?_; rintro e w6 ⟨rfl, hb6⟩)
          go_ret
          exact ⟨rfl, Below.then B5 hb6⟩

set_option maxRecDepth 100000 in
set_option maxHeartbeats 1600000 in
theorem hashPieces_none (ao : Option Addr) (c : Nat) (w : World) (hL : Laid w) :
    Calls Tryd.prog 4 #[.slice ao 0 c] w fun e w' => e = .returned (.bool true) ∧ Below w.heap.size w w' := by
  go_enter Tryd.func4, Tryd.ntmps4
  go_wp2_with fail
  go_loop [3, 4] (fun s v => s = .int .i64 0 ∧ v = .int .i64 0) (fun _ _ => 0)
  case atStart => exact ⟨rfl, rfl⟩
  case round =>
    obtain ⟨rfl, rfl⟩ := hrel
    go_wp2_with fail
    refine (new_any w hL).mono ?_
    rintro e1 w1 ⟨rfl, r1, hb1⟩
    have hE := equalIn32 (Sm.sum []) (Sm.sum []) (Sm.sum_length _) (Sm.sum_length _)
    rw [beq_self_eq_true] at hE
    go_wp2_with fail
    go_loop [6, 7] (fun s v => s = .slice none 0 0 ∧ v = .int .i64 0) (fun _ _ => 0)
    case atStart => exact ⟨rfl, rfl⟩
    case round =>
      obtain ⟨rfl, rfl⟩ := hrel
      go_wp2_with fail
      refine (sum_any w1 w.heap.size [] r1 (hL.below hb1) (by decide)).mono ?_
      rintro e4 w4 ⟨rfl, hb4⟩
      have B4 := Below.then hb1 hb4
      go_wp2_with fail
      refine (hsum_at none 0 0 [] w4 rfl (Holds.nil _) (hL.below B4) (by omega)).mono ?_
      rintro e5 w5 ⟨rfl, hb5⟩
      have B5 := Below.then B4 hb5
      go_wp2_with (go_at_call 8; refine (live_any w5 (hL.below B5)).mono ?_; rintro e w6 ⟨rfl, hb6⟩)
      go_ret
      exact ⟨rfl, Below.then B5 hb6⟩
end Go.Proofs.YtekhenglepeaaaaDoor
