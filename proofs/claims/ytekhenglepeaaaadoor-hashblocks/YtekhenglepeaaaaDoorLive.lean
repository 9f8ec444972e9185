/-
  The contract of the statements' own look at the document's examples.
-/
import Derived.Test.YtekhenglepeaaaaDoorAt
import Derived.Test.YtekhenglepeaaaaDoorLen
import Derived.Test.YtekhenglepeaaaaDoorEql
import Derived.Test.YtekhenglepeaaaaDoorAbc
import Derived.Deep.RegionHeld3
import Derived.Lib.SlBytesConst
namespace Go.Proofs.YtekhenglepeaaaaDoor
open Go.RowKit

set_option maxRecDepth 100000 in
set_option maxHeartbeats 1600000 in
theorem live_any (w : World) (hL : Laid w) :
    Calls Tryd.prog 8 #[] w fun e w' => e = .returned (.bool true) ∧ Below w.heap.size w w' := by
  have sz := hL.size
  have c0 := Lib.run_convert_bytes_const (P := Tryd.prog) w 22 5 #[.int .u8 97, .int .u8 98, .int .u8 99] 3 3 Tryd.underlying22 Tryd.underlying5
  simp only [List.size_toArray, List.length_cons, List.length_nil] at c0
  go_enter Tryd.func8, Tryd.ntmps8
  go_wp2_with fail
  have B0 := below_alloc w (.cells #[.int .u8 97, .int .u8 98, .int .u8 99] 5 (3, 4))
  refine (hsum_at (some ⟨w.heap.size, 0, none⟩) 3 3 [97, 98, 99] _ rfl (holds_new_fr w [97, 98, 99] #[.int .u8 97, .int .u8 98, .int .u8 99] 5 (3, 4) rfl) (hL.below B0) (by omega)).mono ?_
  rintro e1 w1 ⟨rfl, hb1⟩
  have B1 := Below.then B0 hb1
  obtain ⟨D, hD⟩ : ∃ D, D = Sm.sum [97, 98, 99] := ⟨_, rfl⟩
  have lD : D.length = 32 := by rw [hD]; exact Sm.sum_length _
  have iD : (Tryd.prog.info? 26).map (·.size) = some (cs D).length := by rw [cs_length, lD]; exact Tryd.infoDigest
  have oD := cs_one D
  have HD : Hid (D = Sm.sum [97, 98, 99]) := hD
  rw [← hD]
  clear hD
  go_wp2_with (refine wpList_store_new rfl 26 _ _ rfl w1.heap.size rfl (cs D) rfl rfl ?hz iD oD ?_)
  case hz => rw [cs_length, lD]; rfl
  have B2 := Below.then B1 (below_alloc w1 (.cells (cs D).toArray 26))
  have d2 := rangeAt_new w1 (cs D).toArray 26 (cs D) (by simp)
  have s2 : (w1.alloc (.cells (cs D).toArray 26)).heap.size = w1.heap.size + 1 := by simp
  generalize w1.alloc (.cells (cs D).toArray 26) = w2 at B2 d2 s2 ⊢
  refine (new_any w2 (hL.below B2)).mono ?_
  rintro e3 w3 ⟨rfl, r3, hb3⟩
  have B3 := Below.then B2 hb3
  have d3 := rangeAt_below d2 hb3
  have z1 := B1.size
  have z3 := hb3.size
  rw [s2] at r3
  rw [s2]
  generalize w1.heap.size = G at *
  clear c0 B0 B1 hb1 B2 d2 hb3
  have c1 := Lib.run_convert_bytes_const (P := Tryd.prog) w3 22 5 #[.int .u8 97, .int .u8 98] 2 2 Tryd.underlying22 Tryd.underlying5
  simp only [List.size_toArray, List.length_cons, List.length_nil] at c1
  have z4 := r3.block
  go_wp2_with fail
  have A3 := below_alloc w3 (.cells #[.int .u8 97, .int .u8 98] 5 (2, 3))
  have L4 := hL.below (Below.then B3 A3)
  refine (add_at (G + 1) [] [97, 98] (some ⟨w3.heap.size, 0, none⟩) 2 2 _ rfl (r3.below A3) (holds_new_fr w3 [97, 98] #[.int .u8 97, .int .u8 98] 5 (2, 3) rfl) (fun ad h _ => by cases h; show w3.heap.size ≠ G + 1; omega) L4 (by omega) (by decide)).mono ?_
  rintro e4 w4 ⟨rfl, r4, hb4⟩
  have B4 : Below w.heap.size w w4 := (Below.then B3 A3).trans (hb4.lower (by omega) (Below.then B3 A3).size)
  have d4 := hb4.range (g := G) (by omega) (rangeAt_below d3 A3)
  have z5 := r4.block
  clear c1 A3 L4 hb4 r3 B3 d3
  have c1 := Lib.run_convert_bytes_const (P := Tryd.prog) w4 22 5 #[.int .u8 99] 1 1 Tryd.underlying22 Tryd.underlying5
  simp only [List.size_toArray, List.length_cons, List.length_nil] at c1
  go_wp2_with fail
  have A3 := below_alloc w4 (.cells #[.int .u8 99] 5 (1, 2))
  have L4 := hL.below (Below.then B4 A3)
  refine (add_at (G + 1) ([] ++ [97, 98]) [99] (some ⟨w4.heap.size, 0, none⟩) 1 1 _ rfl (r4.below A3) (holds_new_fr w4 [99] #[.int .u8 99] 5 (1, 2) rfl) (fun ad h _ => by cases h; show w4.heap.size ≠ G + 1; omega) L4 (by omega) (by decide)).mono ?_
  rintro e5 w5 ⟨rfl, r5, hb5⟩
  have B5 : Below w.heap.size w w5 := (Below.then B4 A3).trans (hb5.lower (by omega) (Below.then B4 A3).size)
  have d5 := hb5.range (g := G) (by omega) (rangeAt_below d4 A3)
  clear c1 A3 L4 hb5 r4 B4 d4
  have r6 : Rep w5 (G + 1) [97, 98, 99] := r5
  clear r5
  have L5 := hL.below B5
  have x0 : w5.cell? ⟨G, 0, none⟩ = some (.int .u8 186) := by
    have h0 : D = 186 :: 120 :: D.drop 2 := by
      have := Sm.abc
      rw [← HD.out] at this
      rw [← List.take_append_drop 2 D, this]; rfl
    exact d5 0 _ (by rw [h0]; rfl)
  have x1 : w5.cell? ⟨G, 1, none⟩ = some (.int .u8 120) := by
    have h0 : D = 186 :: 120 :: D.drop 2 := by
      have := Sm.abc
      rw [← HD.out] at this
      rw [← List.take_append_drop 2 D, this]; rfl
    exact d5 1 _ (by rw [h0]; rfl)
  have hE := equalIn32 D D lD lD
  rw [beq_self_eq_true] at hE
  have hu := Tryd.underlying26
  clear lD oD hL
  go_wp2_with fail
  go_region_held3 (fun w' => w'.rangeAt G 0 (cs D) ∧ w'.cell? ⟨G, 0, none⟩ = some (.int .u8 186) ∧ w'.cell? ⟨G, 1, none⟩ = some (.int .u8 120)) (first | go_keep_ranges | (refine ⟨?_, ?_, ?_⟩ <;> assumption)) (first | (go_at_call 16; refine (sum_any w5.drew (G + 1) [97, 98, 99] (r6.below (Below.refl _ _).drew) (L5.below (Below.refl _ _).drew) (by decide)).mono ?_; rintro e6 w6 ⟨rfl, hb6⟩; rw [← HD.out]; have bD : Below w5.heap.size w5 w6 := Below.then (Below.refl w5.heap.size w5).drew hb6; have y1 := rangeAt_below d5 bD; have y2 : w6.cell? ⟨G, 0, none⟩ = _ := (bD.cell (p := ⟨G, 0, none⟩) (cell_block x0)).trans x0; have y3 : w6.cell? ⟨G, 1, none⟩ = _ := (bD.cell (p := ⟨G, 1, none⟩) (cell_block x1)).trans x1; have r7 := r6.below bD) | (go_at_call 15; refine (len_any w6 (G + 1) [97, 98, 99] r7).mono ?_; rintro e7 w7 ⟨rfl, rfl⟩))
  go_wp2_with fail
  go_ret
  exact ⟨rfl, Below.then B5 bD⟩
end Go.Proofs.YtekhenglepeaaaaDoor
