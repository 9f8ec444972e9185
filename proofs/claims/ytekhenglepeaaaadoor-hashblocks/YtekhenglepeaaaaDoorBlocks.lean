/-
  The walk of HashBlocks: about the ends of blocks, too, each sum is the document's.
-/
import Derived.Test.YtekhenglepeaaaaDoorRefAt
import Derived.Test.YtekhenglepeaaaaDoorPieces
import Derived.Deep.RegionHeld3
namespace Go.Proofs.YtekhenglepeaaaaDoor
open Go.RowKit

set_option maxRecDepth 100000 in
set_option maxHeartbeats 1600000 in
theorem hashBlocks_walk (x y : Int) (w : World) (hL : Laid w) (_ : -9223372036854775808 ≤ x) (_ : x ≤ 9223372036854775807) (y0 : 0 ≤ y) (y1 : y ≤ 255) :
    Calls Tryd.prog 5 #[.int .i64 x, .int .u8 y] w fun e w' => e = .returned (.bool true) ∧ Below w.heap.size w w' := by
  obtain ⟨R, hR⟩ : ∃ R, x.tmod 300 = R := ⟨_, rfl⟩
  have hR0 : -299 ≤ R ∧ R ≤ 299 := by
    have h1 := Int.tmod_lt_of_pos x (show (0 : Int) < 300 by omega)
    have h2 := Int.lt_tmod_of_pos x (show (0 : Int) < 300 by omega)
    omega
  obtain ⟨N, hN⟩ : ∃ N : Nat, (R + 300).tmod 300 = (N : Int) := ⟨((R + 300).tmod 300).toNat, by rw [Int.tmod_eq_emod_of_nonneg (by omega)]; omega⟩
  have hN3 : N < 300 := by
    rw [Int.tmod_eq_emod_of_nonneg (by omega)] at hN
    omega
  have hN' : (R + 300) % 300 = (N : Int) := by
    rw [Int.tmod_eq_emod_of_nonneg (by omega)] at hN
    exact hN
  obtain ⟨C, hC⟩ : ∃ C : UInt8, y = (C.toNat : Int) := ⟨UInt8.ofNat y.toNat, by rw [UInt8.toNat_ofNat']; omega⟩
  subst hC
  have r1 : (-299 : Int) ≤ R := hR0.1
  have r2 : R ≤ 299 := hR0.2
  clear hR0
  go_enter Tryd.func5, Tryd.ntmps5
  go_wp2_with fail
  have ho0 : OwnV w w.heap.size (.slice none 0 0) 0 [] := ⟨rfl, .inl ⟨rfl, rfl⟩⟩
  go_loopw [5, 6] (fun v u wr => ∃ i : Nat, u = .int .i64 (i : Int) ∧ i ≤ N ∧ OwnV wr w.heap.size v i (List.replicate i C) ∧ Below w.heap.size w wr) (fun _ u _ => N - (intOf u).toNat)
  case atStart => exact ⟨0, rfl, by omega, ho0, Below.refl _ _⟩
  case round =>
    clear ho0
    obtain ⟨i, rfl, hi, ho, B⟩ := hrel
    obtain ⟨ao, cap, rfl, hH, hab⟩ := ho.form
    by_cases hlt : i < N
    · have k1 : (i : Int) < (N : Int) := by omega
      have ho' := ho.alloc' (.cells #[.int .u8 (C.toNat : Int)] 5)
      have hn : Holds (wr.alloc (.cells #[.int .u8 (C.toNat : Int)] 5)) (some ⟨wr.heap.size, 0, none⟩) 1 [C] := holds_new wr [C] _ _ rfl
      have z : w.heap.size ≤ (wr.alloc (.cells #[.int .u8 (C.toNat : Int)] 5)).heap.size := by have := B.size; simp; omega
      go_wp2_with (at_builtin; refine wpList_append_row _ rfl _ _ rfl w.heap.size i (.slice ao i cap) (List.replicate i C) [C] (some ⟨wr.heap.size, 0, none⟩) 1 1 rfl ho' rfl rfl hn z ?b1 ?ap)
      case b1 => omega
      case ap =>
        intro v3 w3 ho3 hb3
        have B3 : Below w.heap.size w w3 := (B.alloc B.size _).trans hb3
        go_wp2_with fail
        refine ⟨⟨i + 1, by simp, by omega, ?_, B3⟩, by simp [intOf]; omega⟩
        rw [List.replicate_succ']
        exact ho3
    · have e1 : i = N := by omega
      have k1 : ¬ (i : Int) < (N : Int) := by omega
      have hbl : (List.replicate i C).length = i := List.length_replicate
      generalize List.replicate i C = b at ho hH hbl
      clear hlt hi
      have hi3 : i < 300 := by omega
      clear e1
      go_wp2_with fail
      refine (hsum_at ao cap i b wr hbl hH (hL.below B) (by omega)).mono ?_
      rintro e2 w2 ⟨rfl, hb2⟩
      have hH2 := hH.below hb2
      have B2 := Below.then B hb2
      have zB : w.heap.size ≤ w2.heap.size := B2.size
      obtain ⟨D, hD⟩ : ∃ D, D = Sm.sum b := ⟨_, rfl⟩
      have lD : D.length = 32 := by rw [hD]; exact Sm.sum_length _
      have iD : (Tryd.prog.info? 26).map (·.size) = some (cs D).length := by rw [cs_length, lD]; exact Tryd.infoDigest
      have oD := cs_one D
      have HD := hideIt hD
      rw [← hD]
      clear hD hb2 ho hH B
      have d3 := rangeAt_new w2 (cs D).toArray 26 (cs D) (by simp)
      have b3 := below_alloc w2 (.cells (cs D).toArray 26)
      have ho4 := own_new (w2.alloc (.cells (cs D).toArray 26)) [] #[] rfl (by unfold maxLen; simp)
      have b4 := below_alloc (w2.alloc (.cells (cs D).toArray 26)) (.cells #[] 5)
      have hs3 : (w2.alloc (.cells (cs D).toArray 26)).heap.size = w2.heap.size + 1 := by simp
      rw [hs3] at ho4
      simp only [List.length_nil] at ho4
      have hH4 := (hH2.below b3).below b4
      go_wp2_with (first | (refine wpList_store_new rfl 26 _ _ rfl w2.heap.size rfl (cs D) rfl rfl ?hz iD oD ?_) | (at_builtin; refine wpList_append_bytes _ rfl _ _ rfl (w2.heap.size + 1) (w2.heap.size + 1) 0 0 [] b ao i cap rfl ho4 rfl hbl hH4 ?b2 ?ap2))
      case hz => rw [cs_length, lD]; rfl
      case b2 => omega
      case ap2 =>
        intro g5 c5 w5 ho5 hb5
        rw [← hs3] at hb5
        have bb5 : Below (w2.alloc (.cells (cs D).toArray 26)).heap.size (w2.alloc (.cells (cs D).toArray 26)) w5 := b4.trans hb5
        have d5 := rangeAt_below d3 bb5
        have B5 := Below.then (Below.then B2 b3) bb5
        have hH5 := (hH2.below b3).below bb5
        have ho5' := ho5.alloc (.cells #[.int .u8 (C.toNat : Int)] 5)
        have hn : Holds (w5.alloc (.cells #[.int .u8 (C.toNat : Int)] 5)) (some ⟨w5.heap.size, 0, none⟩) 1 [C] := holds_new w5 [C] _ _ rfl
        have z5 : w2.heap.size + 1 ≤ w5.heap.size := by rw [← hs3]; exact bb5.size
        have b6 := below_alloc w5 (.cells #[.int .u8 (C.toNat : Int)] 5)
        have d6 := rangeAt_below d5 b6
        have B6 := Below.then B5 b6
        have hH6 := hH5.below b6
        clear d3 b3 ho4 b4 hH4 hb5 bb5 d5 B5 hH5 ho5 B2
        go_wp2_with (at_builtin; refine wpList_append_bytes _ rfl _ _ rfl (w2.heap.size + 1) g5 i c5 b [C] (some ⟨w5.heap.size, 0, none⟩) 1 1 rfl ho5' rfl rfl hn ?b3 ?ap3)
        case b3 => omega
        case ap3 =>
          intro g7 c7 w7 ho7 hb7
          have hbk : ∀ ad, ao = some ad → 0 < b.length → ad.block < w2.heap.size + 1 := fun ad h1 h2 => by have := hH2.block h1 h2; omega
          have B7 : Below w.heap.size w w7 := B6.trans (hb7.mono (by have := zB; omega))
          have d7 := rangeAt_lower d6 hb7 (Nat.lt_succ_self _)
          have hH7 := hH6.lower hb7 hbk
          have hM7 := ho7.holds
          have hbl1 : (b ++ [C]).length = i + 1 := by rw [List.length_append, hbl]; rfl
          have hE1 := equalIn32 D D lD lD
          rw [beq_self_eq_true] at hE1
          generalize b ++ [C] = bC at *
          have hE2 := equalIn32 (Sm.sum bC) (Sm.sum bC) (Sm.sum_length _) (Sm.sum_length _)
          rw [beq_self_eq_true] at hE2
          have L7 := hL.below B7
          have hu := Tryd.underlying26
          have HBL := hideIt hbl
          have HBL1 := hideIt hbl1
          clear d6 b6 hH6 hH2 hn ho5' ho7 hb7 hbk lD oD B6 hbl hbl1
          go_wp2_with fail
          go_region_held3 (fun w' => w'.rangeAt w2.heap.size 0 (cs D)) (first | go_keep_ranges | assumption) (first | (go_at_call_of 11 (Value.slice ao i cap); refine (refSum_at ao cap i b w7.drew HBL.out hH7.drew (by omega)).mono ?_; rintro e8 w8 ⟨rfl, hb8⟩; rw [← HD.out]; have b8 : Below w7.heap.size w7 w8 := Below.then (Below.refl w7.heap.size w7).drew hb8; have y8 := rangeAt_below d7 b8) | (go_at_call 10; refine (hsum_at (some ⟨g7, 0, none⟩) c7 (i + 1) bC w8 HBL1.out (hM7.below b8) (L7.below b8) (by omega)).mono ?_; rintro e9 w9 ⟨rfl, hb9⟩; have b9 := Below.then b8 hb9; have y9 := rangeAt_below d7 b9) | (go_at_call 11; refine (refSum_at (some ⟨g7, 0, none⟩) c7 (i + 1) bC w9 HBL1.out (hM7.below b9) (by omega)).mono ?_; rintro e10 w10 ⟨rfl, hb10⟩; have b10 := Below.then b9 hb10; have y10 := rangeAt_below d7 b10) | (go_at_call 8; refine (live_any w10 (L7.below b10)).mono ?_; rintro e11 w11 ⟨rfl, hb11⟩; have b11 := Below.then b10 hb11; have y11 := rangeAt_below d7 b11))
          go_wp2_with fail
          go_ret
          exact ⟨rfl, Below.then B7 b11⟩
end Go.Proofs.YtekhenglepeaaaaDoor
