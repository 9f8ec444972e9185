/-
  The walk of MacLong: a key with bytes 0 behind it, up to 64, is the same key; a longer one is its sum.
-/
import Derived.Test.YtmdeielcoomeeaaDoorMLive
import Derived.Deep.RegionHeld3
namespace Go.Proofs.YtmdeielcoomeeaaDoor
open Go.RowKit

set_option maxRecDepth 100000 in
set_option maxHeartbeats 3200000 in
theorem macLong_walk (a : Option Addr) (c : Nat) (l : List UInt8) (x : Int) (b : Option Addr) (cb : Nat) (m : List UInt8) (w : World) (hL : Laid w)
    (ha : Holds w a c l) (ra : l.length ≤ 140737488351232) (_ : -9223372036854775808 ≤ x) (_ : x ≤ 9223372036854775807) (hb : Holds w b cb m) (rb : m.length ≤ 140737488351232) :
    Calls Tryd.prog 7 #[.slice a l.length c, .int .i64 x, .slice b m.length cb] w fun e w' => e = .returned (.bool true) ∧ Below w.heap.size w w' := by
  by_cases h1 : 200 < l.length
  · have q1 : (200 : Int) < (l.length : Int) := by omega
    go_enter Tryd.func7, Tryd.ntmps7
    go_wp2_with fail
    refine (live_any w hL).mono ?_
    rintro _ w3 ⟨rfl, b3⟩
    go_wp2_with fail
    go_ret
    exact ⟨rfl, b3⟩
  · have q1 : ¬ (200 : Int) < (l.length : Int) := by omega
    by_cases h2 : 3000 < m.length
    · have q2 : (3000 : Int) < (m.length : Int) := by omega
      go_enter Tryd.func7, Tryd.ntmps7
      go_wp2_with fail
      refine (live_any w hL).mono ?_
      rintro _ w3 ⟨rfl, b3⟩
      go_wp2_with fail
      go_ret
      exact ⟨rfl, b3⟩
    · have q2 : ¬ (3000 : Int) < (m.length : Int) := by omega
      obtain ⟨R, hR⟩ : ∃ R, x.tmod 200 = R := ⟨_, rfl⟩
      have hR0 : -199 ≤ R ∧ R ≤ 199 := by
        have h1 := Int.tmod_lt_of_pos x (show (0 : Int) < 200 by omega)
        have h2 := Int.lt_tmod_of_pos x (show (0 : Int) < 200 by omega)
        omega
      obtain ⟨N, hN⟩ : ∃ N : Nat, (R + 200).tmod 200 = (N : Int) := ⟨((R + 200).tmod 200).toNat, by rw [Int.tmod_eq_emod_of_nonneg (by omega)]; omega⟩
      have hN3 : N < 200 := by
        rw [Int.tmod_eq_emod_of_nonneg (by omega)] at hN
        omega
      have hN' : (R + 200) % 200 = (N : Int) := by
        rw [Int.tmod_eq_emod_of_nonneg (by omega)] at hN
        exact hN
      have r1 : (-199 : Int) ≤ R := hR0.1
      have r2 : R ≤ 199 := hR0.2
      clear hR0
      have ho0 : Own (w.alloc (.cells #[] 5)) w.heap.size w.heap.size 0 0 [] := own_new w [] _ rfl (by unfold maxLen; simp)
      have hb0 := below_alloc w (.cells #[] 5)
      have ha0 := ha.below hb0
      go_enter Tryd.func7, Tryd.ntmps7
      go_wp2_with (at_builtin; refine wpList_append_bytes _ rfl _ _ rfl w.heap.size w.heap.size 0 0 [] l a l.length c rfl ho0 rfl rfl ha0 (by omega) ?_; intro g1 c1 w1 ho1 hb1)
      have B1 := hb0.trans hb1
      have ho1' : Own w1 w.heap.size g1 l.length c1 l := by simpa using ho1
      clear ho0 hb0 ha0 ho1 hb1
      go_loopw [7] (fun v wr => ∃ (g cap j : Nat), v = .slice (some ⟨g, 0, none⟩) (l.length + j) cap ∧ (l.length + j ≤ N ∨ j = 0) ∧ Own wr w.heap.size g (l.length + j) cap (l ++ Sm.zeros j) ∧ Below w.heap.size w wr) (fun v _ => N - sliceLen v)
      case atStart => exact ⟨g1, c1, 0, rfl, .inr rfl, by simpa [Sm.zeros] using ho1', B1⟩
      case round =>
        clear ho1' B1
        obtain ⟨g, cap, j, rfl, hj, ho, B⟩ := hrel
        by_cases hlt : l.length + j < N
        · have q3 : (l.length : Int) + (j : Int) < (N : Int) := by omega
          have ho' := ho.alloc (.cells #[.int .u8 0] 5)
          have hn : Holds (wr.alloc (.cells #[.int .u8 0] 5)) (some ⟨wr.heap.size, 0, none⟩) 1 [0] := holds_new wr [0] _ _ rfl
          have HZ : Hid (l ++ Sm.zeros j ++ [0] = l ++ Sm.zeros (j + 1)) := by
            rw [List.append_assoc]; unfold Sm.zeros; rw [List.replicate_succ']; exact rfl
          generalize l ++ Sm.zeros j = Y at ho ho' HZ
          go_wp2_with (at_builtin; refine wpList_append_bytes _ rfl _ _ rfl w.heap.size g (l.length + j) cap Y [0] (some ⟨wr.heap.size, 0, none⟩) 1 1 rfl ho' rfl rfl hn (by omega) ?_; intro g3 c3 w3 ho3 hb3)
          have B3 : Below w.heap.size w w3 := (B.alloc B.size _).trans hb3
          refine ⟨⟨g3, c3, j + 1, rfl, .inl (by omega), ?_, B3⟩, by simp [sliceLen]; omega⟩
          rw [← HZ.out]
          exact ho3
        · have q3 : ¬ (l.length : Int) + (j : Int) < (N : Int) := by omega
          have hLb := hL.below B
          have haB := ha.below B
          have hbB := hb.below B
          obtain ⟨L, hLj⟩ : ∃ L, l.length + j = L := ⟨_, rfl⟩
          have q4 : (l.length : Int) + (j : Int) = (L : Int) := by omega
          have q5 : (L : Int) ≤ 200 := by omega
          by_cases h64 : l.length ≤ 64
          · have q6 : ¬ (64 : Int) < (l.length : Int) := by omega
            by_cases hL64 : L ≤ 64
            · have q7 : (L : Int) ≤ 64 := by omega
              have hZ := Mm.tag_zeros l [97] m j (by omega)
              have lY : (l ++ Sm.zeros j).length = L := by rw [List.length_append, Sm.zeros_length]; exact hLj
              rw [hLj] at ho ⊢
              rw [q4] at q3
              have hT := tag_any l [97] m a b c cb
              have hU := tag_at (l ++ Sm.zeros j) [97] m (some ⟨g, 0, none⟩) b L m.length cap cb wr lY rfl ho.holds hbB hLb (by omega) (by decide) (by omega)
              rw [hZ] at hU
              have lX := Mm.tag_length l [97] m
              generalize Mm.tag l [97] m = X at lX hT hU
              have HT := hideP hT
              have HU := hideP hU
              have hE := equalIn32 X X lX lX
              rw [beq_self_eq_true] at hE
              clear hT hU hZ lY
              go_wp2_with fail
              refine HU.out.mono ?_
              rintro _ w2 ⟨rfl, b2⟩
              have B2 := Below.then B b2
              go_wp2_with fail
              refine (HT.out w2 (ha.below B2) (hb.below B2) (hL.below B2) (by omega) (by decide) (by omega)).mono ?_
              rintro _ w3 ⟨rfl, b3⟩
              have B3 := Below.then B2 b3
              go_wp2_with fail
              refine (live_any w3 (hL.below B3)).mono ?_
              rintro _ w4 ⟨rfl, b4⟩
              go_wp2_with fail
              go_ret
              exact ⟨rfl, Below.then B3 b4⟩
            · have q7 : ¬ (L : Int) ≤ 64 := by omega
              have q8 : ((L : Int) == (l.length : Int)) = false := by rw [beq_eq_false_iff_ne]; omega
              rw [hLj]
              rw [q4] at q3
              go_wp2_with fail
              refine (live_any wr hLb).mono ?_
              rintro _ w4 ⟨rfl, b4⟩
              go_wp2_with fail
              go_ret
              exact ⟨rfl, Below.then B b4⟩
          · have q6 : (64 : Int) < (l.length : Int) := by omega
            have q7 : ¬ (L : Int) ≤ 64 := by omega
            rw [hLj] at ho ⊢
            rw [q4] at q3
            go_wp2_with fail
            refine (refSum_at a c l.length l wr rfl haB (by omega)).mono ?_
            rintro _ w2 ⟨rfl, b2⟩
            have B2 := Below.then B b2
            have hS := Mm.tag_sum l [97] m h64
            have lD := Sm.sum_length l
            generalize Sm.sum l = D at hS lD ⊢
            have hT := tag_any l [97] m a b c cb
            have lX := Mm.tag_length l [97] m
            generalize Mm.tag l [97] m = X at hS lX hT
            have HS := hideP hS
            have HT := hideP hT
            have hE := equalIn32 X X lX lX
            rw [beq_self_eq_true] at hE
            have iD : (Tryd.prog.info? 26).map (·.size) = some (cs D).length := by rw [cs_length, lD]; exact Tryd.infoDigest
            have oD := cs_one D
            have zs : (cs (Sm.zeros 32)).toArray.size = (cs D).length := by rw [cs_length, lD]; rfl
            have h7 : Holds (w2.alloc (.cells (cs D).toArray 26)) (some ⟨w2.heap.size, 0, none⟩) 32 D := lD ▸ holds_new w2 D (cs D).toArray 26 (by simp)
            have B7 := Below.then B2 (below_alloc w2 (.cells (cs D).toArray 26))
            clear hS hT b2 B2 ho B hLb haB hbB hj hlt
            go_wp2_with (refine wpList_store_new rfl 26 _ _ rfl w2.heap.size rfl (cs D) rfl rfl zs iD oD ?_)
            generalize w2.alloc (.cells (cs D).toArray 26) = w7 at h7 B7 ⊢
            have bD : Below w7.heap.size w7 w7.drew := (Below.refl w7.heap.size w7).drew
            have B8 := Below.then B7 bD
            simp only [Act.put]
            go_region_held3 (fun _ => True) (trivial) (first
              | (go_at_call_of 10 (Value.slice a l.length c); refine (HT.out w7.drew (ha.below B8) (hb.below B8) (hL.below B8) (by omega) (by decide) (by omega)).mono ?_; rintro _ w9 ⟨rfl, b9⟩; have B9 := Below.then B8 b9; have h9 := (h7.below bD).below b9)
              | (go_at_call 10; refine (tag_at D [97] m (some ⟨w2.heap.size, 0, none⟩) b 32 m.length 32 cb w9 lD rfl h9 (hb.below B9) (hL.below B9) (by omega) (by decide) (by omega)).mono ?_; rintro _ wa ⟨rfl, ba⟩; have Ba := Below.then B9 ba; rw [HS.out])
              | (go_at_call 8; refine (live_any wa (hL.below Ba)).mono ?_; rintro _ wb ⟨rfl, bb⟩; have Bb := Below.then Ba bb))
            all_goals go_wp2_with fail
            all_goals go_ret
            all_goals exact ⟨rfl, Bb⟩
end Go.Proofs.YtmdeielcoomeeaaDoor
