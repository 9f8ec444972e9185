/-
  The contract of the reference's Tag: the document's keyed sum; nothing that was there turns.
-/
import Derived.Test.YtfpdiafedoppnaaDoorApart
import Derived.Test.YtfpdiafedoppnaaDoorMText
import Derived.Test.YtfpdiafedoppnaaDoorRefAt
import Derived.Test.YtfpdiafedoppnaaDoorPads
namespace Go.Proofs.YtfpdiafedoppnaaDoor
open Go.RowKit

theorem there_lower {w w' : World} {g o n B : Nat} (h : w.there g o n) (hb : Below B w w') (hg : g < B) : w'.there g o n := fun j hj => by
  obtain ⟨h1, h2⟩ := h j hj
  exact ⟨by rw [hb.cell (p := ⟨g, o + j, none⟩) hg]; exact h1, by rw [hb.frozen (p := ⟨g, o + j, none⟩) hg]; exact h2⟩
theorem ThreeAt.cell {w0 wr : World} {K : List UInt8} {gk ck i j : Nat} {vi vo : Value} (h : ThreeAt w0 K gk ck i j vi vo wr) (n : Nat) (x : UInt8) (hx : K[n]? = some x) : wr.cell? ⟨gk, n, none⟩ = some (.int .u8 (x.toNat : Int)) :=
  h.k.parts.2.2.2 n _ (by simp [cs, hx])

theorem text_pos (d b : List UInt8) : 0 < (Mm.text d b).length := by
  have := Pm.vb_pos (Pm.tb (d.length : Int))
  rw [Mm.text_def, List.length_append, List.length_append]; omega

set_option maxRecDepth 100000 in
set_option maxHeartbeats 3200000 in
theorem rtag_any (k d m : List UInt8) (a b : Option Addr) (ca cb : Nat) (w : World) (ha : Holds w a ca k) (hb : Holds w b cb m) (hk : k.length ≤ 10000000000) (hd : d.length ≤ 10000000000) (hm : m.length ≤ 10000000000) :
    Calls Tryd.prog 32 #[.slice a k.length ca, str d, .slice b m.length cb] w fun e w' => e = .returned (ba (Mm.tag k d m)) ∧ Below w.heap.size w w' := by
  have hT := text_length d m (by omega)
  have hKl := Mm.keyOf_length k
  obtain ⟨W0, hW0⟩ : ∃ W0, w.alloc (.cells (cs (Sm.zeros 32)).toArray 42) = W0 := ⟨_, rfl⟩
  have B0 : Below w.heap.size w W0 := hW0 ▸ below_alloc w _
  have t0 : W0.there w.heap.size 0 32 := hW0 ▸ there_new w _ _ 32 rfl
  have s0 : W0.heap.size = w.heap.size + 1 := by rw [← hW0]; simp
  have ho0 : Own (W0.alloc (.cells #[] 5)) W0.heap.size W0.heap.size 0 0 [] := own_new W0 [] _ rfl (by unfold maxLen; simp)
  have hb0 := below_alloc W0 (.cells #[] 5)
  have ha0 := (ha.below B0).below hb0
  have HW : Hid (w.alloc (.cells (cs (Sm.zeros 32)).toArray 42) = W0) := hW0
  rw [s0] at ho0
  have ho0' := ho0
  rw [← hW0] at ho0 ha0
  clear hW0
  by_cases h64 : k.length ≤ 64
  have q0 : ¬ (64 : Int) < (k.length : Int) := by omega
  have hke := Mm.keyOf_short k h64
  go_enter Tryd.func32, Tryd.ntmps32
  go_wp2_with (at_builtin; refine wpList_append_bytes _ rfl _ _ rfl (w.heap.size + 1) (w.heap.size + 1) 0 0 [] k a k.length ca rfl ho0 rfl rfl ha0 (by omega) ?_; intro g1 c1 w1 ho1 hb1)
  have Bq : Below W0.heap.size W0 w1 := by
    rw [← HW.out] at hb0 ⊢
    rw [HW.out, s0]
    rw [HW.out, s0] at hb0
    exact hb0.trans (HW.out ▸ hb1)
  have hoq : Own w1 W0.heap.size g1 k.length c1 (Mm.keyOf k) := by rw [s0, hke]; simpa using ho1
  obtain ⟨N, hN⟩ : ∃ N, k.length = N := ⟨_, rfl⟩
  have hNk : (Mm.keyOf k).length = N := by rw [hke]; exact hN
  rw [hN] at hoq
  have HN : Hid (Value.slice (some ⟨g1, 0, none⟩) k.length c1 = Value.slice (some ⟨g1, 0, none⟩) N c1) := by rw [hN]; exact rfl
  clear hN ho1 hb1 ho0 ho0' ha0 hb0 hke h64 q0
  rotate_left
  have q0 : (64 : Int) < (k.length : Int) := by omega
  have hke := Mm.keyOf_long k h64
  go_enter Tryd.func32, Tryd.ntmps32
  go_wp2_with (at_builtin; refine wpList_append_bytes _ rfl _ _ rfl (w.heap.size + 1) (w.heap.size + 1) 0 0 [] k a k.length ca rfl ho0 rfl rfl ha0 (by omega) ?_; intro g1 c1 w1 ho1 hb1)
  have Bq : Below W0.heap.size W0 w1 := by
    rw [← HW.out] at hb0 ⊢
    rw [HW.out, s0]
    rw [HW.out, s0] at hb0
    exact hb0.trans (HW.out ▸ hb1)
  refine (refSum_at a ca k.length k w1 rfl (ha.below (B0.trans (Bq.mono (by omega)))) (by omega)).mono ?_
  rintro e2 w2 ⟨rfl, hb2⟩
  have Bq2 := Bq.trans (hb2.mono Bq.size)
  rw [← hke]
  have hK32 : (Mm.keyOf k).length = 32 := by rw [hke]; exact Sm.sum_length k
  generalize hKx : Mm.keyOf k = Kx at hK32 ⊢
  have HK : Hid (Mm.keyOf k = Kx) := hKx
  have iD : (Tryd.prog.info? 42).map (·.size) = some (cs Kx).length := by rw [cs_length, hK32]; exact Tryd.infoDigest
  have oD := cs_one Kx
  have zs : (cs (Sm.zeros 32)).toArray.size = (cs Kx).length := by rw [cs_length, hK32]; rfl
  have b3 := below_alloc w2 (.cells (cs Kx).toArray 42)
  have h3 : Holds (w2.alloc (.cells (cs Kx).toArray 42)) (some ⟨w2.heap.size, 0, none⟩) 32 Kx := hK32 ▸ holds_new w2 Kx (cs Kx).toArray 42 (by simp)
  have s3 : (w2.alloc (.cells (cs Kx).toArray 42)).heap.size = w2.heap.size + 1 := by simp
  have h4 := h3.below (below_alloc _ (.cells #[] 5))
  have ho4 : Own ((w2.alloc (.cells (cs Kx).toArray 42)).alloc (.cells #[] 5)) W0.heap.size (w2.heap.size + 1) 0 0 [] := by
    have := own_new (w2.alloc (.cells (cs Kx).toArray 42)) [] #[] rfl (by unfold maxLen; simp)
    rw [s3] at this
    exact OwnV.lower this (Nat.le_trans Bq2.size (Nat.le_succ _))
  have Bq4 : Below W0.heap.size W0 ((w2.alloc (.cells (cs Kx).toArray 42)).alloc (.cells #[] 5)) := Below.then (Below.then Bq2 b3) (below_alloc _ _)
  clear hKx hke hb2 Bq Bq2 ho1 hb1 ho0 ho0' ha0 hb0 b3 h3 s3
  go_wp2_with (first | (refine wpList_store_new rfl 42 _ _ rfl w2.heap.size rfl (cs Kx) rfl rfl zs iD oD ?_) | (at_builtin; refine wpList_append_bytes _ rfl _ _ rfl W0.heap.size (w2.heap.size + 1) 0 0 [] Kx (some ⟨w2.heap.size, 0, none⟩) 32 32 rfl ho4 rfl hK32 h4 (by omega) ?_; intro g1 c1 w3 hoq hb5; have Bq := Bq4.trans hb5))
  have hoq : Own w3 W0.heap.size g1 32 c1 (Mm.keyOf k) := by rw [HK.out]; simpa using hoq
  obtain ⟨N, hN⟩ : ∃ N, 32 = N := ⟨_, rfl⟩
  have hNk : (Mm.keyOf k).length = N := by rw [HK.out, hK32]; exact hN
  rw [hN] at hoq
  have HN : Hid (Value.slice (some ⟨g1, 0, none⟩) 32 c1 = Value.slice (some ⟨g1, 0, none⟩) N c1) := by rw [hN]; exact rfl
  clear hN hb5 ho4 h4 Bq4 iD oD zs HK hK32 h64 q0
  all_goals
    have h64 := Mm.key64_of k
    rw [hNk] at h64 hKl
    go_loopw [7] (fun v wr => ∃ (g cap j : Nat), v = .slice (some ⟨g, 0, none⟩) (N + j) cap ∧ N + j ≤ 64 ∧ Own wr W0.heap.size g (N + j) cap (Mm.keyOf k ++ Sm.zeros j) ∧ Below W0.heap.size W0 wr) (fun v _ => 64 - sliceLen v)
    case atStart =>
      refine ⟨g1, c1, 0, HN.out, by omega, ?_, Bq⟩
      simpa [Sm.zeros] using hoq
    case round =>
      clear hoq Bq HN
      obtain ⟨g, cap, j, rfl, hj, ho, B⟩ := hrel
      by_cases hlt : N + j < 64
      · have q1 : (N : Int) + (j : Int) < 64 := by omega
        have ho' := ho.alloc (.cells #[.int .u8 0] 5)
        have hn : Holds (wr.alloc (.cells #[.int .u8 0] 5)) (some ⟨wr.heap.size, 0, none⟩) 1 [0] := holds_new wr [0] _ _ rfl
        have HZ : Hid (Mm.keyOf k ++ Sm.zeros j ++ [0] = Mm.keyOf k ++ Sm.zeros (j + 1)) := by
          rw [List.append_assoc]; unfold Sm.zeros; rw [List.replicate_succ']; exact rfl
        generalize Mm.keyOf k ++ Sm.zeros j = Y at ho ho' HZ
        go_wp2_with (at_builtin; refine wpList_append_bytes _ rfl _ _ rfl W0.heap.size g (N + j) cap Y [0] (some ⟨wr.heap.size, 0, none⟩) 1 1 rfl ho' rfl rfl hn (by omega) ?_; intro g3 c3 w3 ho3 hb3)
        have B3 : Below W0.heap.size W0 w3 := (B.alloc B.size _).trans hb3
        refine ⟨⟨g3, c3, j + 1, rfl, by omega, ?_, B3⟩, by simp [sliceLen]; omega⟩
        rw [← HZ.out]
        exact ho3
      · have hjN : N + j = 64 := by omega
        obtain rfl : j = 64 - N := by omega
        rw [← h64, hjN] at ho
        rw [hjN]
        have lK := Mm.key64_length k
        generalize hKe : Mm.key64 k = K at ho lK
        have HK : Hid (Mm.key64 k = K) := hKe
        clear hKe h64 hlt hj hjN hNk hKl
        have T0 : ThreeAt W0 K g cap 0 0 (.slice none 0 0) (.slice none 0 0) wr := ⟨ho, ⟨by rw [cs_length, Mm.mask_length]; simp, .inl ⟨rfl, rfl⟩⟩, ⟨by rw [cs_length, Mm.mask_length]; simp, .inl ⟨rfl, rfl⟩⟩, .inr (by simp [Value.ownBlock]), .inr (by simp [Value.ownBlock]), .inl rfl, B⟩
        clear ho B
        go_wp2_with fail
        go_loopw [9, 10, 11] (fun vi vo u wr2 => ∃ i : Nat, u = .int .i64 (i : Int) ∧ i ≤ 64 ∧ ThreeAt W0 K g cap i i vi vo wr2) (fun _ _ u _ => 64 - (intOf u).toNat)
        case atStart => exact ⟨0, rfl, by omega, T0⟩
        case round =>
          clear T0
          obtain ⟨i, rfl, hi, h3⟩ := hrel
          by_cases hlt : i < 64
          · have q2 : (i : Int) < 64 := by omega
            obtain ⟨x, hx⟩ : ∃ x, K[i]'(by omega) = x := ⟨_, rfl⟩
            have hx1 : K[i]? = some x := by rw [← hx]; simp
            have e1 := Mm.mask_succ 54 K i (by omega)
            have e2 := Mm.mask_succ 92 K i (by omega)
            rw [hx] at e1 e2
            have x1 : bits .xor .u8 (x.toNat : Int) 54 = (((x ^^^ 54).toNat : Nat) : Int) := Mm.xor_u8 x 54
            have x2 : bits .xor .u8 (x.toNat : Int) 92 = (((x ^^^ 92).toNat : Nat) : Int) := Mm.xor_u8 x 92
            have c1 := h3.cell i x hx1
            have A1 := h3.below (below_alloc wr (.cells #[.int .u8 ((x ^^^ 54).toNat : Int)] 5))
            have n1 : Holds (wr.alloc (.cells #[.int .u8 ((x ^^^ 54).toNat : Int)] 5)) (some ⟨wr.heap.size, 0, none⟩) 1 [x ^^^ 54] := holds_new wr [x ^^^ 54] _ _ rfl
            have HE1 : Hid _ := e1
            have HE2 : Hid _ := e2
            clear h3 hx e1 e2
            go_wp2_with (first | (at_builtin; refine wpList_append_apart _ rfl _ _ rfl W0.heap.size i u9 (Mm.mask 54 (K.take i)) [x ^^^ 54] ⟨wr.heap.size, 0, none⟩ 1 1 rfl A1.ri rfl rfl n1 (by omega) A1.bel.size (by omega) ?_; intro g5 c5 w5 ho5 hg5 hat5; have h5 := A1.inner HE1.out ho5 hg5 hat5; have c2 := h5.cell i x hx1; have A2 := h5.below (below_alloc w5 (.cells #[.int .u8 ((x ^^^ 92).toNat : Int)] 5)); have n2 : Holds (w5.alloc (.cells #[.int .u8 ((x ^^^ 92).toNat : Int)] 5)) (some ⟨w5.heap.size, 0, none⟩) 1 [x ^^^ 92] := holds_new w5 [x ^^^ 92] _ _ rfl; clear A1 n1 ho5 hg5 hat5 h5) | (at_builtin; refine wpList_append_apart _ rfl _ _ rfl W0.heap.size i u10 (Mm.mask 92 (K.take i)) [x ^^^ 92] ⟨w5.heap.size, 0, none⟩ 1 1 rfl A2.ro rfl rfl n2 (by omega) A2.bel.size (by omega) ?_; intro g6 c6 w6 ho6 hg6 hat6; have h6 := A2.outer HE2.out ho6 hg6 hat6; clear A2 n2 ho6 hg6 hat6))
            exact ⟨⟨i + 1, by simp, by omega, h6⟩, by simp [intOf]; omega⟩
          · have q2 : ¬ (i : Int) < 64 := by omega
            obtain rfl : i = 64 := by omega
            have hTag := Mm.tag_def k d m
            rw [HK.out] at hTag
            have r9 := h3.ri
            have r10 := h3.ro
            rw [List.take_of_length_le (by omega)] at r9 r10
            have io := h3.io
            have B3 := h3.bel
            have lI := Mm.mask_length 54 K
            have lO := Mm.mask_length 92 K
            rw [lK] at lI lO
            generalize Mm.mask 54 K = I at r9 hTag lI
            generalize Mm.mask 92 K = O at r10 hTag lO
            have tp := text_pos d m
            have Bw : Below w.heap.size w wr := B0.trans (B3.mono (by omega))
            have hX := rtext_any d b cb m wr (hb.below Bw) (by omega)
            generalize Mm.text d m = T at hX hT tp hTag
            have HX := hideP hX
            clear h3 hX Bw hlt hi
            go_wp2_with fail
            refine HX.out.mono ?_
            clear HX
            rintro e4 w4 ⟨g4, c4, rfl, ho4, hb4⟩
            have r9' := OwnV.after hb4 r9
            have r10' := OwnV.after hb4 r10
            have h4 := ho4.holds
            have B4 := Below.then B3 hb4
            obtain ⟨D, hD⟩ : ∃ D, Mm.behind I T = D := ⟨_, rfl⟩
            have lD : D.length = 32 := by rw [← hD]; exact Mm.behind_length _ _
            rw [hD] at hTag
            have HT : Hid (Mm.tag k d m = Mm.behind O D) := hTag
            have HD : Hid (Mm.behind I T = D) := hD
            clear hD hTag r9 r10 B3 ho4 hb4
            go_wp2_with (at_builtin; refine wpList_append_apart _ rfl _ _ rfl W0.heap.size 64 u9 I T ⟨g4, 0, none⟩ T.length c4 rfl r9' rfl rfl h4 tp B4.size (by omega) ?_; intro g5 c5 w5 ho5 hg5 hat5)
            obtain ⟨r10x, _⟩ := apart_step hg5 hat5 r10' (own_swap io)
            have B5 := below_grown B4 r9' hg5 B4.size
            refine (refSum_at (some ⟨g5, 0, none⟩) c5 (64 + T.length) (I ++ T) w5 (by rw [List.length_append, lI]) ho5.holds (by omega)).mono ?_
            rintro e6 w6 ⟨rfl, hb6⟩
            rw [← Mm.behind_def, HD.out]
            have B6 := Below.then B5 hb6
            have r10y := OwnV.after hb6 r10x
            have iD : (Tryd.prog.info? 42).map (·.size) = some (cs D).length := by rw [cs_length, lD]; exact Tryd.infoDigest
            have oD := cs_one D
            have zs : (cs (Sm.zeros 32)).toArray.size = (cs D).length := by rw [cs_length, lD]; rfl
            have h7 : Holds (w6.alloc (.cells (cs D).toArray 42)) (some ⟨w6.heap.size, 0, none⟩) 32 D := lD ▸ holds_new w6 D (cs D).toArray 42 (by simp)
            have b7 := below_alloc w6 (.cells (cs D).toArray 42)
            have r10z := OwnV.after b7 r10y
            have B7 := Below.then B6 b7
            clear r9' r10' h4 B4 ho5 hg5 hat5 r10x B5 hb6 B6 r10y b7 io HD
            go_wp2_with (first | (refine wpList_store_new rfl 42 _ _ rfl w6.heap.size rfl (cs D) rfl rfl zs iD oD ?_) | (at_builtin; refine wpList_append_apart _ rfl _ _ rfl W0.heap.size 64 u10 O D ⟨w6.heap.size, 0, none⟩ 32 32 rfl r10z rfl lD h7 (by omega) B7.size (by omega) ?_; intro g8 c8 w8 ho8 hg8 hat8; have B8 := below_grown B7 r10z hg8 B7.size; clear r10z h7 B7 hg8 hat8))
            refine (refSum_at (some ⟨g8, 0, none⟩) c8 96 (O ++ D) w8 (by rw [List.length_append, lO, lD]) ho8.holds (by omega)).mono ?_
            rintro e9 w9 ⟨rfl, hb9⟩
            rw [← Mm.behind_def, ← HT.out]
            have B9 := Below.then B8 hb9
            have lT := Mm.tag_length k d m
            generalize hE : Mm.tag k d m = V at lT ⊢
            have HE : Hid (Mm.tag k d m = V) := hE
            clear hE HT
            have tx : w9.there w.heap.size 0 (cs V).length := by rw [cs_length, lT]; exact there_lower t0 B9 (by omega)
            have iT : (Tryd.prog.info? 42).map (·.size) = some (cs V).length := by rw [cs_length, lT]; exact Tryd.infoDigest
            have oT := cs_one V
            have P6 := below_cells (Nat.le_refl _) (cs V) 0 w9 (B0.trans (B9.mono (by omega)))
            have R6 := World.rangeAt_setCells_same w9 w.heap.size 0 (cs V) tx
            clear B9 hb9 B8 ho8
            go_wp2_with (refine wpList_store_ex rfl 42 _ _ rfl w.heap.size 0 (cs V) rfl rfl tx iT oT ?_; intro wf hwf; rw [hwf] at P6 R6; clear tx hwf)
            exact bodyPost_ret (results_cell (b := w.heap.size) (o := 0) (cs := cs V) rfl rfl R6 Tryd.underlying42 rfl iT) rfl ⟨by rw [HE.out], P6⟩
theorem rtag_at (k d m : List UInt8) (a b : Option Addr) (n q ca cb : Nat) (w : World) (hn : k.length = n) (hq : m.length = q) (ha : Holds w a ca k) (hb : Holds w b cb m) (hk : n ≤ 10000000000) (hd : d.length ≤ 10000000000) (hm : q ≤ 10000000000) :
    Calls Tryd.prog 32 #[.slice a n ca, str d, .slice b q cb] w fun e w' => e = .returned (ba (Mm.tag k d m)) ∧ Below w.heap.size w w' := by
  subst hn hq
  exact rtag_any k d m a b ca cb w ha hb hk hd hm
end Go.Proofs.YtfpdiafedoppnaaDoor
