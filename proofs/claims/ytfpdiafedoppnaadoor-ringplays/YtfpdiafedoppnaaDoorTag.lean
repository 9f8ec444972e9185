/-
  The contract of Tag: the document's keyed sum; nothing that was there turns.
-/
import Derived.Test.YtfpdiafedoppnaaDoorPads
import Derived.Test.YtfpdiafedoppnaaDoorMText
import Derived.Deep.RegionHeld3
import Derived.StillTailTactics
namespace Go.Proofs.YtfpdiafedoppnaaDoor
open Go.RowKit

theorem behind_at (p l : List UInt8) (b : Option Addr) (c n : Nat) (w : World) (hn : l.length = n) (hp : p.length = 64) (hb : Holds w b c l) (hL : Laid w) (hl : n ≤ 100000000000) :
    Calls Tryd.prog 38 #[ba p, .slice b n c] w fun e w' => e = .returned (ba (Mm.behind p l)) ∧ Below w.heap.size w w' := by
  subst hn
  exact behind_any p l b c w hp hb hL hl

set_option maxRecDepth 100000 in
set_option maxHeartbeats 1600000 in
theorem tag_any (k d m : List UInt8) (a b : Option Addr) (ca cb : Nat) (w : World) (ha : Holds w a ca k) (hb : Holds w b cb m) (hL : Laid w) (hk : k.length ≤ 10000000000) (hd : d.length ≤ 10000000000) (hm : m.length ≤ 10000000000) :
    Calls Tryd.prog 29 #[.slice a k.length ca, str d, .slice b m.length cb] w fun e w' => e = .returned (ba (Mm.tag k d m)) ∧ Below w.heap.size w w' := by
  have hT := text_length d m (by omega)
  go_enter Tryd.func29, Tryd.ntmps29
  go_wp2_with fail
  have B0 := below_alloc w (.cells (cs (Sm.zeros 32)).toArray 42)
  have t0 := there_new w (cs (Sm.zeros 32)).toArray 42 32 rfl
  change Calls _ _ _ (w.alloc (.cells (cs (Sm.zeros 32)).toArray 42)) _
  generalize w.alloc (.cells (cs (Sm.zeros 32)).toArray 42) = w0 at B0 t0 ⊢
  refine (pads_any k a ca w0 (ha.below B0) (hL.below B0) (by omega)).mono ?_
  rintro e1 w1 ⟨rfl, hb1⟩
  have B1 := Below.then B0 hb1
  have t1 := there_below t0 hb1
  have lO := Mm.mask64 92 k
  have lI := Mm.mask64 54 k
  have hTag := Mm.tag_def k d m
  generalize Mm.mask 92 (Mm.key64 k) = O at lO hTag ⊢
  generalize Mm.mask 54 (Mm.key64 k) = I at lI hTag ⊢
  have iO : (Tryd.prog.info? 79).map (·.size) = some (cs O).length := by rw [cs_length, lO]; exact Tryd.infoPad
  have iI : (Tryd.prog.info? 79).map (·.size) = some (cs I).length := by rw [cs_length, lI]; exact Tryd.infoPad
  have oO := cs_one O
  have oI := cs_one I
  have T1 := two_new w1
  have T2 := T1.outer O lO
  have u1 : ((w1.alloc (.cells (cs (Sm.zeros 64)).toArray 79)).alloc (.cells (cs (Sm.zeros 64)).toArray 79)).there w1.heap.size 0 (cs O).length := by rw [cs_length, lO]; exact T1.tO
  obtain ⟨D, hD⟩ : ∃ D, Mm.behind I (Mm.text d m) = D := ⟨_, rfl⟩
  have lD : D.length = 32 := by rw [← hD]; exact Mm.behind_length _ _
  rw [hD] at hTag
  have HT : Hid (Mm.tag k d m = Mm.behind O D) := hTag
  have HD : Hid (Mm.behind I (Mm.text d m) = D) := hD
  clear hD
  clear hTag t0 B0 hb1 T1
  go_wp2_with (first | (refine wpList_store_ex rfl 79 _ _ rfl w1.heap.size 0 (cs O) rfl rfl u1 iO oO ?_; intro w2 hw2; have T3 := T2; change World.setCells ((w1.alloc (.cells (cs (Sm.zeros 64)).toArray 79)).alloc (.cells (cs (Sm.zeros 64)).toArray 79)) w1.heap.size 0 (cs O) = w2 at hw2; rw [hw2] at T3; have T4 := T3.inner I lI; have u2 : w2.there (w1.heap.size + 1) 0 (cs I).length := (cs_length I).symm ▸ lI.symm ▸ T3.tI; clear u1 hw2 T2) | (refine wpList_store_ex rfl 79 _ _ rfl (w1.heap.size + 1) 0 (cs I) rfl rfl u2 iI oI ?_; intro w3 hw3; have T5 := T4; rw [hw3] at T5; clear u2 hw3 T4 T3))
  have B3 := Below.then B1 T5.bel
  have t3 := there_below t1 T5.bel
  have hm3 := hb.below B3
  have L3 := hL.below B3
  have rO := T5.ro
  have rI := T5.ri
  have z1 := B1.size
  have z3 := T5.bel.size
  generalize w1.heap.size = G at *
  have hu := Tryd.underlying79
  clear T5 B1 t1 oO oI ha hb hL
  simp only [Act.put]
  go_cut [9] (fun t wc => ∃ g, t = .pointer (some ⟨g, 0, none⟩) ∧ w.heap.size ≤ g ∧ wc.rangeAt g 0 (cs D) ∧ Below w3.heap.size w3 wc)
  case first =>
    have bD : Below w3.heap.size w3 w3.drew := (Below.refl w3.heap.size w3).drew
    have bZ := Below.then bD (below_alloc w3.drew (.cells (cs (Sm.zeros 32)).toArray 42))
    have yZ := rangeAt_below rI bZ
    have hu2 := Tryd.underlying42
    have iD : (Tryd.prog.info? 42).map (·.size) = some (cs D).length := by rw [cs_length, lD]; exact Tryd.infoDigest
    have oD := cs_one D
    have hG : G + 1 < w3.heap.size := by
      have := two_cell (k := 0) rI (x := I[0]'(by omega)) (by simp)
      exact cell_block this
    have eD : (cs (Sm.zeros 32)).toArray.size = (cs D).length := by rw [cs_length, lD]; rfl
    have tZ := there_new w3.drew (cs (Sm.zeros 32)).toArray 42 (cs D).length eD
    go_region_held3 (fun w' => w'.rangeAt (G + 1) 0 (cs I)) (first | exact rI | exact y4 | exact y5 | exact yZ | exact rangeAt_below y5 (below_alloc _ _) | exact rangeAt_below y4 (below_alloc _ _) | exact World.rangeAt_setCells_apart y5 _ _ _ (.inl (by simp; omega)) | exact World.rangeAt_setCells_apart (rangeAt_below y5 (below_alloc _ _)) _ _ _ (.inl (by simp; omega))) (first | (go_at_call 39; refine (text_any d b cb m w3.drew hm3.drew (by omega)).mono ?_; rintro e4 w4 ⟨g4, c4, rfl, ho4, hb4⟩; have b4 : Below w3.heap.size w3 w4 := Below.then bD hb4; have y4 := rangeAt_below rI b4; have z4 := b4.size; have b6 := Below.then b4 (below_alloc w4 (.cells (cs (Sm.zeros 32)).toArray 42)); have t6 := there_new w4 (cs (Sm.zeros 32)).toArray 42 (cs D).length eD) | (go_at_call 39; refine (text_any d b cb m (w3.drew.alloc (.cells (cs (Sm.zeros 32)).toArray 42)) (hm3.below bZ) (by omega)).mono ?_; rintro e4 w4 ⟨g4, c4, rfl, ho4, hb4⟩; have b4 : Below w3.heap.size w3 w4 := Below.then bZ hb4; have y4 := rangeAt_below rI b4; have z4 := b4.size; have t6 := there_below tZ hb4) | (go_at_call 38; refine (behind_at I (Mm.text d m) (some ⟨g4, 0, none⟩) c4 (Mm.text d m).length w4 rfl lI ho4.holds (L3.below b4) (by omega)).mono ?_; rintro e5 w5 ⟨rfl, hb5⟩; have b5 := Below.then b4 hb5; have y5 := rangeAt_below rI b5; have z5 := b5.size; have t7 := there_new w5 (cs (Sm.zeros 32)).toArray 42 (cs D).length eD; (first | (have t8 := there_below t6 hb5) | skip); rw [HD.out]) | (go_at_call 38; refine (behind_at I (Mm.text d m) (some ⟨g4, 0, none⟩) c4 (Mm.text d m).length (w4.alloc (.cells (cs (Sm.zeros 32)).toArray 42)) rfl lI (ho4.holds.below (below_alloc _ _)) (L3.below b6) (by omega)).mono ?_; rintro e5 w5 ⟨rfl, hb5⟩; have b5 := Below.then b6 hb5; have y5 := rangeAt_below rI b5; have z5 := b5.size; have t7 := there_below t6 hb5; rw [HD.out]))
    all_goals go_wp2_with fail
    · go_meet
      refine ⟨w5.heap.size, rfl, by omega, World.rangeAt_setCells_same _ _ _ _ t7, ?_⟩
      exact below_cells z5 _ _ _ (Below.then b5 (below_alloc w5 _))
    · go_meet
      refine ⟨w4.heap.size, rfl, by omega, World.rangeAt_setCells_same _ _ _ _ t7, ?_⟩
      exact below_cells z4 _ _ _ b5
    · go_meet
      refine ⟨w3.heap.size, rfl, by omega, World.rangeAt_setCells_same _ _ _ _ t8, ?_⟩
      exact below_cells (Nat.le_refl _) _ _ _ b5
  case rest =>
    obtain ⟨g9, rfl, hg9, rD, b9⟩ := hcut
    have B9 := Below.then B3 b9
    have L9 := L3.below b9
    have rO9 := rangeAt_below rO b9
    have t9 := there_below t3 b9
    have hH : Holds wc.drew (some ⟨g9, 0, none⟩) 32 D := lD ▸ (holds_range rD).drew
    have L9' := L9.below (Below.refl wc.heap.size wc).drew
    have hu2 := Tryd.underlying79
    clear rO rI L3 hm3 t3 b9 B3
    go_wp2_with fail
    have rO9' : wc.drew.rangeAt G 0 (cs O) := rangeAt_below rO9 (Below.refl _ _).drew
    refine wp_region_still_tail 2 (by kernel_rfl) (by kernel_rfl) ?_
    simp only [List.take_succ_cons, List.take_zero, List.drop_succ_cons, List.drop_zero]
    refine wpStill_load_mid rfl 79 _ rfl G 0 rfl (cs O) _ rO9' Tryd.underlying79 rfl iO ?_
    still_step
    refine wpStill_nil ?_
    go_wp2_with fail
    refine (behind_at O D (some ⟨g9, 0, none⟩) 32 32 wc.drew lD lO hH L9' (by omega)).mono ?_
    rintro e10 wx ⟨rfl, hbx⟩
    have bx : Below wc.heap.size wc wx := Below.then (Below.refl wc.heap.size wc).drew hbx
    have Bx := Below.then B9 bx
    rw [← HT.out]
    have lT := Mm.tag_length k d m
    generalize hE : Mm.tag k d m = T at lT ⊢
    have HE : Hid (Mm.tag k d m = T) := hE
    clear hE HT
    have tx : wx.there w.heap.size 0 (cs T).length := by rw [cs_length, lT]; exact there_below t9 bx
    have iT : (Tryd.prog.info? 42).map (·.size) = some (cs T).length := by rw [cs_length, lT]; exact Tryd.infoDigest
    have oT := cs_one T
    have P6 := below_cells (Nat.le_refl _) (cs T) 0 wx Bx
    have R6 := World.rangeAt_setCells_same wx w.heap.size 0 (cs T) tx
    clear hbx bx Bx rD B9 L9 rO9 t9 hH L9' rO9'
    go_wp2_with (refine wpList_store_ex rfl 42 _ _ rfl w.heap.size 0 (cs T) rfl rfl tx iT oT ?_; intro w6 hw6; rw [hw6] at P6 R6; clear tx hw6)
    exact bodyPost_ret (results_cell (b := w.heap.size) (o := 0) (cs := cs T) rfl rfl R6 Tryd.underlying42 rfl iT) rfl ⟨by rw [HE.out], P6⟩

theorem tag_at (k d m : List UInt8) (a b : Option Addr) (n q ca cb : Nat) (w : World) (hn : k.length = n) (hq : m.length = q) (ha : Holds w a ca k) (hb : Holds w b cb m) (hL : Laid w) (hk : n ≤ 10000000000) (hd : d.length ≤ 10000000000) (hm : q ≤ 10000000000) :
    Calls Tryd.prog 29 #[.slice a n ca, str d, .slice b q cb] w fun e w' => e = .returned (ba (Mm.tag k d m)) ∧ Below w.heap.size w w' := by
  subst hn hq
  exact tag_any k d m a b ca cb w ha hb hL hk hd hm
end Go.Proofs.YtfpdiafedoppnaaDoor
