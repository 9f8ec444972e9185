/-
  The contracts of Key, the program's and the reference's: the sum of the text key, the seed and the name, as pack lays them.
-/
import Derived.Test.YtmdeielcoomeeaaDoorPutEx
import Derived.Test.YtmdeielcoomeeaaDoorAt
import Derived.Test.YtmdeielcoomeeaaDoorRefAt
import Derived.Test.YtmdeielcoomeeaaDoorMm
namespace Go.Proofs.YtmdeielcoomeeaaDoor
open Go.RowKit

/-- what a principal's key is the sum of, and its first pieces -/
theorem key_pieces (seed : Int) (who : List UInt8) (h0 : -9223372036854775808 ≤ seed) (h1 : seed ≤ 9223372036854775807) (hw : who.length ≤ 140737488351232) :
    ∃ T1 T2 T3, [] ++ Pm.vb (Pm.tb (([107, 101, 121] : List UInt8).length : Int)) ++ [107, 101, 121] = T1 ∧ T1 ++ Pm.vb (Pm.tb seed) = T2 ∧ T2 ++ Pm.vb (Pm.tb (who.length : Int)) ++ who = T3 ∧ T3 = Mm.keyText seed who ∧ T1.length ≤ 13 ∧ T2.length ≤ 23 ∧ T3.length ≤ who.length + 33 := by
  have v1 := Pm.vb_len10 _ (Pm.tb_lt 3 (by omega) (by omega))
  have v2 := Pm.vb_len10 _ (Pm.tb_lt seed h0 h1)
  have v3 := Pm.vb_len10 _ (Pm.tb_lt (who.length : Int) (by omega) (by omega))
  refine ⟨_, _, _, rfl, rfl, rfl, ?_, ?_, ?_, ?_⟩
  · rw [Mm.keyText_def, List.nil_append]; rfl
  · rw [List.nil_append, List.length_append]
    have : (Pm.vb (Pm.tb (([107, 101, 121] : List UInt8).length : Int))).length ≤ 10 := v1
    simp only [List.length_cons, List.length_nil] at this ⊢; omega
  · rw [List.nil_append, List.length_append, List.length_append]
    have : (Pm.vb (Pm.tb (([107, 101, 121] : List UInt8).length : Int))).length ≤ 10 := v1
    simp only [List.length_cons, List.length_nil] at this ⊢; omega
  · rw [List.nil_append, List.length_append, List.length_append, List.length_append, List.length_append]
    have : (Pm.vb (Pm.tb (([107, 101, 121] : List UInt8).length : Int))).length ≤ 10 := v1
    simp only [List.length_cons, List.length_nil] at this ⊢; omega

set_option maxRecDepth 100000 in
set_option maxHeartbeats 1600000 in
theorem key_any (seed : Int) (who : List UInt8) (w : World) (hL : Laid w) (h0 : -9223372036854775808 ≤ seed) (h1 : seed ≤ 9223372036854775807) (hw : who.length ≤ 10000000000) :
    Calls Tryd.prog 16 #[.int .i64 seed, str who] w fun e w' => e = .returned (ba (Mm.pkey seed who)) ∧ Below w.heap.size w w' := by
  obtain ⟨T1, T2, T3, e1, e2, e3, e4, l1, l2, l3⟩ := key_pieces seed who h0 h1 (by omega)
  have H1 := hideP e1
  have H2 := hideP e2
  have H3 := hideP e3
  have H4 := hideP e4
  clear e1 e2 e3 e4
  go_enter Tryd.func16, Tryd.ntmps16
  go_wp2_with fail
  have B0 := below_alloc w (.cells (cs (Sm.zeros 32)).toArray 26)
  have t0 := there_new w (cs (Sm.zeros 32)).toArray 26 32 rfl
  change Calls _ _ _ (w.alloc (.cells (cs (Sm.zeros 32)).toArray 26)) _
  generalize w.alloc (.cells (cs (Sm.zeros 32)).toArray 26) = w0 at B0 t0 ⊢
  refine (putText_ex none 0 0 T1.length [] [107, 101, 121] T1 w0 rfl (Holds.nil _) (by simp) H1.out rfl).mono ?_
  rintro _ w1 ⟨g1, c1, rfl, o1, b1⟩
  have B1 := Below.then B0 b1
  have t1 := there_below t0 b1
  go_wp2_with fail
  refine (putInt_ex (some ⟨g1, 0, none⟩) T1.length c1 T2.length T1 T2 seed w1 rfl o1.holds (by omega) h0 h1 H2.out rfl).mono ?_
  rintro _ w2 ⟨g2, c2, rfl, o2, b2⟩
  have B2 := Below.then B1 b2
  have t2 := there_below t1 b2
  clear B0 t0 b1 o1 B1 t1 b2
  go_wp2_with fail
  refine (putText_ex (some ⟨g2, 0, none⟩) T2.length c2 T3.length T2 who T3 w2 rfl o2.holds (by omega) H3.out rfl).mono ?_
  rintro _ w3 ⟨g3, c3, rfl, o3, b3⟩
  have B3 := Below.then B2 b3
  have t3 := there_below t2 b3
  clear o2 B2 t2 b3
  go_wp2_with fail
  refine (hsum_at (some ⟨g3, 0, none⟩) c3 T3.length T3 w3 rfl o3.holds (hL.below B3) (by omega)).mono ?_
  rintro _ w4 ⟨rfl, b4⟩
  have B4 := Below.then B3 b4
  have hE : Sm.sum T3 = Mm.pkey seed who := by rw [H4.out, Mm.pkey_def]
  have lV := Sm.sum_length T3
  generalize Sm.sum T3 = V at hE lV ⊢
  have HE := hideP hE
  clear hE
  have tx : w4.there w.heap.size 0 (cs V).length := by rw [cs_length, lV]; exact there_below t3 b4
  have iT : (Tryd.prog.info? 26).map (·.size) = some (cs V).length := by rw [cs_length, lV]; exact Tryd.infoDigest
  have oT := cs_one V
  have P6 := below_cells (Nat.le_refl _) (cs V) 0 w4 B4
  have R6 := World.rangeAt_setCells_same w4 w.heap.size 0 (cs V) tx
  clear B4 b4 B3 t3 o3
  go_wp2_with (refine wpList_store_ex rfl 26 _ _ rfl w.heap.size 0 (cs V) rfl rfl tx iT oT ?_; intro wf hwf; rw [hwf] at P6 R6; clear tx hwf)
  exact bodyPost_ret (results_cell (b := w.heap.size) (o := 0) (cs := cs V) rfl rfl R6 Tryd.underlying26 rfl iT) rfl ⟨by rw [← HE.out], P6⟩

set_option maxRecDepth 100000 in
set_option maxHeartbeats 1600000 in
theorem rkey_any (seed : Int) (who : List UInt8) (w : World) (h0 : -9223372036854775808 ≤ seed) (h1 : seed ≤ 9223372036854775807) (hw : who.length ≤ 140737488351232) :
    Calls Tryd.prog 17 #[.int .i64 seed, str who] w fun e w' => e = .returned (ba (Mm.pkey seed who)) ∧ Below w.heap.size w w' := by
  obtain ⟨T1, T2, T3, e1, e2, e3, e4, l1, l2, l3⟩ := key_pieces seed who h0 h1 hw
  have H1 := hideP e1
  have H2 := hideP e2
  have H3 := hideP e3
  have H4 := hideP e4
  clear e1 e2 e3 e4
  go_enter Tryd.func17, Tryd.ntmps17
  go_wp2_with fail
  have B0 := below_alloc w (.cells (cs (Sm.zeros 32)).toArray 26)
  have t0 := there_new w (cs (Sm.zeros 32)).toArray 26 32 rfl
  change Calls _ _ _ (w.alloc (.cells (cs (Sm.zeros 32)).toArray 26)) _
  generalize w.alloc (.cells (cs (Sm.zeros 32)).toArray 26) = w0 at B0 t0 ⊢
  refine (rputText_ex none 0 0 T1.length [] [107, 101, 121] T1 w0 rfl (Holds.nil _) (by simp) H1.out rfl).mono ?_
  rintro _ w1 ⟨g1, c1, rfl, o1, b1⟩
  have B1 := Below.then B0 b1
  have t1 := there_below t0 b1
  go_wp2_with fail
  refine (rputInt_ex (some ⟨g1, 0, none⟩) T1.length c1 T2.length T1 T2 seed w1 rfl o1.holds (by omega) h0 h1 H2.out rfl).mono ?_
  rintro _ w2 ⟨g2, c2, rfl, o2, b2⟩
  have B2 := Below.then B1 b2
  have t2 := there_below t1 b2
  clear B0 t0 b1 o1 B1 t1 b2
  go_wp2_with fail
  refine (rputText_ex (some ⟨g2, 0, none⟩) T2.length c2 T3.length T2 who T3 w2 rfl o2.holds (by omega) H3.out rfl).mono ?_
  rintro _ w3 ⟨g3, c3, rfl, o3, b3⟩
  have B3 := Below.then B2 b3
  have t3 := there_below t2 b3
  clear o2 B2 t2 b3
  go_wp2_with fail
  refine (refSum_at (some ⟨g3, 0, none⟩) c3 T3.length T3 w3 rfl o3.holds (by omega)).mono ?_
  rintro _ w4 ⟨rfl, b4⟩
  have B4 := Below.then B3 b4
  have hE : Sm.sum T3 = Mm.pkey seed who := by rw [H4.out, Mm.pkey_def]
  have lV := Sm.sum_length T3
  generalize Sm.sum T3 = V at hE lV ⊢
  have HE := hideP hE
  clear hE
  have tx : w4.there w.heap.size 0 (cs V).length := by rw [cs_length, lV]; exact there_below t3 b4
  have iT : (Tryd.prog.info? 26).map (·.size) = some (cs V).length := by rw [cs_length, lV]; exact Tryd.infoDigest
  have oT := cs_one V
  have P6 := below_cells (Nat.le_refl _) (cs V) 0 w4 B4
  have R6 := World.rangeAt_setCells_same w4 w.heap.size 0 (cs V) tx
  clear B4 b4 B3 t3 o3
  go_wp2_with (refine wpList_store_ex rfl 26 _ _ rfl w.heap.size 0 (cs V) rfl rfl tx iT oT ?_; intro wf hwf; rw [hwf] at P6 R6; clear tx hwf)
  exact bodyPost_ret (results_cell (b := w.heap.size) (o := 0) (cs := cs V) rfl rfl R6 Tryd.underlying26 rfl iT) rfl ⟨by rw [← HE.out], P6⟩
end Go.Proofs.YtmdeielcoomeeaaDoor
