/-
  The contract of sumBehind: the sum of a masked key and the bytes behind it.
-/
import Derived.Test.YtfpdiafedoppnaaDoorAt
import Derived.Test.YtfpdiafedoppnaaDoorMm
namespace Go.Proofs.YtfpdiafedoppnaaDoor
open Go.RowKit

theorem holds_range {w : World} {g o : Nat} {l : List UInt8} (h : w.rangeAt g o (cs l)) : Holds w (some ⟨g, o, none⟩) l.length l :=
  ⟨Nat.le_refl _, fun h => (by cases h), fun ad had j u hu => by cases had; rw [Addr.add_lit]; exact h j u hu⟩

theorem But.there {h : Nat} {w w' : World} (x : But h w w') {g o n : Nat} (hg : g ≠ h) (t : w.there g o n) : w'.there g o n := fun j hj => by
  obtain ⟨h1, h2⟩ := t j hj
  obtain ⟨v, hv⟩ := Option.isSome_iff_exists.1 h1
  have hk := cell_block hv
  exact ⟨by rw [x.cell (p := ⟨g, o + j, none⟩) hg hk, hv]; rfl, by rw [x.frozen (p := ⟨g, o + j, none⟩) hg hk]; exact h2⟩

set_option maxRecDepth 100000 in
set_option maxHeartbeats 1600000 in
theorem behind_any (p l : List UInt8) (b : Option Addr) (c : Nat) (w : World) (hp : p.length = 64) (hb : Holds w b c l) (hL : Laid w) (hl : l.length ≤ 100000000000) :
    Calls Tryd.prog 38 #[ba p, .slice b l.length c] w fun e w' => e = .returned (ba (Mm.behind p l)) ∧ Below w.heap.size w w' := by
  have sz := hL.size
  have hbl : ∀ ad, b = some ad → 0 < l.length → ad.block < w.heap.size := fun ad h h0 => hb.block h h0
  have iP : (Tryd.prog.info? 79).map (·.size) = some (cs p).length := by rw [cs_length, hp]; kernel_rfl
  go_enter Tryd.func38, Tryd.ntmps38
  go_wp2_with fail
  have B0 := below_alloc w (.cells (cs p).toArray 79)
  have R0 := rangeAt_new w (cs p).toArray 79 (cs p) (by simp)
  have s0 : (w.alloc (.cells (cs p).toArray 79)).heap.size = w.heap.size + 1 := by simp
  generalize hw0 : w.alloc (.cells (cs p).toArray 79) = w0 at B0 R0 s0 ⊢
  clear hw0
  have B1 := Below.then B0 (below_alloc w0 (.cells (cs (Sm.zeros 32)).toArray 42))
  have R1 := rangeAt_below R0 (below_alloc w0 (.cells (cs (Sm.zeros 32)).toArray 42))
  have t1 := there_new w0 (cs (Sm.zeros 32)).toArray 42 32 rfl
  have s1 : (w0.alloc (.cells (cs (Sm.zeros 32)).toArray 42)).heap.size = w.heap.size + 1 + 1 := by simp [s0]
  rw [s0] at t1
  change Calls _ _ _ (w0.alloc (.cells (cs (Sm.zeros 32)).toArray 42)) _
  generalize w0.alloc (.cells (cs (Sm.zeros 32)).toArray 42) = w1 at B1 t1 s1 R1 ⊢
  clear B0 R0 s0
  refine (new_any w1 (hL.below B1)).mono ?_
  rintro e2 w2 ⟨rfl, r2, hb2⟩
  rw [s1] at r2
  rw [s1]
  have B2 := Below.then B1 hb2
  have R2 := rangeAt_below R1 hb2
  have t2 := there_below t1 hb2
  have z2 := hb2.size
  rw [s1] at z2
  clear B1 R1 t1 s1 hb2
  go_wp2_with fail
  refine (add_at (w.heap.size + 1 + 1) [] p (some ⟨w.heap.size, 0, none⟩) 64 64 w2 hp r2 (hp ▸ holds_range R2) (fun ad h _ => by cases h; show w.heap.size ≠ _; omega) (hL.below B2) (by omega) (by decide)).mono ?_
  rintro e3 w3 ⟨rfl, r3, hb3⟩
  rw [List.nil_append] at r3
  have B3 : Below w.heap.size w w3 := B2.trans (hb3.lower (by omega) B2.size)
  have t3 : w3.there (w.heap.size + 1) 0 32 := hb3.there (by omega) t2
  clear r2 R2 t2 hb3 B2 z2
  go_wp2_with fail
  refine (add_any (w.heap.size + 1 + 1) p l b c w3 r3 (hb.below B3) (fun ad h h0 => by have := hbl ad h h0; omega) (hL.below B3) (by omega) (by omega)).mono ?_
  rintro e4 w4 ⟨rfl, r4, hb4⟩
  have B4 : Below w.heap.size w w4 := B3.trans (hb4.lower (by omega) B3.size)
  have t4 : w4.there (w.heap.size + 1) 0 32 := hb4.there (by omega) t3
  clear r3 t3 hb4 B3
  go_wp2_with fail
  refine (sum_any w4 (w.heap.size + 1 + 1) (p ++ l) r4 (hL.below B4) (by rw [List.length_append]; omega)).mono ?_
  rintro e5 w5 ⟨rfl, hb5⟩
  rw [← Mm.behind_def]
  have B5 := Below.then B4 hb5
  have hD := Mm.behind_length p l
  generalize hE : Mm.behind p l = D at hD ⊢
  have HE : Hid (Mm.behind p l = D) := hE
  clear hE
  have t5 : w5.there (w.heap.size + 1) 0 (cs D).length := by rw [cs_length, hD]; exact there_below t4 hb5
  have iD : (Tryd.prog.info? 42).map (·.size) = some (cs D).length := by rw [cs_length, hD]; exact Tryd.infoDigest
  have oD := cs_one D
  have P6 := below_cells (b := w.heap.size + 1) (Nat.le_succ _) (cs D) 0 w5 B5
  have R6 := World.rangeAt_setCells_same w5 (w.heap.size + 1) 0 (cs D) t5
  clear r4 t4 hb5 B4 B5 hbl hb hL
  go_wp2_with (refine wpList_store_ex rfl 42 _ _ rfl (w.heap.size + 1) 0 (cs D) rfl rfl t5 iD oD ?_; intro w6 hw6; rw [hw6] at P6 R6; clear t5 hw6)
  exact bodyPost_ret (results_cell (b := w.heap.size + 1) (o := 0) (cs := cs D) rfl rfl R6 Tryd.underlying42 rfl iD) rfl ⟨by rw [HE.out], P6⟩
end Go.Proofs.YtfpdiafedoppnaaDoor
