/-
  The contract of the sum at once.
-/
import Derived.Test.YtfpdiafedoppnaaDoorAdd2
namespace Go.Proofs.YtfpdiafedoppnaaDoor
open Go.RowKit

theorem Holds.block {w : World} {a : Option Addr} {c : Nat} {l : List UInt8} (h : Holds w a c l) {ad : Addr} (ha : a = some ad) (h0 : 0 < l.length) : ad.block < w.heap.size := by
  have := h.2.2 _ ha 0 _ (cs_get l 0 h0)
  have hb : (ad.add 0).block = ad.block := by unfold Addr.add; split <;> rfl
  have := cell_block this
  rwa [hb] at this

set_option maxRecDepth 100000 in
set_option maxHeartbeats 1600000 in
theorem hsum_any (a : Option Addr) (c : Nat) (l : List UInt8) (w : World) (ha : Holds w a c l) (hL : Laid w) (hl : l.length ≤ 1000000000000) :
    Calls Tryd.prog 36 #[.slice a l.length c] w fun e w' => e = .returned (ba (Sm.sum l)) ∧ Below w.heap.size w w' := by
  have hne : ∀ ad, a = some ad → 0 < l.length → ad.block ≠ w.heap.size + 1 := fun ad h h0 => by
    have := ha.block h h0
    omega
  go_enter Tryd.func36, Tryd.ntmps36
  go_wp2_with fail
  have B1 := below_alloc w (.cells (cs (Sm.zeros 32)).toArray 42)
  have t1 := there_new w (cs (Sm.zeros 32)).toArray 42 32 rfl
  have s1 : (w.alloc (.cells (cs (Sm.zeros 32)).toArray 42)).heap.size = w.heap.size + 1 := by simp
  change Calls _ _ _ (w.alloc (.cells (cs (Sm.zeros 32)).toArray 42)) _
  generalize w.alloc (.cells (cs (Sm.zeros 32)).toArray 42) = w1 at B1 t1 s1 ⊢
  have L1 := hL.below B1
  have sz := hL.size
  refine (new_any w1 L1).mono ?_
  rintro e2 w2 ⟨rfl, r2, hb2⟩
  rw [s1] at r2
  rw [s1]
  have B2 := Below.then B1 hb2
  have t2 := there_below t1 hb2
  go_wp2_with fail
  refine (add_any (w.heap.size + 1) [] l a c w2 r2 (ha.below B2) hne (hL.below B2) (by omega) (by simpa using hl)).mono ?_
  rintro e3 w3 ⟨rfl, r3, hb3⟩
  rw [List.nil_append] at r3
  have B3 : Below w.heap.size w w3 := B2.trans (hb3.lower (Nat.le_succ _) B2.size)
  have t3 : w3.there w.heap.size 0 32 := fun j hj => by
    obtain ⟨h1, h2⟩ := t2 j hj
    obtain ⟨v, hv⟩ := Option.isSome_iff_exists.1 h1
    have hk := cell_block hv
    exact ⟨by rw [hb3.cell (p := ⟨w.heap.size, 0 + j, none⟩) (by show w.heap.size ≠ w.heap.size + 1; omega) hk, hv]; rfl, by rw [hb3.frozen (p := ⟨w.heap.size, 0 + j, none⟩) (by show w.heap.size ≠ w.heap.size + 1; omega) hk]; exact h2⟩
  go_wp2_with fail
  refine (sum_any w3 (w.heap.size + 1) l r3 (hL.below B3) hl).mono ?_
  rintro e4 w4 ⟨rfl, hb4⟩
  have B4 := Below.then B3 hb4
  have hl3 := Sm.sum_length l
  have t5 : w4.there w.heap.size 0 (cs (Sm.sum l)).length := by rw [cs_length, hl3]; exact there_below t3 hb4
  have iD : (Tryd.prog.info? 42).map (·.size) = some (cs (Sm.sum l)).length := by rw [cs_length, hl3]; exact Tryd.infoDigest
  have oD := cs_one (Sm.sum l)
  have P6 := below_cells (Nat.le_refl _) (cs (Sm.sum l)) 0 w4 B4
  have R6 := World.rangeAt_setCells_same w4 w.heap.size 0 (cs (Sm.sum l)) t5
  clear B1 t1 s1 L1 r2 hb2 B2 t2 r3 hb3 B3 t3 hb4 B4 hl3 hne
  go_wp2_with (refine wpList_store_ex rfl 42 _ _ rfl w.heap.size 0 (cs (Sm.sum l)) rfl rfl t5 iD oD ?_; intro w6 hw6; rw [hw6] at P6 R6; clear t5 hw6)
  exact bodyPost_ret (results_cell (b := w.heap.size) (o := 0) (cs := cs (Sm.sum l)) rfl rfl R6 Tryd.underlying42 rfl iD) rfl ⟨rfl, P6⟩
end Go.Proofs.YtfpdiafedoppnaaDoor
