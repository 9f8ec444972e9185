/-
  Verify; and what a ring answers that New did not make.
-/
import Derived.Test.YtfpdiafedoppnaaDoorRj
import Derived.Test.YtfpdiafedoppnaaDoorEqual
namespace Go.Proofs.YtfpdiafedoppnaaDoor
open Go.RowKit

def vf (seed : Int) (N : List (List UInt8)) (who dom txt tg : List UInt8) : Bool := decide (who ∈ N) && (Mm.tag (Mm.pkey seed who) dom txt == tg)

set_option maxRecDepth 100000 in
set_option maxHeartbeats 3200000 in
theorem verify6 (w : World) (rb g cap bm : Nat) (seed : Int) (N : List (List UInt8)) (L : List P3) (who dom txt tg : List UInt8) (a b : Option Addr) (q c d : Nat) (r : RingAt w rb g cap bm seed N L) (hL : Laid w) (ha : Holds w a c txt) (hq : tg.length = q) (hb : Holds w b d tg) (ld : dom.length ≤ 10000000000) (lt : txt.length ≤ 10000000000) :
    Calls Tryd.prog 20 #[.pointer (some ⟨rb, 0, none⟩), str who, str dom, .slice a txt.length c, .slice b q d] w fun e w' => e = .returned (.bool (vf seed N who dom txt tg)) ∧ Below w.heap.size w w' := by
  have lF := foundKey_length seed N who
  have iF : Hid ((Tryd.prog.info? 42).map (·.size) = some (cs (foundKey seed N who)).length) := hideP (by rw [cs_length, lF]; exact Tryd.infoDigest)
  have oF := cs_one (foundKey seed N who)
  have zF : Hid (32 = (cs (foundKey seed N who)).length) := hideP (by rw [cs_length, lF])
  go_enter Tryd.func20, Tryd.ntmps20
  go_wp2_with fail
  refine (key6 w rb g cap bm seed N L who r).mono ?_
  rintro _ w1 ⟨rfl, b1⟩
  have B2 := Below.then b1 (below_alloc w1 (.cells (cs (foundKey seed N who)).toArray 42))
  have f2 := rangeAt_new w1 (cs (foundKey seed N who)).toArray 42 (cs (foundKey seed N who)) (by simp)
  have HK : Hid (who ∈ N → foundKey seed N who = Mm.pkey seed who) := hideP fun h => if_pos h
  generalize foundKey seed N who = F at *
  by_cases hw : who ∈ N
  rotate_left
  · have hd : decide (who ∈ N) = false := by simpa using hw
    have E : Hid (vf seed N who dom txt tg = false) := hideP (by unfold vf; rw [hd]; rfl)
    rw [hd]
    clear hd hw
    go_wp2_with (refine wpList_store_new rfl 42 _ _ rfl w1.heap.size rfl (cs F) rfl rfl zF.out iF.out oF ?_)
    go_ret
    exact ⟨by rw [E.out]; rfl, B2⟩
  have hd : decide (who ∈ N) = true := by simpa using hw
  have E : Hid (vf seed N who dom txt tg = (Mm.tag F dom txt == tg)) := hideP (by unfold vf; rw [hd, HK.out hw]; rfl)
  rw [hd]
  clear hd hw HK
  go_wp2_with (refine wpList_store_new rfl 42 _ _ rfl w1.heap.size rfl (cs F) rfl rfl zF.out iF.out oF ?_)
  generalize w1.alloc (.cells (cs F).toArray 42) = w2 at B2 f2 ⊢
  refine (tag_at F dom txt (some ⟨w1.heap.size, 0, none⟩) a 32 txt.length 32 c w2 lF rfl (by have := holds_range f2; rwa [lF] at this) (ha.below B2) (hL.below B2) (by decide) (by omega) (by omega)).mono ?_
  rintro _ w5 ⟨rfl, b5⟩
  have lT := Mm.tag_length F dom txt
  generalize Mm.tag F dom txt = T at *
  have iT : Hid ((Tryd.prog.info? 42).map (·.size) = some (cs T).length) := hideP (by rw [cs_length, lT]; exact Tryd.infoDigest)
  have oT := cs_one T
  have zT : Hid (32 = (cs T).length) := hideP (by rw [cs_length, lT])
  have B6 := Below.then (Below.then B2 b5) (below_alloc w5 (.cells (cs T).toArray 42))
  have f6 := rangeAt_new w5 (cs T).toArray 42 (cs T) (by simp)
  go_wp2_with (refine wpList_store_new rfl 42 _ _ rfl w5.heap.size rfl (cs T) rfl rfl zT.out iT.out oT ?_)
  generalize w5.alloc (.cells (cs T).toArray 42) = w6 at B6 f6 ⊢
  refine (equal_at (some ⟨w5.heap.size, 0, none⟩) b 32 q 32 d T tg w6 lT hq (by have := holds_range f6; rwa [lT] at this) (hb.below B6) (by decide)).mono ?_
  rintro _ w7 ⟨rfl, b7⟩
  go_wp2_with fail
  go_ret
  exact ⟨by rw [E.out]; rfl, Below.then B6 b7⟩

/-! a ring that New did not make -/
/-- nil, or a ring without a book -/
def NoRing (w : World) (v : Value) : Prop := v = .pointer none ∨ ∃ rb, v = .pointer (some ⟨rb, 0, none⟩) ∧ w.cell? ⟨rb, 1, none⟩ = some (.map none)
theorem NoRing.below {w w' : World} {v : Value} (h : NoRing w v) (b : Below w.heap.size w w') : NoRing w' v := by
  rcases h with h | ⟨rb, h, hc⟩
  · exact .inl h
  · exact .inr ⟨rb, h, by rw [b.cell (p := ⟨rb, 1, none⟩) (cell_block hc)]; exact hc⟩
theorem fromNew6_no (w : World) (v : Value) (h : NoRing w v) : Calls Tryd.prog 27 #[v] w fun e w' => e = .returned (.bool false) ∧ w = w' := by
  rcases h with rfl | ⟨rb, rfl, hc⟩
  · exact fromNew6_nil w
  · exact fromNew6_zero w rb hc
set_option maxRecDepth 100000 in
theorem len6_no (w : World) (v : Value) (h : NoRing w v) : Calls Tryd.prog 16 #[v] w fun e w' => e = .returned (.int .i64 0) ∧ w = w' := by
  go_enter Tryd.func16, Tryd.ntmps16
  go_wp2_with fail
  refine (fromNew6_no w v h).mono ?_
  rintro _ w1 ⟨rfl, rfl⟩
  go_wp2_with fail
  go_ret
  exact ⟨rfl, rfl⟩
set_option maxRecDepth 100000 in
theorem names6_no (w : World) (v : Value) (h : NoRing w v) : Calls Tryd.prog 13 #[v] w fun e w' => e = .returned (.slice none 0 0) ∧ w = w' := by
  go_enter Tryd.func13, Tryd.ntmps13
  go_wp2_with fail
  refine (fromNew6_no w v h).mono ?_
  rintro _ w1 ⟨rfl, rfl⟩
  go_wp2_with fail
  go_ret
  exact ⟨rfl, rfl⟩
set_option maxRecDepth 100000 in
theorem made6_no (w : World) (v x1 x2 x3 : Value) (h : NoRing w v) : Calls Tryd.prog 23 #[v, x1, x2, x3] w fun e w' => e = .returned (.bool false) ∧ w = w' := by
  go_enter Tryd.func23, Tryd.ntmps23
  go_wp2_with fail
  refine (fromNew6_no w v h).mono ?_
  rintro _ w1 ⟨rfl, rfl⟩
  go_wp2_with fail
  go_ret
  exact ⟨rfl, rfl⟩
set_option maxRecDepth 100000 in
set_option maxHeartbeats 1600000 in
theorem key6_no (w : World) (v x : Value) (h : NoRing w v) : Calls Tryd.prog 28 #[v, x] w fun e w' => e = .returned (.tuple #[ba (Sm.zeros 32), .bool false]) ∧ Below w.heap.size w w' := by
  have iZ : (Tryd.prog.info? 42).map (·.size) = some (cs (Sm.zeros 32)).length := Tryd.infoDigest
  have oZ := cs_one (Sm.zeros 32)
  go_enter Tryd.func28, Tryd.ntmps28
  go_wp2_with fail
  have B0 := below_alloc w (.cells (cs (Sm.zeros 32)).toArray 42)
  have t0 := there_new w (cs (Sm.zeros 32)).toArray 42 32 rfl
  change Calls _ _ _ (w.alloc (.cells (cs (Sm.zeros 32)).toArray 42)) _
  generalize w.alloc (.cells (cs (Sm.zeros 32)).toArray 42) = w0 at B0 t0 ⊢
  refine (fromNew6_no w0 v (h.below B0)).mono ?_
  rintro _ w1 ⟨rfl, rfl⟩
  have tZ : Hid (w0.there w.heap.size 0 (cs (Sm.zeros 32)).length) := hideP (by rw [cs_length, Sm.zeros_length]; exact t0)
  have P6 := below_cells (Nat.le_refl _) (cs (Sm.zeros 32)) 0 _ B0
  have R6 := World.rangeAt_setCells_same _ w.heap.size 0 (cs (Sm.zeros 32)) tZ.out
  go_wp2_with (refine wpList_store_ex rfl 42 _ _ rfl w.heap.size 0 (cs (Sm.zeros 32)) rfl rfl tZ.out iZ oZ ?_; intro w6 hw6; rw [hw6] at P6 R6; clear hw6)
  exact bodyPost_ret (results_cs (v := .bool false) (b := w.heap.size) (o := 0) (cs := cs (Sm.zeros 32)) rfl rfl rfl R6 Tryd.underlying42 rfl iZ) rfl ⟨rfl, P6⟩
set_option maxRecDepth 100000 in
set_option maxHeartbeats 1600000 in
theorem is6_no (w : World) (v x : Value) (h : NoRing w v) : Calls Tryd.prog 14 #[v, x] w fun e w' => e = .returned (.bool false) ∧ Below w.heap.size w w' := by
  have iZ : (Tryd.prog.info? 42).map (·.size) = some (cs (Sm.zeros 32)).length := Tryd.infoDigest
  have oZ := cs_one (Sm.zeros 32)
  go_enter Tryd.func14, Tryd.ntmps14
  go_wp2_with fail
  refine (key6_no w v x h).mono ?_
  rintro _ w1 ⟨rfl, b1⟩
  have B2 := Below.then b1 (below_alloc w1 (.cells (cs (Sm.zeros 32)).toArray 42))
  go_wp2_with (refine wpList_store_new rfl 42 _ _ rfl w1.heap.size rfl (cs (Sm.zeros 32)) rfl rfl rfl iZ oZ ?_)
  go_ret
  exact ⟨rfl, B2⟩
set_option maxRecDepth 100000 in
set_option maxHeartbeats 1600000 in
theorem verify6_no (w : World) (v x1 x2 x3 x4 : Value) (h : NoRing w v) : Calls Tryd.prog 20 #[v, x1, x2, x3, x4] w fun e w' => e = .returned (.bool false) ∧ Below w.heap.size w w' := by
  have iZ : (Tryd.prog.info? 42).map (·.size) = some (cs (Sm.zeros 32)).length := Tryd.infoDigest
  have oZ := cs_one (Sm.zeros 32)
  go_enter Tryd.func20, Tryd.ntmps20
  go_wp2_with fail
  refine (key6_no w v x1 h).mono ?_
  rintro _ w1 ⟨rfl, b1⟩
  have B2 := Below.then b1 (below_alloc w1 (.cells (cs (Sm.zeros 32)).toArray 42))
  go_wp2_with (refine wpList_store_new rfl 42 _ _ rfl w1.heap.size rfl (cs (Sm.zeros 32)) rfl rfl rfl iZ oZ ?_)
  go_ret
  exact ⟨rfl, B2⟩
set_option maxRecDepth 100000 in
set_option maxHeartbeats 1600000 in
theorem sign6_no (w : World) (v x1 x2 x3 : Value) (h : NoRing w v) : Calls Tryd.prog 18 #[v, x1, x2, x3] w fun e w' => e = .returned (.tuple #[ba (Sm.zeros 32), .int .i64 1]) ∧ Below w.heap.size w w' := by
  have iZ : (Tryd.prog.info? 42).map (·.size) = some (cs (Sm.zeros 32)).length := Tryd.infoDigest
  have oZ := cs_one (Sm.zeros 32)
  go_enter Tryd.func18, Tryd.ntmps18
  go_wp2_with fail
  have B0 := below_alloc w (.cells (cs (Sm.zeros 32)).toArray 42)
  have t0 := there_new w (cs (Sm.zeros 32)).toArray 42 32 rfl
  change Calls _ _ _ (w.alloc (.cells (cs (Sm.zeros 32)).toArray 42)) _
  generalize w.alloc (.cells (cs (Sm.zeros 32)).toArray 42) = w0 at B0 t0 ⊢
  refine (fromNew6_no w0 v (h.below B0)).mono ?_
  rintro _ w1 ⟨rfl, rfl⟩
  have tZ : Hid (w0.there w.heap.size 0 (cs (Sm.zeros 32)).length) := hideP (by rw [cs_length, Sm.zeros_length]; exact t0)
  have P6 := below_cells (Nat.le_refl _) (cs (Sm.zeros 32)) 0 _ B0
  have R6 := World.rangeAt_setCells_same _ w.heap.size 0 (cs (Sm.zeros 32)) tZ.out
  go_wp2_with (refine wpList_store_ex rfl 42 _ _ rfl w.heap.size 0 (cs (Sm.zeros 32)) rfl rfl tZ.out iZ oZ ?_; intro w6 hw6; rw [hw6] at P6 R6; clear hw6)
  exact bodyPost_ret (results_cs (v := .int .i64 1) (b := w.heap.size) (o := 0) (cs := cs (Sm.zeros 32)) rfl rfl rfl R6 Tryd.underlying42 rfl iZ) rfl ⟨rfl, P6⟩
end Go.Proofs.YtfpdiafedoppnaaDoor
