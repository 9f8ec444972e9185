/-
  A Hash in memory, and the contracts of New, Len, Sum: a Hash that New made and that l was added to holds the state behind l's whole blocks, the tail, the length.
-/
import Derived.Test.YtekhenglepeaaaaDoorTold
namespace Go.Proofs.YtekhenglepeaaaaDoor
open Go.RowKit

/-- the Hash in block h holds what was added: l -/
structure Rep (w : World) (h : Nat) (l : List UInt8) : Prop where
  made : w.cell? ⟨h, 0, none⟩ = some (.bool true)
  st : w.rangeAt h 1 (ws (Sm.state l))
  tl : w.rangeAt h 9 (cs (Sm.tail l))
  n : w.cell? ⟨h, 73, none⟩ = some (.int .i64 (l.length : Int))
  t : w.there h 0 74
theorem Rep.block {w : World} {h : Nat} {l : List UInt8} (r : Rep w h l) : h < w.heap.size := cell_block r.made
theorem Rep.below {w w' : World} {h : Nat} {l : List UInt8} (r : Rep w h l) (hb : Below w.heap.size w w') : Rep w' h l :=
  ⟨by rw [hb.cell (p := ⟨h, 0, none⟩) r.block]; exact r.made, rangeAt_below r.st hb, rangeAt_below r.tl hb, by rw [hb.cell (p := ⟨h, 73, none⟩) r.block]; exact r.n, there_below r.t hb⟩

/-- a whole row read, in a region that draws its order and only reads up to there -/
theorem wpStill_load_mid {P : Program} {ops : Array Oper} {rest : List Oper} {op : Oper} {a : Act} {w : World} {Q : Act → Prop} (hgd : op.guard = none) (ty : TypeId) (x : Operand) (ho : op.op = .load ty x)
    (b o : Nat) (hx : a.eval x = .pointer (some ⟨b, o, none⟩)) (cs : List Value) (d : TypeDesc) (hc : w.rangeAt b o cs)
    (hu : P.underlying ty = some d) (hd : d.isRow = true) (hi : (P.info? ty).map (·.size) = some cs.length)
    (h : wpStill P ops w Q rest (a.put op.dst (.agg cs.toArray))) : wpStill P ops w Q (op :: rest) a := by
  unfold wpStill
  rw [if_pos (by unfold Region.wanted; rw [hgd])]
  unfold Oper.still execOp
  simp only [ho, hx, Instr.loadAt, Instr.sureAddr, Sem.run_bind, Sem.run_pure, Result.andThen_ok, run_loadVar_mid w b o ty cs d hc hu hd hi]
  exact ⟨rfl, h⟩

theorem fromNew_any (w : World) (h : Nat) (v : Bool) (hm : w.cell? ⟨h, 0, none⟩ = some (.bool v)) :
    Calls Tryd.prog 20 #[.pointer (some ⟨h, 0, none⟩)] w fun e w' => e = .returned (.bool v) ∧ w = w' := by
  go_enter Tryd.func20, Tryd.ntmps20
  go_wp2
  go_ret
  exact ⟨by simp, rfl⟩
theorem fromNew_nil (w : World) :
    Calls Tryd.prog 20 #[.pointer none] w fun e w' => e = .returned (.bool false) ∧ w = w' := by
  go_enter Tryd.func20, Tryd.ntmps20
  go_wp2
  go_ret
  exact ⟨by simp, rfl⟩

theorem rangeAt_part {w : World} {g : Nat} {L : List Value} (h : w.rangeAt g 0 L) (X Y Z : List Value) (o : Nat) (ho : X.length = o) (hL : L = X ++ Y ++ Z) : w.rangeAt g o Y := fun j v hv => by
  have hj : j < Y.length := (List.getElem?_eq_some_iff.1 hv).1
  have e : L[o + j]? = some v := by
    rw [hL, List.append_assoc, List.getElem?_append_right (by omega), ho, Nat.add_sub_cancel_left, List.getElem?_append_left hj, hv]
  have := h (o + j) v e
  rwa [Nat.zero_add] at this
theorem rep_of (w : World) (h : Nat) (l : List UInt8) (hr : w.rangeAt h 0 ([.bool true] ++ ws (Sm.state l) ++ cs (Sm.tail l) ++ [.int .i64 (l.length : Int)])) (ht : w.there h 0 74) : Rep w h l := by
  refine ⟨by have := hr 0 _ rfl; exact this, ?_, ?_, ?_, ht⟩
  · exact rangeAt_part hr [.bool true] (ws (Sm.state l)) (cs (Sm.tail l) ++ [.int .i64 (l.length : Int)]) 1 rfl (by simp)
  · exact rangeAt_part hr ([.bool true] ++ ws (Sm.state l)) (cs (Sm.tail l)) [.int .i64 (l.length : Int)] 9 (by simp [ws_length, Sm.state_length]) rfl
  · have := rangeAt_part hr ([.bool true] ++ ws (Sm.state l) ++ cs (Sm.tail l)) [.int .i64 (l.length : Int)] [] 73 (by simp [ws_length, cs_length, Sm.state_length, Sm.tail_length]) (by simp)
    exact this 0 _ rfl

theorem Tryd.infoHash : (Tryd.prog.info? 44).map (·.size) = some 74 := by kernel_rfl

theorem Tryd.zeroHash (w : World) : (zeroValue 44).run Tryd.prog w = .ok (.agg #[.bool false, .int .u32 0, .int .u32 0, .int .u32 0, .int .u32 0, .int .u32 0, .int .u32 0, .int .u32 0, .int .u32 0, .int .u8 0, .int .u8 0, .int .u8 0, .int .u8 0, .int .u8 0, .int .u8 0, .int .u8 0, .int .u8 0, .int .u8 0, .int .u8 0, .int .u8 0, .int .u8 0, .int .u8 0, .int .u8 0, .int .u8 0, .int .u8 0, .int .u8 0, .int .u8 0, .int .u8 0, .int .u8 0, .int .u8 0, .int .u8 0, .int .u8 0, .int .u8 0, .int .u8 0, .int .u8 0, .int .u8 0, .int .u8 0, .int .u8 0, .int .u8 0, .int .u8 0, .int .u8 0, .int .u8 0, .int .u8 0, .int .u8 0, .int .u8 0, .int .u8 0, .int .u8 0, .int .u8 0, .int .u8 0, .int .u8 0, .int .u8 0, .int .u8 0, .int .u8 0, .int .u8 0, .int .u8 0, .int .u8 0, .int .u8 0, .int .u8 0, .int .u8 0, .int .u8 0, .int .u8 0, .int .u8 0, .int .u8 0, .int .u8 0, .int .u8 0, .int .u8 0, .int .u8 0, .int .u8 0, .int .u8 0, .int .u8 0, .int .u8 0, .int .u8 0, .int .u8 0, .int .i64 0]) w :=
  (zero_of_info (P := Tryd.prog) (t := 44) (v := .agg #[.bool false, .int .u32 0, .int .u32 0, .int .u32 0, .int .u32 0, .int .u32 0, .int .u32 0, .int .u32 0, .int .u32 0, .int .u8 0, .int .u8 0, .int .u8 0, .int .u8 0, .int .u8 0, .int .u8 0, .int .u8 0, .int .u8 0, .int .u8 0, .int .u8 0, .int .u8 0, .int .u8 0, .int .u8 0, .int .u8 0, .int .u8 0, .int .u8 0, .int .u8 0, .int .u8 0, .int .u8 0, .int .u8 0, .int .u8 0, .int .u8 0, .int .u8 0, .int .u8 0, .int .u8 0, .int .u8 0, .int .u8 0, .int .u8 0, .int .u8 0, .int .u8 0, .int .u8 0, .int .u8 0, .int .u8 0, .int .u8 0, .int .u8 0, .int .u8 0, .int .u8 0, .int .u8 0, .int .u8 0, .int .u8 0, .int .u8 0, .int .u8 0, .int .u8 0, .int .u8 0, .int .u8 0, .int .u8 0, .int .u8 0, .int .u8 0, .int .u8 0, .int .u8 0, .int .u8 0, .int .u8 0, .int .u8 0, .int .u8 0, .int .u8 0, .int .u8 0, .int .u8 0, .int .u8 0, .int .u8 0, .int .u8 0, .int .u8 0, .int .u8 0, .int .u8 0, .int .u8 0, .int .i64 0]) (n := 74) (by kernel_rfl)).1 w

set_option maxRecDepth 100000 in
set_option maxHeartbeats 1600000 in
theorem new_any (w : World) (hL : Laid w) :
    Calls Tryd.prog 13 #[] w fun e w' => e = .returned (.pointer (some ⟨w.heap.size, 0, none⟩)) ∧ Rep w' w.heap.size [] ∧ Below w.heap.size w w' := by
  have iS : (Tryd.prog.info? 40).map (·.size) = some (ws Sm.start).length := Tryd.infoState
  have c0 := range_word hL.start 0 (by decide)
  have c1 := range_word hL.start 1 (by decide)
  have c2 := range_word hL.start 2 (by decide)
  have c3 := range_word hL.start 3 (by decide)
  have c4 := range_word hL.start 4 (by decide)
  have c5 := range_word hL.start 5 (by decide)
  have c6 := range_word hL.start 6 (by decide)
  have c7 := range_word hL.start 7 (by decide)
  have hz := Tryd.zeroHash
  go_enter Tryd.func13, Tryd.ntmps13
  go_wp2
  go_ret
  refine ⟨rfl, rep_of _ _ _ ?_ (there_new _ _ _ 74 rfl), below_alloc _ _⟩
  refine rangeAt_new _ _ _ _ ?_
  rw [Sm.state_nil, Sm.tail_nil]
  rfl

set_option maxRecDepth 100000 in
set_option maxHeartbeats 1600000 in
theorem sum_any (w : World) (h : Nat) (l : List UInt8) (r : Rep w h l) (hL : Laid w) (hl : l.length ≤ 1000000000000) :
    Calls Tryd.prog 16 #[.pointer (some ⟨h, 0, none⟩)] w fun e w' => e = .returned (ba (Sm.sum l)) ∧ Below w.heap.size w w' := by
  have iS : (Tryd.prog.info? 40).map (·.size) = some (ws (Sm.state l)).length := by rw [ws_length, Sm.state_length]; exact Tryd.infoState
  have iB : (Tryd.prog.info? 42).map (·.size) = some (cs (Sm.tail l)).length := by rw [cs_length, Sm.tail_length]; exact Tryd.infoBlock
  have m1 : ∀ o, (w.alloc o).cell? ⟨h, 0, none⟩ = some (.bool true) := fun o => by rw [(below_alloc w o).cell (p := ⟨h, 0, none⟩) r.block]; exact r.made
  have r1 := r.below (below_alloc w (.cells (cs (Sm.zeros 32)).toArray 26))
  have L1 := hL.below (below_alloc w (.cells (cs (Sm.zeros 32)).toArray 26))
  have t1 := there_new w (cs (Sm.zeros 32)).toArray 26 32 rfl
  have b1 := below_alloc w (.cells (cs (Sm.zeros 32)).toArray 26)
  generalize eW : w.alloc (.cells (cs (Sm.zeros 32)).toArray 26) = W at r1 L1 t1 b1
  have HW : Hid (w.alloc (.cells (cs (Sm.zeros 32)).toArray 26) = W) := eW
  clear eW
  go_enter Tryd.func16, Tryd.ntmps16
  go_wp2_with (go_at_call 20; refine (fromNew_any _ h true (m1 _)).mono ?_; rintro e w' ⟨rfl, rfl⟩)
  have HW' := HW.out
  change w.alloc (.cells #[.int .u8 0, .int .u8 0, .int .u8 0, .int .u8 0, .int .u8 0, .int .u8 0, .int .u8 0, .int .u8 0, .int .u8 0, .int .u8 0, .int .u8 0, .int .u8 0, .int .u8 0, .int .u8 0, .int .u8 0, .int .u8 0, .int .u8 0, .int .u8 0, .int .u8 0, .int .u8 0, .int .u8 0, .int .u8 0, .int .u8 0, .int .u8 0, .int .u8 0, .int .u8 0, .int .u8 0, .int .u8 0, .int .u8 0, .int .u8 0, .int .u8 0, .int .u8 0] 26) = W at HW'
  rw [HW']
  clear HW' HW
  have hn := r1.n
  refine wp_region_still_tail 12 (by kernel_rfl) (by kernel_rfl) ?_
  simp only [List.take_succ_cons, List.take_zero, List.drop_succ_cons, List.drop_zero]
  iterate 3 still_step
  refine wpStill_load_mid rfl 40 _ rfl h 1 rfl (ws (Sm.state l)) _ r1.st Tryd.underlying40 rfl iS ?_
  iterate 3 still_step
  refine wpStill_load_mid rfl 42 _ rfl h 9 rfl (cs (Sm.tail l)) _ r1.tl Tryd.underlying42 rfl iB ?_
  iterate 4 still_step
  refine wpStill_nil ?_
  go_wp2_with fail
  have LD : Laid W.drew := L1.below (Below.refl _ _).drew
  refine (padded_any (Sm.state l) (Sm.tail l) l.length W.drew (Sm.state_length l) (Sm.tail_length l) hl LD).mono ?_
  rintro e2 w2 ⟨rfl, hb2⟩
  go_wp2_with fail
  refine (told_any (Sm.finish (Sm.state l) (Sm.tail l) l.length) w2 (Sm.finish_length _ _ _ (Sm.state_length l))).mono ?_
  rintro e3 w3 ⟨rfl, hb3⟩
  rw [← Sm.sum_def]
  have hl3 := Sm.sum_length l
  have bD : Below W.heap.size W w3 := Below.then (Below.then (Below.refl W.heap.size W).drew hb2) hb3
  have t3 : w3.there w.heap.size 0 (cs (Sm.sum l)).length := by rw [cs_length, hl3]; exact there_below t1 bD
  have iD : (Tryd.prog.info? 26).map (·.size) = some (cs (Sm.sum l)).length := by rw [cs_length, hl3]; exact Tryd.infoDigest
  have oD := cs_one (Sm.sum l)
  have P6 := below_cells (Nat.le_refl _) (cs (Sm.sum l)) 0 w3 (Below.then b1 bD)
  have R6 := World.rangeAt_setCells_same w3 w.heap.size 0 (cs (Sm.sum l)) t3
  clear r r1 hL L1 LD t1 b1 bD hb2 hb3 m1 hl3 hn
  go_wp2_with (refine wpList_store_ex rfl 26 _ _ rfl w.heap.size 0 (cs (Sm.sum l)) rfl rfl t3 iD oD ?_; intro w6 hw6; rw [hw6] at P6 R6; clear t3 hw6)
  exact bodyPost_ret (results_cell (b := w.heap.size) (o := 0) (cs := cs (Sm.sum l)) rfl rfl R6 Tryd.underlying26 rfl iD) rfl ⟨rfl, P6⟩
end Go.Proofs.YtekhenglepeaaaaDoor
