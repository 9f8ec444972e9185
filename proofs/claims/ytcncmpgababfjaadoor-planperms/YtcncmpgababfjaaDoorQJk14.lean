/-
  The reference's variables.
-/
import Derived.Test.YtcncmpgababfjaaDoorQJj14
namespace Go.Proofs.YtcncmpgababfjaaDoor
open Go.RowKit Go.Lib Go.Shelf

set_option maxRecDepth 100000 in
set_option maxHeartbeats 1600000 in
theorem rvars14_at (y : Lv) (base : Nat) (a : Option Addr) (c : Nat) (L : List (List UInt8)) (w : World) (h : OwnT base w (.slice a L.length c) L) (hb : base ≤ w.heap.size) (hy : ∀ W, Below base w W → Lv.Aw W y) (hL : L.length + y.args.length ≤ 2000000) :
    Calls Tryd.prog 14 #[.slice a L.length c, lval y] w fun e w' => (∃ a' c', e = .returned (.slice a' (L ++ Pn.lvs y.l).length c') ∧ OwnT base w' (.slice a' (L ++ Pn.lvs y.l).length c') (L ++ Pn.lvs y.l)) ∧ Below base w w' ∧ ∀ ty : TypeId, ty ≠ 9 → Safe ty w w' := by
  have A0 := below_alloc w (.cells (lv y).toArray 39)
  have H0 := heap_alloc_new w (.cells (lv y).toArray 39)
  have o1 := ownsRow_keep h (Safe.below A0 : Safe 9 _ _)
  have c0 : (w.alloc (.cells (lv y).toArray 39)).cell? ⟨w.heap.size, 0, none⟩ = some (str y.by_.v) := by rw [heap_cell H0]; rfl
  have c6 : (w.alloc (.cells (lv y).toArray 39)).cell? ⟨w.heap.size, 6, none⟩ = some (str y.at_.v) := by rw [heap_cell H0]; rfl
  have B0 : Below base w (w.alloc (.cells (lv y).toArray 39)) := A0.mono hb
  have fewy := (hy w (Below.refl _ _) : Row tK _ _ _ _).few
  have S0 : ∀ ty : TypeId, Safe ty w (w.alloc (.cells (lv y).toArray 39)) := fun ty => Safe.below A0
  have TT := Tryd.underlying25
  go_enter Tryd.func14, Tryd.ntmps14
  have hx0 : (w.alloc (.cells #[str y.by_.v, .bool y.by_.k.num, .int .i64 y.by_.k.n, str y.by_.k.s, str y.pred, .slice y.a y.args.length y.cap, str y.at_.v, .bool y.at_.k.num, .int .i64 y.at_.k.n, str y.at_.k.s] 39)) = w.alloc (.cells (lv y).toArray 39) := rfl
  generalize hW : w.alloc (.cells (lv y).toArray 39) = W at *
  have A4 := below_alloc W (.cells #[str y.by_.v, str y.at_.v] 9)
  have o4 := ownsRow_keep o1 (Safe.below A4 : Safe 9 _ _)
  have R4 : Row sK (W.alloc (.cells #[str y.by_.v, str y.at_.v] 9)) (some ⟨W.heap.size, 0, none⟩) 2 [y.by_.v, y.at_.v] := row_blk14 sK (heap_alloc_new W _) [y.by_.v, y.at_.v] rfl (by simp)
  have hb3 : base ≤ (W.alloc (.cells #[str y.by_.v, str y.at_.v] 9)).heap.size := by have := A4.size; have := B0.size; omega
  go_wp2_with (at_builtin; refine wpList_append_rec sK _ rfl _ _ 50 9 rfl _ 16 Tryd.underlying50 Tryd.iS1 rfl (by decide) base (.slice a L.length c) L [y.by_.v, y.at_.v] (some ⟨W.heap.size, 0, none⟩) 2 2 rfl o4 rfl rfl R4 hb3 (by simp only [List.length_cons, List.length_nil]; omega) ?_; intro v5 w5 o5 g5; obtain ⟨a5, c5, rfl, _, _⟩ := own_row (D := sK) o5 (by simp only [List.length_append, List.length_cons, List.length_nil]; omega); have B5 := own_below o4 g5 hb3; have H5 := Safe.grown o4 g5 (show (39 : TypeId) ≠ 9 by decide) _ _ (below_heap A4 H0); have S5 : ∀ ty : TypeId, ty ≠ 9 → Safe ty W w5 := fun ty hn => (Safe.below A4).trans (Safe.grown o4 g5 hn))
  have BW : Below base w w5 := B0.trans (A4.mono (Nat.le_trans hb B0.size) |>.trans B5)
  have SW : Hid (∀ ty : TypeId, ty ≠ 9 → Safe ty w w5) := hideP fun ty hn => (S0 ty).trans (S5 ty hn)
  clear B5 S5 B0 S0 o4 R4 o1 c0 c6 g5 A4 H0 A0
  go_loopw [0, 5] (fun v0 v5 wr => ∃ (j : Nat) (a' : Option Addr) (c' : Nat), v5 = .int .i64 (j : Int) ∧ v0 = .slice a' ((L ++ [y.by_.v, y.at_.v]) ++ (y.args.take j).map (·.v)).length c' ∧ j ≤ y.args.length ∧ OwnT base wr (.slice a' ((L ++ [y.by_.v, y.at_.v]) ++ (y.args.take j).map (·.v)).length c') ((L ++ [y.by_.v, y.at_.v]) ++ (y.args.take j).map (·.v)) ∧ Below base w wr ∧ Hid (∀ ty : TypeId, ty ≠ 9 → Safe ty w wr) ∧ wr.heap[w.heap.size]? = some (.cells (lv y).toArray 39)) (fun _ v5 _ => y.args.length - (RowKit.intOf v5).toNat)
  case atStart => exact ⟨0, a5, c5, rfl, by simp, Nat.zero_le _, by simp only [List.take_zero, List.map_nil, List.append_nil]; exact o5, BW, SW, H5⟩
  case round =>
    obtain ⟨j, a6, c6, rfl, rfl, hj, O6, B6, S6, H6⟩ := hrel
    by_cases hlt : j < y.args.length
    · have q1 : (j : Int) < (y.args.length : Int) := by omega
      have Rj : Row tK wr y.a y.cap y.args := hy wr B6
      have s5 : wr.cell? ⟨w.heap.size, 5, none⟩ = some (.slice y.a y.args.length y.cap) := by rw [heap_cell H6]; rfl
      obtain ⟨b, o, hya⟩ := Rj.addr (by omega)
      rw [hya] at Rj s5
      clear hya
      have tc : wr.cell? ⟨b, o + j * 4, none⟩ = some (str (y.args[j]).v) := by
        have := Rj.range j hlt 0 _ rfl
        exact this
      have TK : y.args.take (j + 1) = y.args.take j ++ [y.args[j]] := List.take_succ_eq_append_getElem hlt
      have tl : ((y.args.take j).map (·.v)).length ≤ y.args.length := by simp; omega
      generalize y.args[j] = t at *
      have HK := hideP (show (L ++ [y.by_.v, y.at_.v]) ++ (y.args.take (j + 1)).map (·.v) = ((L ++ [y.by_.v, y.at_.v]) ++ (y.args.take j).map (·.v)) ++ [t.v] by rw [TK, List.map_append, ← List.append_assoc]; rfl)
      have ll : ((L ++ [y.by_.v, y.at_.v]) ++ (y.args.take j).map (·.v)).length ≤ 4000000 := by simp only [List.length_append, List.length_cons, List.length_nil]; omega
      clear TK tl
      generalize (L ++ [y.by_.v, y.at_.v]) ++ (y.args.take j).map (·.v) = M at *
      have A7 := below_alloc wr (.cells #[str t.v] 9)
      have o7 := ownsRow_keep O6 (Safe.below A7 : Safe 9 _ _)
      have R7 : Row sK (wr.alloc (.cells #[str t.v] 9)) (some ⟨wr.heap.size, 0, none⟩) 1 [t.v] := row_new sK wr _ _ t.v rfl
      have hb7 : base ≤ (wr.alloc (.cells #[str t.v] 9)).heap.size := Nat.le_trans hb (Nat.le_trans B6.size A7.size)
      go_wp2_with (at_builtin; refine wpList_append_rec sK _ rfl _ _ 50 9 rfl _ 16 Tryd.underlying50 Tryd.iS1 rfl (by decide) base (.slice a6 M.length c6) M [t.v] (some ⟨wr.heap.size, 0, none⟩) 1 1 rfl o7 rfl rfl R7 hb7 (by simp only [List.length_cons, List.length_nil]; omega) ?_; intro v8 w8 o8 g8; obtain ⟨a8, c8, rfl, _, _⟩ := own_row (D := sK) o8 (by simp only [List.length_append, List.length_cons, List.length_nil]; omega))
      go_roundw
      case rel => exact ⟨j + 1, a8, c8, rfl, by rw [HK.out, List.length_append]; rfl, hlt, by rw [HK.out]; exact o8, B6.trans ((A7.mono (Nat.le_trans hb B6.size)).trans (own_below o7 g8 hb7)), hideP fun ty hn => (S6.out ty hn).trans ((Safe.below A7).trans (Safe.grown o7 g8 hn)), Safe.grown o7 g8 (show (39 : TypeId) ≠ 9 by decide) _ _ (below_heap A7 H6)⟩
      case measure => simp [RowKit.intOf]; omega
    · have q1 : ¬ (j : Int) < (y.args.length : Int) := by omega
      obtain rfl : j = y.args.length := by omega
      have s5 : wr.cell? ⟨w.heap.size, 5, none⟩ = some (.slice y.a y.args.length y.cap) := by rw [heap_cell H6]; rfl
      have HE := hideP (show (L ++ [y.by_.v, y.at_.v]) ++ (y.args.take y.args.length).map (·.v) = L ++ Pn.lvs y.l by rw [List.take_length, List.append_assoc]; rfl)
      rw [HE.out] at O6 ⊢
      go_wp2_with fail
      go_ret
      rw [List.length_append] at O6
      exact ⟨⟨a6, c6, rfl, O6⟩, B6, S6.out⟩
end Go.Proofs.YtcncmpgababfjaaDoor
