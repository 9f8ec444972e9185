/-
  The program's functions that tell whether an atom, a rule can be shown.
-/
import Derived.Test.YtpdmmmdkpipmkaaGreatDoorQIs
import Derived.Deep.Cut
namespace Go.Proofs.YtpdmmmdkpipmkaaGreatDoor
open Go.RowKit Go.Lib Go.Shelf

theorem Tryz.iT4 : (Tryz.prog.info? 44).map (·.size) = some 4 := by kernel_rfl
theorem Tryz.iL10 : (Tryz.prog.info? 52).map (·.size) = some 10 := by kernel_rfl
theorem Tryz.iR11 : (Tryz.prog.info? 48).map (·.size) = some 11 := by kernel_rfl
theorem lit_cells9 {W : World} {V : Nat} {T : TypeId} (x : Lv) (h : W.heap[V]? = some (.cells (lv x).toArray T)) :
    W.cell? ⟨V, 0, none⟩ = some (str x.by_.v) ∧ W.cell? ⟨V, 1, none⟩ = some (.bool x.by_.k.num) ∧ W.cell? ⟨V, 2, none⟩ = some (.int .i64 x.by_.k.n) ∧ W.cell? ⟨V, 3, none⟩ = some (str x.by_.k.s) ∧ W.cell? ⟨V, 4, none⟩ = some (str x.pred) ∧ W.cell? ⟨V, 5, none⟩ = some (.slice x.a x.args.length x.cap) ∧ W.cell? ⟨V, 6, none⟩ = some (str x.at_.v) ∧ W.cell? ⟨V, 7, none⟩ = some (.bool x.at_.k.num) ∧ W.cell? ⟨V, 8, none⟩ = some (.int .i64 x.at_.k.n) ∧ W.cell? ⟨V, 9, none⟩ = some (str x.at_.k.s) := by
  refine ⟨?_, ?_, ?_, ?_, ?_, ?_, ?_, ?_, ?_, ?_⟩ <;> (rw [heap_cell h]; rfl)
theorem rule_cells9 {W : World} {V : Nat} {T : TypeId} (x : Rv) (h : W.heap[V]? = some (.cells (rv x).toArray T)) :
    W.cell? ⟨V, 0, none⟩ = some (str x.home.v) ∧ W.cell? ⟨V, 1, none⟩ = some (.bool x.home.k.num) ∧ W.cell? ⟨V, 2, none⟩ = some (.int .i64 x.home.k.n) ∧ W.cell? ⟨V, 3, none⟩ = some (str x.home.k.s) ∧ W.cell? ⟨V, 4, none⟩ = some (str x.pred) ∧ W.cell? ⟨V, 5, none⟩ = some (.slice x.a x.args.length x.cap) ∧ W.cell? ⟨V, 6, none⟩ = some (str x.to_.v) ∧ W.cell? ⟨V, 7, none⟩ = some (.bool x.to_.k.num) ∧ W.cell? ⟨V, 8, none⟩ = some (.int .i64 x.to_.k.n) ∧ W.cell? ⟨V, 9, none⟩ = some (str x.to_.k.s) ∧ W.cell? ⟨V, 10, none⟩ = some (.slice x.ba x.body.length x.bcap) := by
  refine ⟨?_, ?_, ?_, ?_, ?_, ?_, ?_, ?_, ?_, ?_, ?_⟩ <;> (rw [heap_cell h]; rfl)

set_option maxRecDepth 100000 in
set_option maxHeartbeats 2000000 in
theorem canAtom_at (p : List UInt8) (a : Option Addr) (c : Nat) (ts : List Tm) (w : World) (hL : Laid w) (hr : Row tK w a c ts) :
    Calls Tryz.prog 163 #[str p, .slice a ts.length c] w fun e w' => e = .returned (.bool (Sh.canA p ts)) ∧ Below w.heap.size w w' := by
  have HC : Hid (Sh.canA p ts = (Sh.wordB p && decide (ts.length ≤ 4) && ts.all Sh.canT)) := rfl
  have W0 := hideP (isWord_at p w hL)
  have few := hr.few
  generalize Sh.wordB p = wb at *
  go_enter Tryz.func163, Tryz.ntmps163
  go_wp2_with fail
  refine W0.out.mono ?_
  rintro e w1 ⟨rfl, b1⟩
  cases wb
  · go_wp2_with fail
    go_ret
    exact ⟨ret_bool (by rw [HC.out]; rfl), b1⟩
  by_cases h4 : ts.length ≤ 4
  rotate_left
  · have q : (ts.length : Int) > 4 := by omega
    have HC2 : Hid (Sh.canA p ts = false) := by show _ = _; rw [HC.out]; simp [h4]
    clear HC
    go_wp2_with fail
    go_ret
    exact ⟨ret_bool HC2.out.symm, b1⟩
  have q : ¬ (ts.length : Int) > 4 := by omega
  have HC2 : Hid (Sh.canA p ts = ts.all Sh.canT) := by show _ = _; rw [HC.out]; simp [h4]
  clear HC
  go_wp2_with fail
  go_loopw [6, 17] (fun _ v wr => ∃ k : Nat, v = .int .i64 (k : Int) ∧ k ≤ ts.length ∧ Hid ((ts.take k).all Sh.canT = true) ∧ Below w.heap.size w wr) (fun _ v _ => ts.length - (Lib.intOf v).toNat)
  case atStart => exact ⟨0, rfl, Nat.zero_le _, rfl, b1⟩
  case round =>
    obtain ⟨k, rfl, hk, hall, hb⟩ := hrel
    by_cases hlt : k < ts.length
    · have q2 : (k : Int) < (ts.length : Int) := by omega
      obtain ⟨P1, O1, rfl⟩ := hr.addr (Nat.lt_of_le_of_lt (Nat.zero_le _) hlt)
      have r1 : wr.rangeAt P1 (O1 + k * 4) (tv (ts[k]'hlt)) := (hr.below hb (Nat.le_refl _)).range k hlt
      have hst : Hid (Sh.canT (ts[k]'hlt) = true → (ts.take (k + 1)).all Sh.canT = true) := fun h => by
        rw [List.take_succ_eq_append_getElem hlt, List.all_append, hall.out]; simp [h]
      have hno : Hid (Sh.canT (ts[k]'hlt) = false → ts.all Sh.canT = false) := fun h => by
        rw [List.all_eq_false]; exact ⟨_, List.getElem_mem hlt, by rw [h]; decide⟩
      generalize (ts[k]'hlt) = t at *
      have T := hideP (fun W h => canTerm_at t W h)
      generalize Sh.canT t = ct at *
      have iP : (Tryz.prog.info? 44).map (·.size) = some (tv t).length := Tryz.iT4
      cases ct
      · have hno' := hideP (hno.out rfl)
        clear hno hst
        go_wp2_with (first
          | (refine wpList_load_mid rfl 44 _ rfl P1 (O1 + k * 4) rfl (tv t) _ r1 Tryz.underlying44 rfl iP ?_)
          | (refine wpList_store_all rfl 44 _ _ rfl wr.heap.size 4 _ 44 (tv t) rfl rfl (heap_alloc_new wr _) rfl rfl Tryz.iT4 rfl ?_; intro w2 H2 d2; have B2 := below_tok d2)
          | (refine wpList_load_all rfl 44 _ rfl wr.heap.size 4 44 (tv t) _ rfl H2 rfl Tryz.underlying44 rfl Tryz.iT4 ?_)
          | (go_at_call 162; refine (T.out w2 ((hL.below hb).below B2)).mono ?_; rintro e w3 ⟨rfl, b3⟩))
        go_ret
        exact ⟨ret_bool (by rw [HC2.out, hno'.out]), hb.trans ((Below.then B2 b3).mono hb.size)⟩
      · have hst' := hideP (hst.out rfl)
        clear hno hst
        go_wp2_with (first
          | (refine wpList_load_mid rfl 44 _ rfl P1 (O1 + k * 4) rfl (tv t) _ r1 Tryz.underlying44 rfl iP ?_)
          | (refine wpList_store_all rfl 44 _ _ rfl wr.heap.size 4 _ 44 (tv t) rfl rfl (heap_alloc_new wr _) rfl rfl Tryz.iT4 rfl ?_; intro w2 H2 d2; have B2 := below_tok d2)
          | (refine wpList_load_all rfl 44 _ rfl wr.heap.size 4 44 (tv t) _ rfl H2 rfl Tryz.underlying44 rfl Tryz.iT4 ?_)
          | (go_at_call 162; refine (T.out w2 ((hL.below hb).below B2)).mono ?_; rintro e w3 ⟨rfl, b3⟩))
        exact ⟨⟨k + 1, by go_num, by omega, hst'.out, hb.trans ((Below.then B2 b3).mono hb.size)⟩, by simp [Lib.intOf]; omega⟩
    · have q2 : ¬ (k : Int) < (ts.length : Int) := by omega
      have hfin : Hid (ts.all Sh.canT = true) := by
        have := hall.out
        rwa [List.take_of_length_le (by omega)] at this
      go_wp2_with fail
      go_ret
      exact ⟨ret_bool (by rw [HC2.out, hfin.out]), hb⟩

set_option maxRecDepth 100000 in
set_option maxHeartbeats 4000000 in
theorem canRule_at (x : Rv) (w : World) (hL : Laid w) (hx : Rv.Aw w x) :
    Calls Tryz.prog 121 #[rval x] w fun e w' => e = .returned (.bool (Sh.canR x.r)) ∧ Below w.heap.size w w' := by
  have HC : Hid (Sh.canR x.r = (Sh.canT x.home && Sh.canA x.pred x.args && Sh.canM x.to_ && decide (1 ≤ (x.body.map Lv.l).length) && decide ((x.body.map Lv.l).length ≤ 4) && (x.body.map Lv.l).all Sh.canL)) := rfl
  obtain ⟨hx1, hx2, hx3⟩ := hx
  have A0 := below_alloc w (.cells (rv x).toArray 48)
  have H0 := heap_alloc_new w (.cells (rv x).toArray 48)
  have L0 := hL.below A0
  have T1 := hideP (canTerm_at x.home _ L0)
  have T2 := hideP (fun W h (b : Below w.heap.size w W) => canAtom_at x.pred x.a x.cap x.args W h (hx1.below b (Nat.le_refl _)))
  have T3 := hideP (fun W h => canPlace_at x.to_ W h)
  have few := hx2.few
  generalize Sh.canT x.home = s1 at *
  generalize Sh.canA x.pred x.args = s2 at *
  generalize Sh.canM x.to_ = s3 at *
  go_enter Tryz.func121, Tryz.ntmps121
  go_wp2_with fail
  refine T1.out.mono ?_
  rintro e w1 ⟨rfl, b1⟩
  have H1 := below_heap b1 H0
  have B1 := Below.then A0 b1
  cases s1
  · go_wp2_with fail
    go_ret
    exact ⟨ret_bool HC.out.symm, B1⟩
  obtain ⟨c0, c1, c2, c3, c4, c5, c6, c7, c8, c9, c10⟩ := rule_cells9 x H1
  go_wp2_with fail
  refine (T2.out w1 (L0.below b1) B1).mono ?_
  rintro e w2 ⟨rfl, b2⟩
  have H2 := below_heap b2 H1
  have B2 := Below.then B1 b2
  clear c0 c1 c2 c3 c4 c5 c6 c7 c8 c9 c10
  cases s2
  · go_wp2_with fail
    go_ret
    exact ⟨ret_bool HC.out.symm, B2⟩
  obtain ⟨c0, c1, c2, c3, c4, c5, c6, c7, c8, c9, c10⟩ := rule_cells9 x H2
  go_wp2_with fail
  refine (T3.out w2 (hL.below B2)).mono ?_
  rintro e w3 ⟨rfl, b3⟩
  have H3 := below_heap b3 H2
  have B3 := Below.then B2 b3
  clear c0 c1 c2 c3 c4 c5 c6 c7 c8 c9 c10 T1 T2 T3 H0 H1 H2 b1 b2 b3 B1 B2 A0 L0
  cases s3
  · go_wp2_with fail
    go_ret
    exact ⟨ret_bool HC.out.symm, B3⟩
  obtain ⟨c0, c1, c2, c3, c4, c5, c6, c7, c8, c9, c10⟩ := rule_cells9 x H3
  clear c0 c1 c2 c3 c4 c5 c6 c7 c8 c9
  have hml : (x.body.map Lv.l).length = x.body.length := List.length_map ..
  by_cases g1 : 1 ≤ x.body.length
  rotate_left
  · have q : (x.body.length : Int) < 1 := by omega
    have HC2 : Hid (Sh.canR x.r = false) := by show _ = _; rw [HC.out, hml]; simp [g1]
    clear HC
    go_wp2_with fail
    go_ret
    exact ⟨ret_bool HC2.out.symm, B3⟩
  by_cases g2 : x.body.length ≤ 4
  rotate_left
  · have q : ¬ (x.body.length : Int) < 1 := by omega
    have q' : (x.body.length : Int) > 4 := by omega
    have HC2 : Hid (Sh.canR x.r = false) := by show _ = _; rw [HC.out, hml]; simp [g2]
    clear HC
    go_wp2_with fail
    go_ret
    exact ⟨ret_bool HC2.out.symm, B3⟩
  have q : ¬ (x.body.length : Int) < 1 := by omega
  have q' : ¬ (x.body.length : Int) > 4 := by omega
  have HC2 : Hid (Sh.canR x.r = (x.body.map Lv.l).all Sh.canL) := by show _ = _; rw [HC.out, hml]; simp [g1, g2]
  clear HC hml
  generalize x.body = ls at *
  generalize x.ba = ba at *
  generalize x.bcap = bc at *
  go_wp2_with fail
  go_loopw [4, 36] (fun _ v wr => ∃ k : Nat, v = .int .i64 (k : Int) ∧ k ≤ ls.length ∧ Hid (((ls.take k).map Lv.l).all Sh.canL = true) ∧ Below w.heap.size w wr) (fun _ v _ => ls.length - (Lib.intOf v).toNat)
  case atStart => exact ⟨0, rfl, Nat.zero_le _, rfl, B3⟩
  case round =>
    obtain ⟨k, rfl, hk, hall, hb⟩ := hrel
    by_cases hlt : k < ls.length
    · have q2 : (k : Int) < (ls.length : Int) := by omega
      obtain ⟨P1, O1, rfl⟩ := hx2.addr (Nat.lt_of_le_of_lt (Nat.zero_le _) hlt)
      have r1 : wr.rangeAt P1 (O1 + k * 10) (lv (ls[k]'hlt)) := (hx2.below hb (Nat.le_refl _)).range k hlt
      have aP : Row tK w (ls[k]'hlt).a (ls[k]'hlt).cap (ls[k]'hlt).args := hx3 _ (List.getElem_mem hlt)
      have hst : Hid (Sh.canL (ls[k]'hlt).l = true → ((ls.take (k + 1)).map Lv.l).all Sh.canL = true) := fun h => by
        rw [List.take_succ_eq_append_getElem hlt, List.map_append, List.all_append, hall.out]; simp [h]
      have hno : Hid (Sh.canL (ls[k]'hlt).l = false → (ls.map Lv.l).all Sh.canL = false) := fun h => by
        rw [List.all_eq_false]; exact ⟨_, List.mem_map_of_mem (List.getElem_mem hlt), by rw [h]; decide⟩
      clear hall
      generalize (ls[k]'hlt) = y at *
      have HL : Hid (Sh.canL y.l = (Sh.canM y.by_ && Sh.canA y.pred y.args && Sh.canM y.at_)) := rfl
      have T1 := hideP (fun W h => canPlace_at y.by_ W h)
      have T2 := hideP (fun W h (b : Below w.heap.size w W) => canAtom_at y.pred y.a y.cap y.args W h (aP.below b (Nat.le_refl _)))
      have T3 := hideP (fun W h => canPlace_at y.at_ W h)
      generalize Sh.canM y.by_ = s1 at *
      generalize Sh.canA y.pred y.args = s2 at *
      generalize Sh.canM y.at_ = s3 at *
      have iP : (Tryz.prog.info? 52).map (·.size) = some (lv y).length := Tryz.iL10
      go_upto_region 8 with (first
        | (refine wpList_load_mid rfl 52 _ rfl P1 (O1 + k * 10) rfl (lv y) _ r1 Tryz.underlying52 rfl iP ?_)
        | (refine wpList_store_all rfl 52 _ _ rfl wr.heap.size 10 _ 52 (lv y) rfl rfl (heap_alloc_new wr _) rfl rfl Tryz.iL10 rfl ?_; intro w4 H4 d4; have B4 := hb.trans ((below_tok d4).mono hb.size)))
      clear d4
      obtain ⟨c0, c1, c2, c3, c4, c5, c6, c7, c8, c9⟩ := lit_cells9 y H4
      go_wp2_with fail
      refine (T1.out w4 (hL.below B4)).mono ?_
      rintro e w5 ⟨rfl, b5⟩
      have H5 := below_heap b5 H4
      have B5 := Below.then B4 b5
      clear c0 c1 c2 c3 c4 c5 c6 c7 c8 c9
      cases s1
      · go_wp2_with fail
        go_ret
        exact ⟨ret_bool (by rw [HC2.out, hno.out HL.out]), B5⟩
      obtain ⟨c0, c1, c2, c3, c4, c5, c6, c7, c8, c9⟩ := lit_cells9 y H5
      go_wp2_with fail
      refine (T2.out w5 (hL.below B5) B5).mono ?_
      rintro e w6 ⟨rfl, b6⟩
      have H6 := below_heap b6 H5
      have B6 := Below.then B5 b6
      clear c0 c1 c2 c3 c4 c5 c6 c7 c8 c9
      cases s2
      · go_wp2_with fail
        go_ret
        exact ⟨ret_bool (by rw [HC2.out, hno.out HL.out]), B6⟩
      obtain ⟨c0, c1, c2, c3, c4, c5, c6, c7, c8, c9⟩ := lit_cells9 y H6
      go_wp2_with fail
      refine (T3.out w6 (hL.below B6)).mono ?_
      rintro e w7 ⟨rfl, b7⟩
      have B7 := Below.then B6 b7
      clear c0 c1 c2 c3 c4 c5 c6 c7 c8 c9
      cases s3
      · go_wp2_with fail
        go_ret
        exact ⟨ret_bool (by rw [HC2.out, hno.out HL.out]), B7⟩
      · go_wp2_with fail
        exact ⟨⟨k + 1, by go_num, by omega, hst.out HL.out, B7⟩, by simp [Lib.intOf]; omega⟩
    · have q2 : ¬ (k : Int) < (ls.length : Int) := by omega
      have hfin : Hid ((ls.map Lv.l).all Sh.canL = true) := by
        have := hall.out
        rwa [List.take_of_length_le (by omega)] at this
      go_wp2_with fail
      go_ret
      exact ⟨ret_bool (by rw [HC2.out, hfin.out]), hb⟩
end Go.Proofs.YtpdmmmdkpipmkaaGreatDoor
