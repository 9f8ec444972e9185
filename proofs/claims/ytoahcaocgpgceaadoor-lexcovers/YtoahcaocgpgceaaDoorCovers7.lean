/-
  LexCovers: its walk.
-/
import Derived.Test.YtoahcaocgpgceaaDoorLv
import Derived.Test.YtoahcaocgpgceaaDoorRTk
import Derived.Test.YtoahcaocgpgceaaDoorLm3
namespace Go.Proofs.YtoahcaocgpgceaaDoor
open Go.RowKit Go.Lib Go.Shelf

theorem drop_get {L : List Lx.Tok} {j : Nat} (h : j < L.length) : L.drop j = L[j] :: L.drop (j + 1) := List.drop_eq_getElem_cons h

set_option maxRecDepth 100000 in
set_option maxHeartbeats 4000000 in
theorem lexCovers_walk (l : List UInt8) (w : World) (hL : Laid w) (hr : l.length ≤ 140737488351232) :
    Calls Tryd.prog 5 #[str l] w fun e w' => e = .returned (.bool true) ∧ Below w.heap.size w w' := by
  have hsz := str_size l
  have mixed : Tryd.prog.follows .mixedOrders = true := by kernel_rfl
  have iN : (Tryd.prog.info? 33).map (·.size) = some 4 := by kernel_rfl
  have T1 := hideP (ltokens_at l w (by omega) hL)
  have LV := hideP live_at
  go_enter Tryd.func5, Tryd.ntmps5
  go_wp2_with fail
  refine T1.out.mono ?_
  rintro e w1 ⟨⟨a1, c1, rfl, r1, _⟩, b1⟩
  have L1 := hL.below b1
  cases ha : Lx.ans l with
  | error z =>
    obtain ⟨p, er⟩ := z
    obtain ⟨h1, h2⟩ := Lx.ans_err ha
    simp only [Lx.toks, Lx.place, Lx.err, List.length_nil]
    have q1 : (er != 0) = true := by simpa using h2
    have q2 : (p : Int) ≥ 0 := by omega
    have q3 : (p : Int) ≤ (l.length : Int) := by omega
    clear ha r1
    go_wp2_with (first
      | (go_at_call 12; refine (LV.out _ L1).mono ?_; rintro e w4 ⟨rfl, b4⟩))
    go_ret
    exact ⟨rfl, Below.then b1 b4⟩
  | ok L =>
    rw [ha] at r1
    simp only [Lx.toks, Lx.place, Lx.err] at r1 ⊢
    simp only [Int.natCast_zero] at *
    have few := r1.row.few
    have room := r1.row.room
    have htk : Lx.tks l (Lx.skip l 0) = .ok (L.drop 0) := by
      unfold Lx.ans at ha
      split at ha
      · cases ha
      · rw [ha, List.drop_zero]
    clear ha
    go_wp2_with fail
    go_loopw [6, 7] (fun v u wr => ∃ j k : Nat, v = .int .i64 (k : Int) ∧ u = .int .i64 (j : Int) ∧ j ≤ L.length ∧ k ≤ l.length ∧ Lx.tks l (Lx.skip l k) = .ok (L.drop j) ∧ Below w1.heap.size w1 wr) (fun _ u _ => L.length - (Lib.intOf u).toNat)
    case atStart => exact ⟨0, 0, rfl, rfl, Nat.zero_le _, Nat.zero_le _, htk, Below.refl _ _⟩
    case round =>
      obtain ⟨j, k, rfl, rfl, hj, hk, htj, hb⟩ := hrel
      have sl := Lx.skip_le hk
      have sg := Lx.le_skip l k
      have SK := hideP (fun w => rskip_at l k w (by omega) hk)
      rcases Nat.lt_or_ge j L.length with hlt | hge
      · have q1 : (j : Int) < (L.length : Int) := by omega
        obtain ⟨P1, O1, rfl⟩ := r1.row.addr (by omega)
        have RG := (r1.row.below hb (Nat.le_refl _)).range j hlt
        rw [drop_get hlt] at htj
        obtain ⟨hs, e', ho, hnext⟩ := Lx.tks_inv htj
        have hpl := Lx.one_pl ho
        have hg := Lx.one_gt hs ho
        have O := tokQ_open (rone_at l (Lx.skip l k) wr (by omega) hs)
        have HO := hideP (fun w => tokQ_open (rone_at l (Lx.skip l k) w (by omega) hs))
        rw [ho] at HO
        have HO' : Hid (∀ W, Calls Tryd.prog 16 #[str l, .int .i64 (L[j].pl : Int)] W fun e w' => e = .returned (.tuple #[.agg (tokv L[j]).toArray, .int .i64 (e' : Int)]) ∧ Below W.heap.size W w') := by rw [hpl]; exact HO
        have HNX := hideP hnext
        have EQ : ∀ W, (Op.equalIn 10000 33 (.agg (tokv L[j]).toArray) (.agg (tokv L[j]).toArray)).run Tryd.prog W = .ok true W := eqSelf L[j]
        rw [← hpl] at SK hs hg sl sg
        clear HO O ho htj hnext hpl
        generalize L[j] = t at *
        have p1 : ¬ (t.pl : Int) < (k : Int) := by omega
        have p2 : ¬ (t.pl : Int) ≥ (l.length : Int) := by omega
        have p3 : ¬ (e' : Int) ≤ (t.pl : Int) := by omega
        have Z0 := heap_alloc_new wr zTok
        go_wp2_with (first
          | (refine wpList_load_mid rfl 33 _ rfl P1 (O1 + j * 4) rfl (tokv t) _ RG Tryd.underlying33 rfl iN ?_)
          | (refine wpList_store_all rfl 33 _ _ rfl wr.heap.size 4 _ 33 (tokv t) rfl rfl Z0 rfl rfl iN rfl ?_; intro w3 V3 b3; have c3 : w3.cell? ⟨wr.heap.size, 3, none⟩ = some (.int .i64 (t.pl : Int)) := (by rw [heap_cell V3]; rfl)))
        go_quiet (first | (go_at_call 15; exact (SK.out _).mono fun _ _ hh => ⟨hh.1, _, hh.2.symm⟩))
        have B3 := below_tok b3
        have D3 : Below w3.heap.size w3 (w3.drewN nq) := (Grew.drewN w3 nq).below
        generalize w3.drewN nq = w4 at *
        have V4 := below_heap D3 V3
        have c4 : w4.cell? ⟨wr.heap.size, 3, none⟩ = some (.int .i64 (t.pl : Int)) := by rw [heap_cell V4]; rfl
        have B4 := Below.then B3 D3
        clear c3 V3 b3 D3
        go_wp2_with (first
          | (go_at_call 16; refine (HO'.out _).mono ?_; rintro e w5 ⟨rfl, b5⟩; have V5 := below_heap b5 V4)
          | (refine wpList_store_all rfl 33 _ _ rfl w5.heap.size 4 _ 33 (tokv t) rfl rfl (heap_alloc_new w5 _) rfl rfl iN rfl ?_; intro w6 V6 b6; have B6 := below_tok b6; have U6 := below_heap B6 V5; have c6 : w6.cell? ⟨wr.heap.size, 3, none⟩ = some (.int .i64 (t.pl : Int)) := (by rw [heap_cell U6]; rfl))
          | (refine wpList_load_all rfl 33 _ rfl w5.heap.size 4 33 (tokv t) _ rfl V6 rfl Tryd.underlying33 rfl iN ?_)
          | (refine wpList_load_all rfl 33 _ rfl wr.heap.size 4 33 (tokv t) _ rfl U6 rfl Tryd.underlying33 rfl iN ?_))
        refine ⟨⟨j + 1, e', rfl, by go_num, by omega, hg.2, HNX.out, hb.trans ((Below.then (Below.then B4 b5) B6).mono hb.size)⟩, by simp [Lib.intOf]; omega⟩
      · have q1 : ¬ (j : Int) < (L.length : Int) := by omega
        have e1 : L.drop j = [] := List.drop_of_length_le hge
        rw [e1] at htj
        have hend := Lx.tks_nil htj
        have q2 : ((Lx.skip l k : Int) == (l.length : Int)) = true := by simp; omega
        have Lb := L1.below hb
        generalize Lx.skip l k = z at *
        go_wp2_with (first
          | (go_at_call 15; refine (SK.out _).mono ?_; rintro e w3 ⟨rfl, rfl⟩)
          | (go_at_call 12; refine (LV.out _ Lb).mono ?_; rintro e w4 ⟨rfl, b4⟩))
        go_ret
        exact ⟨rfl, Below.then (Below.then b1 hb) b4⟩
end Go.Proofs.YtoahcaocgpgceaaDoor
