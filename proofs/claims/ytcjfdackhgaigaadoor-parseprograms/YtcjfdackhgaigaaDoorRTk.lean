/-
  The reference's Tokens.
-/
import Derived.Test.YtcjfdackhgaigaaDoorTk
import Derived.Test.YtcjfdackhgaigaaDoorROs
namespace Go.Proofs.YtcjfdackhgaigaaDoor
open Go.RowKit Go.Lib Go.Shelf

set_option maxRecDepth 100000 in
set_option maxHeartbeats 2000000 in
theorem rtokens_at (l : List UInt8) (w : World) (hr : l.length ≤ 281474976710656) :
    Calls Tryd.prog 12 #[str l] w (TokAns l w) := by
  have hsz := str_size l
  by_cases hbig : 4096 < l.length
  · have hb' : (l.length : Int) > 4096 := by omega
    have ha : Lx.ans l = .error (0, 3) := by unfold Lx.ans; rw [if_pos hbig]
    have HA := hideP ha
    clear ha
    go_enter Tryd.func12, Tryd.ntmps12
    go_wp2_with fail
    go_ret3
    exact tokAns_err HA.out (Below.refl _ _)
  · have hb' : ¬ (l.length : Int) > 4096 := by omega
    have ha : Lx.ans l = Lx.tks l (Lx.skip l 0) := by unfold Lx.ans; rw [if_neg hbig]
    have HA := hideP ha
    clear ha
    have S0 := hideP (fun w => rskip_at l 0 w hr (Nat.zero_le _))
    have sl := Lx.skip_le (l := l) (Nat.zero_le _)
    generalize Lx.skip l 0 = z at *
    go_enter Tryd.func12, Tryd.ntmps12
    go_wp2_with (go_at_call 21; refine (S0.out _).mono ?_; rintro e w1 ⟨rfl, rfl⟩)
    go_loopw [5, 6] (fun v b wr => ∃ (ys : List Lx.Tok) (k : Nat), b = .int .i64 (k : Int) ∧ k ≤ l.length ∧ ys.length ≤ k ∧ wr.ownsRow w.heap.size 35 4 v ys.length (ys.flatMap tokv) ∧ Below w.heap.size w wr ∧ Lx.ans l = Lx.prep ys (Lx.tks l k)) (fun _ b _ => l.length - (Lib.intOf b).toNat)
    case atStart => exact ⟨[], z, rfl, sl, Nat.zero_le _, ⟨rfl, .inl ⟨rfl, rfl⟩⟩, Below.refl _ _, by rw [HA.out, Lx.prep_nil]⟩
    case round =>
      obtain ⟨ys, k, rfl, hk, hys, hown, hbel, hans⟩ := hrel
      have HAN := hideP hans
      clear hans
      rcases Nat.lt_or_ge k l.length with hlt | hge
      · have hlt' : (k : Int) < (l.length : Int) := by omega
        have iN : (Tryd.prog.info? 35).map (·.size) = some 4 := by kernel_rfl
        have O := hideP (fun w => tokQ_open (rone_at l k w hr hlt))
        cases h1 : Lx.one l k with
        | none =>
          have HE := hideP (show Lx.ans l = .error (k, 70) by rw [HAN.out, Lx.tks_bad hlt h1]; rfl)
          rw [h1] at O
          have T : Hid (∀ W, Calls Tryd.prog 22 #[str l, .int .i64 (k : Int)] W fun e w' => e = .returned (.tuple #[.agg (tokv pz).toArray, .int .i64 (-1)]) ∧ Below W.heap.size W w') := O
          clear HAN h1 O
          go_wp2_with (first
            | (go_at_call 22; refine (T.out _).mono ?_; rintro e w1 ⟨rfl, b1⟩)
            | (refine wpList_store_all rfl 35 _ _ rfl w1.heap.size 4 _ 35 (tokv pz) rfl rfl (heap_alloc_new w1 _) rfl rfl iN rfl ?_; intro w3 V3 b3))
          go_ret3
          exact tokAns_err HE.out (hbel.trans ((Below.then b1 (below_tok b3)).mono hbel.size))
        | some r =>
          obtain ⟨t, j⟩ := r
          obtain ⟨hkj, hj⟩ := Lx.one_gt hlt h1
          rw [h1] at O
          have T : Hid (∀ W, Calls Tryd.prog 22 #[str l, .int .i64 (k : Int)] W fun e w' => e = .returned (.tuple #[.agg (tokv t).toArray, .int .i64 (j : Int)]) ∧ Below W.heap.size W w') := O
          clear O
          have hst := str_size t.text
          have hj0 : ¬ (j : Int) < 0 := by omega
          by_cases h32 : 32 < t.text.length
          · have HE := hideP (show Lx.ans l = .error (k, 71) by rw [HAN.out, Lx.tks_long hlt h1 h32]; rfl)
            have h32' : (t.text.length : Int) > 32 := by omega
            clear HAN h1
            go_wp2_with (first
              | (go_at_call 22; refine (T.out _).mono ?_; rintro e w1 ⟨rfl, b1⟩)
              | (refine wpList_store_all rfl 35 _ _ rfl w1.heap.size 4 _ 35 (tokv t) rfl rfl (heap_alloc_new w1 _) rfl rfl iN rfl ?_; intro w3 V3 b3; have c3 : w3.cell? ⟨w1.heap.size, 1, none⟩ = some (str t.text) := by rw [heap_cell V3]; rfl))
            go_ret3
            exact tokAns_err HE.out (hbel.trans ((Below.then b1 (below_tok b3)).mono hbel.size))
          · have htk := Lx.tks_cons hlt h1 h32
            have h32' : ¬ (t.text.length : Int) > 32 := by omega
            clear h1
            have HE := hideP (show Lx.ans l = Lx.prep (ys ++ [t]) (Lx.tks l (Lx.skip l j)) by rw [HAN.out, htk, Lx.prep_cons])
            have S := hideP (fun w => rskip_at l j w hr hj)
            have s1 := Lx.le_skip l j
            have s2 := Lx.skip_le hj
            generalize Lx.skip l j = j2 at *
            clear HAN htk
            have hfew : ys.length + [t].length ≤ 879609302220 := by simp only [List.length_cons, List.length_nil]; omega
            go_wp2_with (first
              | (go_at_call 22; refine (T.out _).mono ?_; rintro e w1 ⟨rfl, b1⟩)
              | (go_at_call 21; refine (S.out _).mono ?_; rintro e w5 ⟨rfl, rfl⟩)
              | (refine wpList_store_all rfl 35 _ _ rfl w1.heap.size 4 _ 35 (tokv t) rfl rfl (heap_alloc_new w1 _) rfl rfl iN rfl ?_; intro w3 V3 b3; have c3 : w3.cell? ⟨w1.heap.size, 1, none⟩ = some (str t.text) := (by rw [heap_cell V3]; rfl); have B3 := Below.then b1 (below_tok b3); have O3 := ownsRow_keep hown (Safe.below (ty := 35) (Below.then B3 (below_alloc w3 (.cells (tokv t).toArray 35)))); have R3 := row_new kT w3 (tokv t).toArray 35 t rfl; have N3 : w.heap.size ≤ (w3.alloc (.cells (tokv t).toArray 35)).heap.size := Nat.le_trans hbel.size (Nat.le_trans B3.size (below_alloc w3 _).size))
              | (refine wpList_load_all rfl 35 _ rfl w1.heap.size 4 35 (tokv t) _ rfl V3 rfl Tryd.underlying35 rfl iN ?_)
              | (refine wpList_build_one rfl 31 35 _ rfl (tokv t) _ 4 40 rfl rfl (by decide) (by decide) Tryd.underlying31 Tryd.iTok ?_)
              | (at_builtin; refine wpList_append_rec kT _ rfl _ _ 31 35 rfl _ 40 Tryd.underlying31 Tryd.iTok rfl (by decide) w.heap.size u5 ys [t] (some ⟨w3.heap.size, 0, none⟩) 1 1 rfl O3 rfl rfl R3 N3 hfew ?_; intro v4 w4 o4 g4))
            have B4 : Below w.heap.size w w4 := (hbel.trans ((Below.then B3 (below_alloc w3 _)).mono hbel.size)).trans (grown_below O3 g4 N3)
            refine ⟨⟨ys ++ [t], j2, rfl, s2, by simp only [List.length_append, List.length_cons, List.length_nil]; omega, o4, B4, HE.out⟩, ?_⟩
            simp only [Lib.intOf]; omega
      · have hge' : ¬ (k : Int) < (l.length : Int) := by omega
        have HE := hideP (show Lx.ans l = .ok ys by rw [HAN.out, Lx.tks_end hge]; simp [Lx.prep])
        go_wp2_with fail
        go_ret3
        exact tokAns_ok HE.out hown (by omega) hbel
end Go.Proofs.YtcjfdackhgaigaaDoor
