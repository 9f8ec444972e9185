/-
  The document's own sum, by definition: the walk.
-/
import Derived.Test.YtfpdiafedoppnaaDoorRefB
namespace Go.Proofs.YtfpdiafedoppnaaDoor
open Go.RowKit

theorem Tryd.infoSt8 : (Tryd.prog.info? 91).map (·.size) = some 8 := by kernel_rfl

set_option maxRecDepth 100000 in
set_option maxHeartbeats 20000000 in
theorem refSum_any (a : Option Addr) (c : Nat) (l : List UInt8) (w : World) (ha : Holds w a c l) (hl : l.length ≤ 140737488352000) :
    Calls Tryd.prog 42 #[.slice a l.length c] w fun e w' => e = .returned (ba (Sm.sum l)) ∧ Below w.heap.size w w' := by
  have iW : (Tryd.prog.info? 92).map (·.size) = some (ws Sm.mix).length := Tryd.infoWords
  have oW := ws_one Sm.mix
  have iS : (Tryd.prog.info? 91).map (·.size) = some (ws Sm.start).length := Tryd.infoSt8
  have oS := ws_one Sm.start
  go_enter Tryd.func42, Tryd.ntmps42
  go_wp2_with (refine wpList_store_new rfl 91 _ _ rfl (w.heap.size + 1) ?z0 (ws Sm.start) rfl (by kernel_rfl) rfl iS oS ?_)
  case z0 => simp
  have T1 := there_new w (cs (Sm.zeros 32)).toArray 42 32 rfl
  have B1 := below_alloc w (.cells (cs (Sm.zeros 32)).toArray 42)
  change Calls _ _ _ ((w.alloc (.cells (cs (Sm.zeros 32)).toArray 42)).alloc (.cells (ws Sm.start).toArray 91)) _
  have s1 : (w.alloc (.cells (cs (Sm.zeros 32)).toArray 42)).heap.size = w.heap.size + 1 := by simp
  generalize w.alloc (.cells (cs (Sm.zeros 32)).toArray 42) = v1 at T1 B1 s1 ⊢
  have R2 := rangeAt_new v1 (ws Sm.start).toArray 91 (ws Sm.start) (by simp)
  have T2 := there_new v1 (ws Sm.start).toArray 91 8 rfl
  have b2 := below_alloc v1 (.cells (ws Sm.start).toArray 91)
  have s2 : (v1.alloc (.cells (ws Sm.start).toArray 91)).heap.size = w.heap.size + 1 + 1 := by simp [s1]
  rw [s1] at R2 T2
  generalize v1.alloc (.cells (ws Sm.start).toArray 91) = v2 at R2 T2 b2 s2 ⊢
  have B2 := Below.then B1 b2
  have T12 := there_below T1 b2
  clear B1 b2 T1 s1
  refine (rounds_any v2).mono ?_
  rintro e3 v3 ⟨rfl, hb3⟩
  have B3 := Below.then B2 hb3
  have R3 := rangeAt_below R2 hb3
  have T3 := there_below T2 hb3
  have T13 := there_below T12 hb3
  have s3 := hb3.size
  rw [s2] at s3
  clear B2 R2 T2 T12 hb3 s2
  go_wp2_with (refine wpList_store_new rfl 92 _ _ rfl v3.heap.size rfl (ws Sm.mix) rfl rfl ?z1 iW oW ?_)
  case z1 => kernel_rfl
  have R4 := rangeAt_new v3 (ws Sm.mix).toArray 92 (ws Sm.mix) (by simp)
  have b4 := below_alloc v3 (.cells (ws Sm.mix).toArray 92)
  have s4 : v3.heap.size < (v3.alloc (.cells (ws Sm.mix).toArray 92)).heap.size := by simp
  generalize v3.alloc (.cells (ws Sm.mix).toArray 92) = v4 at R4 b4 s4 ⊢
  have B4 := Below.then B3 b4
  have R34 := rangeAt_below R3 b4
  have T34 := there_below T3 b4
  have T14 := there_below T13 b4
  clear B3 R3 T3 T13 b4
  refine (refPadded_any a c l v4 (ha.below B4) hl).mono ?_
  rintro e5 v5 ⟨g, cap, rfl, ho, hb5⟩
  have A0 : RefAt w (w.heap.size + 1) v3.heap.size g cap (Sm.pad l) Sm.start v5 :=
    ⟨rangeAt_below R34 hb5, there_below T34 hb5, rangeAt_below R4 hb5, ho.holds, there_below T14 hb5, Below.then B4 hb5, Nat.lt_succ_self _, by omega, by have := ho.parts.1; omega⟩
  clear R4 B4 R34 T34 T14 ho hb5 iS oS iW oW
  generalize v3.heap.size = G at *
  obtain ⟨hP64, _⟩ := Sm.pad_length l
  have hfin := Sm.finish_pad l
  have hPl : (Sm.pad l).length ≤ 140737488353000 := by
    rw [Sm.pad_def]; simp [Sm.len8, Sm.zeros_length]; omega
  have HS : Hid (Sm.sum l = Sm.told (Sm.blocks (Sm.pad l) ((Sm.pad l).length / 64))) := by
    rw [Sm.sum_def, hfin]; trivial
  generalize Sm.pad l = P at *
  obtain ⟨q64, hq64⟩ : ∃ q, q = P.length / 64 := ⟨_, rfl⟩
  rw [← hq64] at hP64 HS
  have HP := hideIt hP64
  have q1 : (P.length : Int) ≤ 140737488353000 := by omega
  clear hq64 hfin s3 s4 hP64
  go_wp2_with fail
  go_loopw [6] (fun v wr => ∃ A q : Nat, v = .int .i64 (A : Int) ∧ A = 64 * q ∧ q ≤ q64 ∧ RefAt w (w.heap.size + 1) G g cap P (Sm.blocks P q) wr) (fun v _ => P.length - (intOf v).toNat)
  case atStart => exact ⟨0, 0, rfl, rfl, by omega, by rw [Sm.blocks_zero]; exact A0⟩
  case round =>
    clear A0
    obtain ⟨A, q, rfl, hA, hq, hr⟩ := hrel
    have hPq := HP.out
    have hsl := Sm.blocks_length P q
    by_cases hlt : A < P.length
    · have k1 : (A : Int) < (P.length : Int) := by omega
      have hqq : q < q64 := by omega
      obtain ⟨B, hB⟩ : ∃ B, B = Sm.blk P q := ⟨_, rfl⟩
      obtain ⟨s, hs⟩ : ∃ s, s = Sm.blocks P q := ⟨_, rfl⟩
      rw [← hs] at hr hsl
      have HA := hideIt hA
      have HB : Hid (B = Sm.blk P q ∧ s = Sm.blocks P q) := ⟨hB, hs⟩
      have hby : ∀ t i, t < 16 → i < 4 → Sm.by' B (4 * t + i) = Sm.by' P (A + 4 * t + i) ∧ A + 4 * t + i < P.length := fun t i ht hi => by
        refine ⟨?_, by omega⟩
        rw [hB, by_blk P q (4 * t + i) (by omega), hA, Nat.add_assoc]
      have HBY := hideIt hby
      clear hB hs hby hPq hA hq hlt
      go_wp2_with fail
      have W1 := WdsAt.start B wr (wz []).toArray (by simp) 92
      have r1 := hr.below (below_alloc wr (.cells (wz []).toArray 92))
      have hX : g < wr.heap.size := by
        have := hr.txt.block rfl (by omega)
        exact this
      generalize wr.heap.size = X at W1 hX ⊢
      go_loopw [8] (fun v wr => ∃ t : Nat, v = .int .i64 (t : Int) ∧ t ≤ 16 ∧ RefAt w (w.heap.size + 1) G g cap P s wr ∧ WdsAt B X t 0 wr) (fun v _ => 16 - (intOf v).toNat)
      case atStart => exact ⟨0, rfl, by omega, r1, W1⟩
      case round =>
        clear hr r1 W1
        obtain ⟨t, rfl, ht, hr, hW⟩ := hrel
        by_cases h16 : t < 16
        · have k2 : (t : Int) < 16 := by omega
          go_wp2_with fail
          go_loopw [9] (fun v wr => ∃ i : Nat, v = .int .i64 (i : Int) ∧ i ≤ 4 ∧ RefAt w (w.heap.size + 1) G g cap P s wr ∧ WdsAt B X t (acc B t i) wr) (fun v _ => 4 - (intOf v).toNat)
          case atStart => exact ⟨0, rfl, by omega, hr, by rw [acc_zero]; exact hW⟩
          case round =>
            clear hr hW
            obtain ⟨i, rfl, hi, hr, hW⟩ := hrel
            by_cases h4 : i < 4
            · have k3 : (i : Int) < 4 := by omega
              obtain ⟨m, hm⟩ : ∃ m, m = 4 * t := ⟨_, rfl⟩
              obtain ⟨n1, hn1⟩ : ∃ n1, n1 = A + m := ⟨_, rfl⟩
              obtain ⟨n2, hn2⟩ : ∃ n2, n2 = n1 + i := ⟨_, rfl⟩
              obtain ⟨e1, e2⟩ := HBY.out t i h16 h4
              rw [show A + 4 * t + i = n2 by omega] at e1 e2
              have c1 := holds_by hr.txt n2 e2
              obtain ⟨Y, hY⟩ : ∃ Y, Y = Sm.by' B (4 * t + i) := ⟨_, rfl⟩
              rw [← e1, ← hY] at c1
              have c2 := hW.cell (by omega)
              have f2 := (hW.th t (by omega)).2
              rw [Nat.zero_add] at f2
              have w1 : IntKind.i64.wrap (4 * (t : Int)) = (m : Int) := by rw [IntKind.wrap_i64]; omega
              have w2 : IntKind.i64.wrap ((A : Int) + (m : Int)) = (n1 : Int) := by rw [IntKind.wrap_i64]; omega
              have w3 : IntKind.i64.wrap ((n1 : Int) + (i : Int)) = (n2 : Int) := by rw [IntKind.wrap_i64]; omega
              have k4 : (n2 : Int) < (P.length : Int) := by omega
              have k5 : (t : Int) < 64 := by omega
              have hnx := (hr.other X t (wv (acc B t i <<< 8 ||| Sm.bw Y)) hX).below (Below.refl _ _).drew
              have hnw := (hW.put (acc B t (i + 1)) (wv (acc B t i <<< 8 ||| Sm.bw Y)) (by rw [acc_succ, hY])).below (Below.refl _ _).drew
              have HSP := hideIt (acc_spell' (acc B t i) Y)
              clear hm hn1 hn2 e1 e2 hY hr hW
              go_wp2_with fail
              go_still_tail 17, (by kernel_rfl)
              go_wp2_with fail
              refine ⟨⟨i + 1, by simp, by omega, ?_, ?_⟩, by simp [intOf]; omega⟩
              · rw [HSP.out]; exact hnx
              · rw [HSP.out]; exact hnw
            · have e4 : i = 4 := by omega
              have k3 : ¬ (i : Int) < 4 := by omega
              rw [e4, acc_four, ← Sm.next_lo B t h16] at hW
              have hW2 := hW.whole (by omega)
              clear e4 h4 hi hW
              go_wp2_with fail
              refine ⟨⟨t + 1, by simp, by omega, hr, hW2⟩, by simp [intOf]; omega⟩
        · have e16 : t = 16 := by omega
          have k2 : ¬ (t : Int) < 16 := by omega
          have hR := hW.range (by omega)
          have hT := hW.th
          rw [e16] at hR
          clear e16 h16 ht hW
          go_wp2_with fail
          go_loopw [10] (fun v wr => ∃ t : Nat, v = .int .i64 (t : Int) ∧ 16 ≤ t ∧ t ≤ 64 ∧ RefAt w (w.heap.size + 1) G g cap P s wr ∧ wr.rangeAt X 0 (wz (Sm.words B t)) ∧ wr.there X 0 64) (fun v _ => 64 - (intOf v).toNat)
          case atStart => exact ⟨16, rfl, by omega, by omega, hr, hR, hT⟩
          case round =>
            clear hr hR hT
            obtain ⟨j, rfl, hj16, hj64, hr, hR, hT⟩ := hrel
            have hl := Sm.words_length B j
            by_cases h64 : j < 64
            · obtain ⟨m2, hm2⟩ : ∃ m2, m2 = j - 2 := ⟨_, rfl⟩
              obtain ⟨m7, hm7⟩ : ∃ m7, m7 = j - 7 := ⟨_, rfl⟩
              obtain ⟨mf, hmf⟩ : ∃ mf, mf = j - 15 := ⟨_, rfl⟩
              obtain ⟨mg, hmg⟩ : ∃ mg, mg = j - 16 := ⟨_, rfl⟩
              have c2 := at_cell hR m2 (by omega)
              have c7 := at_cell hR m7 (by omega)
              have cf := at_cell hR mf (by omega)
              have cg := at_cell hR mg (by omega)
              obtain ⟨f1, f2⟩ := hT j h64
              obtain ⟨u0, hu0⟩ := Option.isSome_iff_exists.1 f1
              rw [Nat.zero_add] at f2 hu0
              clear f1
              have w2 : IntKind.i64.wrap ((j : Int) - 2) = (m2 : Int) := by rw [IntKind.wrap_i64]; omega
              have w7 : IntKind.i64.wrap ((j : Int) - 7) = (m7 : Int) := by rw [IntKind.wrap_i64]; omega
              have wf : IntKind.i64.wrap ((j : Int) - 15) = (mf : Int) := by rw [IntKind.wrap_i64]; omega
              have wg : IntKind.i64.wrap ((j : Int) - 16) = (mg : Int) := by rw [IntKind.wrap_i64]; omega
              have p2 : (m2 : Int) < 64 := by omega
              have p7 : (m7 : Int) < 64 := by omega
              have pf : (mf : Int) < 64 := by omega
              have pg : (mg : Int) < 64 := by omega
              have pj : (j : Int) < 64 := by omega
              have HM : Hid (m2 = j - 2 ∧ m7 = j - 7 ∧ mf = j - 15 ∧ mg = j - 16) := ⟨hm2, hm7, hmf, hmg⟩
              clear hm2 hm7 hmf hmg
              go_wp2_with fail
              go_quiet (first | (go_at_call 52; exact (refRot_at _ _ _ (by decide) (by decide)).mono fun _ _ hh => ⟨hh.1, _, hh.2⟩))
              revert nq
              intro n1
              go_wp2_with fail
              go_quiet (first | (go_at_call 52; exact (refRot_at _ _ _ (by decide) (by decide)).mono fun _ _ hh => ⟨hh.1, _, hh.2⟩))
              have bq : Below wr.heap.size wr ((wr.drewN n1).drewN nq) := below_drewN (below_drewN (Below.refl _ _) n1) nq
              have hr2 := hr.below bq
              have hR2 := rangeAt_below hR bq
              have hT2 := there_below hT bq
              have d7 : ((wr.drewN n1).drewN nq).cell? ⟨X, m7, none⟩ = _ := c7
              have dg : ((wr.drewN n1).drewN nq).cell? ⟨X, mg, none⟩ = _ := cg
              have du : ((wr.drewN n1).drewN nq).cell? ⟨X, j, none⟩ = _ := hu0
              have ds : ((wr.drewN n1).drewN nq).frozen? ⟨X, j, none⟩ = _ := f2
              clear c2 c7 cf cg hu0 f2 hr hR hT bq
              generalize (wr.drewN n1).drewN nq = W at hr2 hR2 hT2 d7 dg du ds ⊢
              go_wp2_with fail
              go_still_tail 15, (by kernel_rfl)
              go_wp2_with fail
              obtain ⟨e2, e7, ef, eg⟩ := HM.out
              have hval := Sm.next_spell (Sm.at' (Sm.words B j) m2) (Sm.at' (Sm.words B j) m7) (Sm.at' (Sm.words B j) mf) (Sm.at' (Sm.words B j) mg)
              have hnext := Sm.next_hi B j (by omega)
              rw [← e2, ← e7, ← ef, ← eg] at hnext
              rw [← hnext] at hval
              rw [hval]
              refine ⟨⟨j + 1, by simp, by omega, by omega, (hr2.other X j _ hX).below (Below.refl _ _).drew, ?_, ?_⟩, by simp [intOf]; omega⟩
              · exact rangeAt_below (WdsAt.next hR2 h64 _ rfl) (Below.refl _ _).drew
              · exact there_below (there_set hT2 _ _ _) (Below.refl _ _).drew
            · have e64 : j = 64 := by omega
              have pj : ¬ (j : Int) < 64 := by omega
              rw [e64] at hR
              clear e64 h64 hj16 hj64 hl
              go_wp2_with fail
              obtain ⟨W, eW⟩ : ∃ W, W = Sm.words B 64 := ⟨_, rfl⟩
              have hWr : wr.rangeAt X 0 (ws W) := by
                have := hR
                rw [wz, Sm.words_length, Nat.sub_self, List.replicate_zero, List.append_nil, ← eW] at this
                exact this
              have hWl : W.length = 64 := by rw [eW]; exact Sm.words_length B 64
              have HW := hideIt eW
              clear hR hT eW
              obtain ⟨s0, s1, s2, s3, s4, s5, s6, s7, hs8⟩ := Sm.eight hsl
              have HS8 := hideIt hs8
              have c0 := range_word hr.st 0 (by omega)
              have c1 := range_word hr.st 1 (by omega)
              have c2 := range_word hr.st 2 (by omega)
              have c3 := range_word hr.st 3 (by omega)
              have c4 := range_word hr.st 4 (by omega)
              have c5 := range_word hr.st 5 (by omega)
              have c6 := range_word hr.st 6 (by omega)
              have c7 := range_word hr.st 7 (by omega)
              simp only [hs8, Sm.at', List.getD_cons_zero, List.getD_cons_succ] at c0 c1 c2 c3 c4 c5 c6 c7
              clear hs8
              go_quiet (fail)
              have hr2 := hr.below (below_drewN (Below.refl wr.heap.size wr) nq)
              have hW2 := rangeAt_below hWr (below_drewN (Below.refl wr.heap.size wr) nq)
              clear c0 c1 c2 c3 c4 c5 c6 c7 hr hWr
              generalize wr.drewN nq = x5 at hr2 hW2 ⊢
              go_wp2_with fail
              go_loopw [13, 14, 15, 16, 17, 18, 19, 20, 21] (fun v0 v1 v2 v3 v4 v5 v6 v7 v wr => ∃ (t : Nat) (r0 r1 r2 r3 r4 r5 r6 r7 : Sm.Wd), v = .int .i64 (t : Int) ∧ t ≤ 64 ∧ v0 = wv r0 ∧ v1 = wv r1 ∧ v2 = wv r2 ∧ v3 = wv r3 ∧ v4 = wv r4 ∧ v5 = wv r5 ∧ v6 = wv r6 ∧ v7 = wv r7 ∧ Sm.turns s W t = [r0, r1, r2, r3, r4, r5, r6, r7] ∧ RefAt w (w.heap.size + 1) G g cap P s wr ∧ wr.rangeAt X 0 (ws W)) (fun _ _ _ _ _ _ _ _ v _ => 64 - (intOf v).toNat)
              case atStart => exact ⟨0, s0, s1, s2, s3, s4, s5, s6, s7, rfl, by omega, rfl, rfl, rfl, rfl, rfl, rfl, rfl, rfl, by rw [Sm.turns_zero]; exact HS8.out, hr2, hW2⟩
              case round =>
                clear hr2 hW2 HS8
                obtain ⟨j, r0, r1, r2, r3, r4, r5, r6, r7, rfl, hj64, rfl, rfl, rfl, rfl, rfl, rfl, rfl, rfl, hT, hr, hWr⟩ := hrel
                have HT := hideIt hT
                clear hT
                by_cases h64 : j < 64
                · have pj : (j : Int) < 64 := by omega
                  have ck := range_word hr.mix j (by rw [show Sm.mix.length = 64 from rfl]; exact h64)
                  have cw := range_word hWr j (by omega)
                  go_wp2_with fail
                  go_quiet (first | (go_at_call 52; exact (refRot_at _ _ _ (by decide) (by decide)).mono fun _ _ hh => ⟨hh.1, _, hh.2⟩))
                  have bq : Below wr.heap.size wr (wr.drewN nq) := below_drewN (Below.refl _ _) nq
                  have hr2 := hr.below bq
                  have hW2 := rangeAt_below hWr bq
                  clear ck cw hr hWr bq
                  generalize wr.drewN nq = x6 at hr2 hW2 ⊢
                  go_wp2_with (go_at_call 52; refine (refRot_at _ _ _ (by decide) (by decide)).mono ?_; rintro e w' ⟨rfl, rfl⟩)
                  simp only [Sm.xor_eq, Sm.and_eq, not_spell, refA2, refE2]
                  refine ⟨⟨j + 1, _, _, _, _, _, _, _, _, by simp, by omega, rfl, rfl, rfl, rfl, rfl, rfl, rfl, rfl, ?_, hr2, hW2⟩, by simp [intOf]; omega⟩
                  rw [Sm.turns_succ, HT.out, turned_eq]
                · have e64 : j = 64 := by omega
                  have pj : ¬ (j : Int) < 64 := by omega
                  have hT := HT.out
                  rw [e64] at hT
                  have hm8 := turns_two hT B HW.out hsl rfl
                  have HM8 := hideIt hm8
                  clear e64 h64 hj64 hT hm8 HT
                  go_wp2_with fail
                  go_loopw [204] (fun v wr => ∃ i : Nat, v = .int .i64 (i : Int) ∧ i ≤ 8 ∧ RefAt w (w.heap.size + 1) G g cap P (Sm.mixed s [r0, r1, r2, r3, r4, r5, r6, r7] i) wr) (fun v _ => 8 - (intOf v).toNat)
                  case atStart => exact ⟨0, rfl, by omega, by rw [Sm.mixed_zero]; exact hr⟩
                  case round =>
                    clear hr hWr
                    obtain ⟨i, rfl, hi, hr⟩ := hrel
                    by_cases h8 : i < 8
                    · have pi : (i : Int) < 8 := by omega
                      have c0 := range_word hr.st i (by rw [Sm.mixed_length s _ i hsl rfl]; exact h8)
                      rw [Sm.at_mixed s _ i hsl rfl h8] at c0
                      have hst := (hr.stT i h8).2
                      rw [Nat.zero_add] at hst
                      have ci : (Instr.index 91 (.agg #[wv r0, wv r1, wv r2, wv r3, wv r4, wv r5, wv r6, wv r7]) (.int .i64 (i : Int))).run Tryd.prog wr = .ok (wv (Sm.at' [r0, r1, r2, r3, r4, r5, r6, r7] i)) wr := run_index_words8 [r0, r1, r2, r3, r4, r5, r6, r7] i wr rfl h8
                      generalize hy : Sm.at' [r0, r1, r2, r3, r4, r5, r6, r7] i = y at ci
                      have HY := hideIt hy
                      clear hy
                      go_wp2_with fail
                      refine ⟨⟨i + 1, by simp, by omega, ?_⟩, by simp [intOf]; omega⟩
                      refine hr.sum hsl rfl h8 _ ?_
                      rw [HY.out, Sm.add_eq']
                    · have e8 : i = 8 := by omega
                      have pi : ¬ (i : Int) < 8 := by omega
                      rw [e8, HM8.out] at hr
                      obtain ⟨hB, hs⟩ := HB.out
                      rw [hB, hs, ← Sm.blocks_succ] at hr
                      have hA := HA.out
                      clear e8 h8 hi hB hs
                      have HA2 := hideIt hA
                      clear hA
                      go_wp2_with fail
                      have hA := HA2.out
                      refine ⟨⟨A + 64, q + 1, by simp, by omega, by omega, hr⟩, by simp [intOf]; omega⟩
    · have k1 : ¬ (A : Int) < (P.length : Int) := by omega
      have hqq : q = q64 := by omega
      rw [hqq] at hr hsl
      have HSM := HS.out
      obtain ⟨F, hF⟩ : ∃ F, F = Sm.blocks P q64 := ⟨_, rfl⟩
      rw [← hF] at hr hsl HSM
      have HSM2 := hideIt HSM
      clear hF HSM HS HP hPq hqq hA hq hlt
      go_wp2_with fail
      have r1 := hr.below (below_alloc wr (.cells (cs (Sm.zeros 32)).toArray 42))
      have d1 := rangeAt_new wr (cs (Sm.zeros 32)).toArray 42 (cs (Sm.zeros 32)) (by simp)
      have t1 := there_new wr (cs (Sm.zeros 32)).toArray 42 32 rfl
      have hO2 : w.heap.size + 1 < wr.heap.size := by
        obtain ⟨v, hv⟩ := Option.isSome_iff_exists.1 (hr.stT 0 (by omega)).1
        exact cell_block hv
      generalize wr.heap.size = O at d1 t1 hO2 ⊢
      go_loopw [27] (fun v wr => ∃ i : Nat, v = .int .i64 (i : Int) ∧ i ≤ 32 ∧ wr.rangeAt (w.heap.size + 1) 0 (ws F) ∧ wr.there w.heap.size 0 32 ∧ Below w.heap.size w wr ∧ wr.rangeAt O 0 (cs (Sm.toldTo F i)) ∧ wr.there O 0 32) (fun v _ => 32 - (intOf v).toNat)
      case atStart => exact ⟨0, rfl, by omega, r1.st, r1.res, r1.bel, by rw [Sm.toldTo_zero]; exact d1, t1⟩
      case round =>
        clear r1 d1 t1 hr
        obtain ⟨i, rfl, hi, hst, hres, hbel, hd, hT⟩ := hrel
        by_cases h32 : i < 32
        · have p0 : (i : Int) < 32 := by omega
          obtain ⟨a4, ha4⟩ : ∃ a4, a4 = i / 4 := ⟨_, rfl⟩
          obtain ⟨b4, hb4⟩ : ∃ b4, b4 = i % 4 := ⟨_, rfl⟩
          obtain ⟨m, hm⟩ : ∃ m, m = 24 - 8 * b4 := ⟨_, rfl⟩
          have p1 : (i : Int) / 4 = (a4 : Int) := by omega
          have p2 : (i : Int) % 4 = (b4 : Int) := by omega
          have p3 : (24 : Int) - 8 * (b4 : Int) = (m : Int) := by omega
          have p4 : (a4 : Int) < 8 := by omega
          have p5 : (b4 : Int) < 4 := by omega
          have p6 : (m : Int) ≤ 24 := by omega
          have c0 := range_word hst a4 (by omega)
          obtain ⟨f1, f2⟩ := hT i h32
          obtain ⟨u0, hu0⟩ := Option.isSome_iff_exists.1 f1
          rw [Nat.zero_add] at f2 hu0
          have hsp := Sm.toldByte_spell F a4 b4 m (by omega) hm
          rw [show 4 * a4 + b4 = i by omega] at hsp
          have HSP := hideIt hsp
          clear ha4 hb4 hm hsp f1
          go_wp2_with fail
          refine ⟨⟨i + 1, by simp, by omega, rangeAt_other hst (by omega) _, there_set hres _ _ _, hbel.setCell (p := ⟨O, i, none⟩) (by show w.heap.size ≤ O; omega) _, ?_, there_set hT _ _ _⟩, by simp [intOf]; omega⟩
          rw [← HSP.out, Sm.toldTo_succ F i h32, ← cs_set]
          exact rangeAt_set hd i _
        · have e32 : i = 32 := by omega
          have p0 : ¬ (i : Int) < 32 := by omega
          rw [e32, Sm.toldTo_all, ← HSM2.out] at hd
          clear e32 h32 hi
          have hl3 := Sm.sum_length l
          have iD : (Tryd.prog.info? 42).map (·.size) = some (cs (Sm.sum l)).length := by rw [cs_length, hl3]; exact Tryd.infoDigest
          have oD := cs_one (Sm.sum l)
          have tD : wr.there w.heap.size 0 (cs (Sm.sum l)).length := by rw [cs_length, hl3]; exact hres
          have P6 := below_cells (Nat.le_refl _) (cs (Sm.sum l)) 0 wr hbel
          have R6 := World.rangeAt_setCells_same wr w.heap.size 0 (cs (Sm.sum l)) tD
          clear hst hres hbel hT hl3
          go_wp2_with (first | (refine wpList_load_mid rfl 42 _ rfl O 0 rfl (cs (Sm.sum l)) _ hd Tryd.underlying42 rfl iD ?_; clear hd) | (refine wpList_store_ex rfl 42 _ _ rfl w.heap.size 0 (cs (Sm.sum l)) rfl rfl tD iD oD ?_; intro w6 hw6; rw [hw6] at P6 R6; clear tD hw6))
          exact bodyPost_ret (results_cell (b := w.heap.size) (o := 0) (cs := cs (Sm.sum l)) rfl rfl R6 Tryd.underlying42 rfl iD) rfl ⟨rfl, P6⟩
end Go.Proofs.YtfpdiafedoppnaaDoor
