/-
  The reference's Copy of rules: all of its rows are its own, and lie apart.
-/
import Derived.Test.YtpdmmmdkpipmkaaGreatDoorQMe
import Derived.Deep.RegionLaw
namespace Go.Proofs.YtpdmmmdkpipmkaaGreatDoor
open Go.RowKit Go.Sort

set_option maxRecDepth 100000 in
set_option maxHeartbeats 8000000 in
theorem rcopy0_at (a : Option Addr) (c : Nat) (xs : List Rv) (w : World) (hx : Row rK w a c xs) (ax : ∀ x ∈ xs, Rv.Aw w x) (hn : xs.length ≤ 300) (fx : ∀ x ∈ xs, FewR x) :
    Calls Tryz.prog 11 #[.slice a xs.length c] w fun e w' => ∃ a' c' zs, e = .returned (.slice a' (List.length zs) c') ∧ Mem w.heap.size w' a' c' zs ∧ zs.map Rv.r = xs.map Rv.r ∧ Below w.heap.size w w' := by
  have mixed : Tryz.prog.follows .mixedOrders = true := by kernel_rfl
  have iT : (Tryz.prog.info? 44).map (fun i => (i.zero, i.size, i.bytes)) = some (some (.agg #[.string .empty, .bool false, .int .i64 0, .string .empty]), tK.k, 48) := by kernel_rfl
  have iL : (Tryz.prog.info? 52).map (fun i => (i.zero, i.size, i.bytes)) = some (some (.agg #[.string .empty, .bool false, .int .i64 0, .string .empty, .string .empty, .slice none 0 0, .string .empty, .bool false, .int .i64 0, .string .empty]), lK.k, 136) := by kernel_rfl
  have iR : (Tryz.prog.info? 48).map (fun i => (i.zero, i.size, i.bytes)) = some (some (.agg #[.string .empty, .bool false, .int .i64 0, .string .empty, .string .empty, .slice none 0 0, .string .empty, .bool false, .int .i64 0, .string .empty, .slice none 0 0]), rK.k, 160) := by kernel_rfl
  have iN : (Tryz.prog.info? 48).map (·.size) = some 11 := by kernel_rfl
  go_enter Tryz.func11, Tryz.ntmps11
  go_wp2_with fail
  go_loopw [3, 4, 5, 6] (fun v3 v4 _ _ wr => ∃ (k : Nat) (Z : List Rv), v4 = .int .i64 (k : Int) ∧ k ≤ xs.length ∧ Hid (Z.length = k) ∧ wr.ownsRow w.heap.size 48 rK.k v3 Z.length (Z.flatMap rK.enc) ∧ (∀ z ∈ Z, Rv.At wr z) ∧ Hid (Z.map Rv.r = (xs.take k).map Rv.r) ∧ Below w.heap.size w wr ∧ Ris w.heap.size (Z.flatMap blks) wr.heap.size) (fun _ v4 _ _ _ => xs.length - (RowKit.intOf v4).toNat)
  case atStart => exact ⟨0, [], rfl, by omega, rfl, ⟨rfl, .inl ⟨rfl, rfl⟩⟩, fun _ h => by simp at h, rfl, Below.refl _ _, Ris.nil (Nat.le_refl _)⟩
  case round =>
    obtain ⟨k, Z, rfl, hk, hZ, hown, hat, hf, hb, hris⟩ := hrel
    by_cases hlt : k < xs.length
    · have q2 : (k : Int) < (xs.length : Int) := by omega
      obtain ⟨P1, O1, rfl⟩ := hx.addr (Nat.lt_of_le_of_lt (Nat.zero_le _) hlt)
      have r1 : wr.rangeAt P1 (O1 + k * 11) (rv (xs[k]'hlt)) := (hx.below hb (Nat.le_refl _)).range k hlt
      have aP := (ax _ (List.getElem_mem hlt)).below hb (Nat.le_refl _)
      have fP := fx _ (List.getElem_mem hlt)
      have hst : Hid ((xs.take (k + 1)).map Rv.r = (xs.take k).map Rv.r ++ [(xs[k]'hlt).r]) := by
        show _ = _
        rw [List.take_succ_eq_append_getElem hlt, List.map_append]; rfl
      generalize (xs[k]'hlt) = P at *
      obtain ⟨⟨v1, ⟨a1, b1, c1⟩⟩, p, ad, cap, ts, ⟨v2, ⟨a2, b2, c2⟩⟩, ba, bc, ls⟩ := P
      obtain ⟨hx1, hx2, hx3⟩ := aP
      obtain ⟨n1, n2, n3⟩ := fP
      simp only at hx1 hx2 hx3 n1 n2 n3
      have iP : (Tryz.prog.info? 48).map (·.size) = some (rv ⟨⟨v1, ⟨a1, b1, c1⟩⟩, p, ad, cap, ts, ⟨v2, ⟨a2, b2, c2⟩⟩, ba, bc, ls⟩).length := iN
      have hF : ∀ (X Y : World) (o : Obj), But X.heap.size (X.alloc o) Y → Below X.heap.size X Y := fun X Y o d => (below_alloc X o).trans (d.lower (Nat.le_refl _) (by simp))
      go_upto_region 6 with (first
        | (refine wpList_load_mid rfl 48 _ rfl P1 (O1 + k * 11) rfl (rv ⟨⟨v1, ⟨a1, b1, c1⟩⟩, p, ad, cap, ts, ⟨v2, ⟨a2, b2, c2⟩⟩, ba, bc, ls⟩) _ r1 Tryz.underlying48 rfl iP ?_)
        | (refine wpList_store_all rfl 48 _ _ rfl wr.heap.size 11 _ 48 (rv ⟨⟨v1, ⟨a1, b1, c1⟩⟩, p, ad, cap, ts, ⟨v2, ⟨a2, b2, c2⟩⟩, ba, bc, ls⟩) rfl rfl (heap_alloc_new wr _) rfl rfl iN rfl ?_; intro w2 H2 d2; have B2 := hF wr w2 _ d2))
      have H2 : w2.heap[wr.heap.size]? = some (.cells #[str v1, .bool a1, .int .i64 b1, str c1, str p, .slice ad ts.length cap, str v2, .bool a2, .int .i64 b2, str c2, .slice ba ls.length bc] 48) := H2
      generalize hNN : wr.heap.size = N at *
      have hN := hideP hNN; clear hNN
      have l2 := heap_lt H2
      clear d2 r1
      have A2 := below_alloc w2 (.cells #[] 44)
      have O2 := owns_empty tK 44 w2
      have R2 := (hx1.below B2 (by rw [hN.out]; exact Nat.le_refl _)).below A2 (Nat.le_refl _)
      have J2 := below_heap A2 H2
      have d5 : (w2.alloc (.cells #[] 44)).cell? ⟨N, 5, none⟩ = some (.slice ad ts.length cap) := by rw [heap_cell J2]; rfl
      go_upto_region 7 with (first
        | (at_builtin; refine wpList_append_rec tK _ rfl _ _ 45 44 rfl _ 48 Tryz.underlying45 iT rfl (by decide) w2.heap.size (.slice (some ⟨w2.heap.size, 0, none⟩) 0 0) [] ts ad ts.length cap rfl O2 rfl rfl R2 A2.size (by simp only [List.length_nil]; omega) ?_; intro v3 w3 o3 g3; have b3 := own_below O2 g3 A2.size; have H3 := (b3.block N (by omega)).trans J2; obtain ⟨a3, c3, e3, R3, F3⟩ := own_row (D := tK) (xs := ts) o3 (by omega); subst e3)
        | (refine wpList_store_cel rfl 45 _ _ rfl N 5 11 48 (.slice a3 ts.length c3) #[str v1, .bool a1, .int .i64 b1, str c1, str p, .slice a3 ts.length c3, str v2, .bool a2, .int .i64 b2, str c2, .slice ba ls.length bc] rfl rfl H3 rfl (by decide) (by kernel_rfl) rfl rfl ?_; intro w4 H4 d4))
      have B4 : Below N wr w4 := ((B2.trans (A2.mono (by omega))).trans (b3.mono (by omega))).trans (d4.lower (Nat.le_refl _) (by have := heap_lt H3; omega))
      have R4 := R3.safe (Safe.but d4 H3 (by decide))
      have l4 := heap_lt H4
      have ris4 : Ris w.heap.size (Z.flatMap blks ++ bks a3) w4.heap.size := (hris.mono (show N ≤ w2.heap.size by omega)).one (fun ad ha => ⟨F3 ad ha, by obtain ⟨cur, hc⟩ := R4.tag ad ha; exact heap_lt hc⟩) (by have := A2.size; have := b3.size; have := d4.size; omega)
      clear hris
      clear R3 o3 g3 b3 H3 F3 d4 J2 R2 O2 A2 H2 B2 d5 l2
      have A4 := below_alloc w4 (.cells #[] 52)
      have O4 := owns_empty lK 52 w4
      have L4 := (hx2.below B4 (by rw [hN.out]; exact Nat.le_refl _)).below A4 (Nat.le_refl _)
      have J4 := below_heap A4 H4
      have d10 : (w4.alloc (.cells #[] 52)).cell? ⟨N, 10, none⟩ = some (.slice ba ls.length bc) := by rw [heap_cell J4]; rfl
      go_upto_region 8 with (first
        | (at_builtin; refine wpList_append_rec lK _ rfl _ _ 46 52 rfl _ 136 Tryz.underlying46 iL rfl (by decide) w4.heap.size (.slice (some ⟨w4.heap.size, 0, none⟩) 0 0) [] ls ba ls.length bc rfl O4 rfl rfl L4 A4.size (by simp only [List.length_nil]; omega) ?_; intro v5 w5 o5 g5; have b5 := own_below O4 g5 A4.size; have H5 := (b5.block N (by omega)).trans J4; obtain ⟨a5, c5, e5, R5, F5⟩ := own_row (D := lK) (xs := ls) o5 (by omega); subst e5)
        | (refine wpList_store_cel rfl 46 _ _ rfl N 10 11 48 (.slice a5 ls.length c5) #[str v1, .bool a1, .int .i64 b1, str c1, str p, .slice a3 ts.length c3, str v2, .bool a2, .int .i64 b2, str c2, .slice a5 ls.length c5] rfl rfl H5 rfl (by decide) (by kernel_rfl) rfl rfl ?_; intro w6 H6 d6))
      have B6 : Below N wr w6 := ((B4.trans (A4.mono (by omega))).trans (b5.mono (by omega))).trans (d6.lower (Nat.le_refl _) (by have := heap_lt H5; omega))
      have R6 := ((R4.safe (Safe.below A4)).safe (Safe.grown O4 g5 (by decide))).safe (Safe.but d6 H5 (by decide))
      have o6 := ownsRow_keep o5 (Safe.but d6 H5 (by decide))
      have l6 := heap_lt H6
      have ris6 : Ris w.heap.size (Z.flatMap blks ++ bks a3 ++ bks a5) w6.heap.size := ris4.one (fun ad ha => ⟨F5 ad ha, by obtain ⟨cur, hc⟩ := R5.tag ad ha; exact Nat.lt_of_lt_of_le (heap_lt hc) d6.size⟩) (by have := A4.size; have := b5.size; have := d6.size; omega)
      have ris6' : Ris w.heap.size (Z.flatMap blks ++ (bks a3 ++ (bks a5 ++ ([] : List Lv).flatMap (fun l : Lv => bks l.a)))) w6.heap.size := by simpa using ris6
      clear ris4 ris6
      have z4 : N ≤ w4.heap.size := by omega
      have B6' : Below N wr w6 := B6
      clear R4 o5 g5 b5 H5 d6 J4 L4 O4 A4 H4 B4 d10 l4 R5 F5 B6
      obtain ⟨wo, hwo⟩ : ∃ W, W = wr := ⟨_, rfl⟩
      subst hwo
      generalize hBL : w4.heap.size = BL at *
      go_wp2_with fail
      go_loopw [6] (fun v6 wi => ∃ (j : Nat) (Q : List Lv), v6 = .int .i64 (j : Int) ∧ j ≤ ls.length ∧ Hid (Q.length = j) ∧ wi.heap[N]? = some (.cells #[str v1, .bool a1, .int .i64 b1, str c1, str p, .slice a3 ts.length c3, str v2, .bool a2, .int .i64 b2, str c2, .slice a5 ls.length c5] 48) ∧ wi.ownsRow BL 52 lK.k (.slice a5 ls.length c5) ls.length ((Q ++ ls.drop j).flatMap lK.enc) ∧ (∀ q ∈ Q, Lv.At wi q) ∧ Hid (Q.map Lv.l = (ls.take j).map Lv.l) ∧ RowT tK 44 wi a3 c3 ts ∧ Below N wo wi ∧ Ris w.heap.size (Z.flatMap blks ++ (bks a3 ++ (bks a5 ++ Q.flatMap (fun l : Lv => bks l.a)))) wi.heap.size) (fun v6 _ => ls.length - (RowKit.intOf v6).toNat)
      case atStart => exact ⟨0, [], rfl, by omega, rfl, H6, by simpa using o6, fun _ h => by simp at h, rfl, R6, B6', ris6'⟩
      case round =>
        obtain ⟨j, Q, rfl, hj, hQ, HB, ho, hq, hql, R7, BI, hrisI⟩ := hrel
        have e10 : wr.cell? ⟨N, 10, none⟩ = some (.slice a5 ls.length c5) := by rw [heap_cell HB]; rfl
        by_cases hjl : j < ls.length
        · have q3 : (j : Int) < (ls.length : Int) := by omega
          have hm := List.getElem_mem hjl
          have hdr : Hid (ls.drop j = (ls[j]'hjl) :: ls.drop (j + 1)) := List.drop_eq_getElem_cons hjl
          have htk : Hid ((ls.take (j + 1)).map Lv.l = (ls.take j).map Lv.l ++ [(ls[j]'hjl).l]) := by
            show _ = _
            rw [List.take_succ_eq_append_getElem hjl, List.map_append]; rfl
          have hRm := (hx3 _ hm).below (show Below wo.heap.size wo wr by rw [hN.out]; exact BI) (Nat.le_refl _)
          have nm := n3 _ hm
          rw [hdr.out] at ho
          generalize (ls[j]'hjl) = m at *
          generalize hRR : ls.drop (j + 1) = RR at *
          have HRR := hideP hRR; clear hRR
          obtain ⟨g, cap', cur, hv5, hbg, hh⟩ : ∃ g cap' cur, Value.slice a5 ls.length c5 = .slice (some ⟨g, 0, none⟩) ls.length cap' ∧ BL ≤ g ∧ wr.heap[g]? = some (.cells cur 52) := by
            rcases ho.2 with ⟨h0, _⟩ | ⟨g', cap', cur', hv, hbg, hh', _⟩
            · have : ls.length = 0 := by injection h0
              omega
            · exact ⟨g', cap', cur', hv, hbg, hh'⟩
          cases hv5
          have hrow := own_row (D := lK) (xs := Q ++ m :: RR) ho (by
            have h1 := ho.1
            rw [flat_len lK.enc lK.k lK.len] at h1
            have := Nat.eq_of_mul_eq_mul_right lK.pos h1
            omega)
          obtain ⟨a6, c6, e6, R8, _⟩ := hrow
          have hQj : Q.length = j := hQ.out
          have k1c : wr.cell? ⟨g, j * 10 + 5, none⟩ = some (.slice m.a m.args.length m.cap) := by
            have e7 : a6 = some ⟨g, 0, none⟩ := by injection e6 with e8; exact e8.symm
            subst e7
            have := R8.row.range j (by rw [List.length_append, List.length_cons]; omega) 5 (.slice m.a m.args.length m.cap) (by
              have : (Q ++ m :: RR)[j]'(by rw [List.length_append, List.length_cons]; omega) = m := by
                rw [List.getElem_append_right (by omega)]; simp [hQj]
              rw [this]; rfl)
            rw [Nat.zero_add] at this
            exact this
          have hgN : g ≠ N := fun e => by rw [e, HB] at hh; cases hh
          clear e6 R8 hm
          have gl := heap_lt hh
          have kk : ∀ X, Below wr.heap.size wr X → X.cell? ⟨N, 10, none⟩ = some (.slice (some ⟨g, 0, none⟩) ls.length c5) := fun X h => by rw [heap_cell (below_heap h HB)]; rfl
          have kc : ∀ X, Below wr.heap.size wr X → X.cell? ⟨g, j * 10 + 5, none⟩ = some (.slice m.a m.args.length m.cap) := fun X h => by rw [h.cell gl]; exact k1c
          have b0 : Below wr.heap.size wr (wr.alloc (.cells #[] 44)) := below_alloc wr (.cells #[] 44)
          have bA : Below wr.heap.size wr (wr.alloc (.cells #[] 44)).drew := b0.drew
          have k2c := kc _ b0
          have OA : (wr.alloc (.cells #[] 44)).drew.ownsRow wr.heap.size 44 tK.k (.slice (some ⟨wr.heap.size, 0, none⟩) 0 0) ([] : List Tm).length (([] : List Tm).flatMap tK.enc) := ownsRow_keep (owns_empty tK 44 wr) (Safe.below (Below.refl _ _).drew)
          have RA := Row.below hRm bA (Nat.le_refl _)
          have zA := bA.size
          go_wp2_with fail
          have e10A := kk _ b0
          have zN : N ≤ wr.heap.size := Nat.le_of_lt (heap_lt HB)
          have hend : ∀ (X : World) (A : Option Addr) (C : Nat), Below wr.heap.size wr X → RowT tK 44 X A C m.args →
              (X.setCell ⟨g, j * 10 + 5, none⟩ (.slice A m.args.length C)).heap[N]? = some (.cells #[str v1, .bool a1, .int .i64 b1, str c1, str p, .slice a3 ts.length c3, str v2, .bool a2, .int .i64 b2, str c2, .slice (some ⟨g, 0, none⟩) ls.length c5] 48) ∧ (X.setCell ⟨g, j * 10 + 5, none⟩ (.slice A m.args.length C)).ownsRow BL 52 lK.k (.slice (some ⟨g, 0, none⟩) ls.length c5) ls.length ((Q ++ [{ m with a := A, cap := C }] ++ RR).flatMap lK.enc) ∧ (∀ q ∈ Q ++ [{ m with a := A, cap := C }], Lv.At (X.setCell ⟨g, j * 10 + 5, none⟩ (.slice A m.args.length C)) q) ∧ RowT tK 44 (X.setCell ⟨g, j * 10 + 5, none⟩ (.slice A m.args.length C)) a3 c3 ts ∧ Below N wo (X.setCell ⟨g, j * 10 + 5, none⟩ (.slice A m.args.length C)) := by
            intro X A C bX TX
            have d8 : But g X (X.setCell ⟨g, j * 10 + 5, none⟩ (.slice A m.args.length C)) := But.cells [.slice A m.args.length C] (j * 10 + 5) _ (But.refl g X)
            have hhX := below_heap bX hh
            have sf : Safe 44 X (X.setCell ⟨g, j * 10 + 5, none⟩ (.slice A m.args.length C)) := Safe.but d8 hhX (by decide)
            refine ⟨d8.heap (Ne.symm hgN) (below_heap bX HB), ?_, fun q hq' => ?_, (R7.safe (Safe.below bX)).safe sf, (BI.trans (bX.mono zN)).trans (d8.lower (by omega) (Nat.le_trans zN bX.size))⟩
            · have hoX := ownsRow_keep ho (Safe.below bX)
              have := owns_set (i := j * 10 + 5) (u := .slice A m.args.length C) (ys := (Q ++ { m with a := A, cap := C } :: RR).flatMap lK.enc) hoX hhX (by rw [← hQj]; exact flat_set Q RR m A C)
              rw [List.append_assoc]; exact this
            · rcases List.mem_append.1 hq' with h | h
              · exact Lv.At.safe (Lv.At.safe (hq q h) (Safe.below bX)) sf
              · rw [List.mem_singleton] at h; subst h; exact RowT.safe TX sf
          clear mixed
          have mixed : Tryz.prog.follows .mixedOrders = true := by kernel_rfl
          go_region_law (refine step_rec tK (by rfl) _ _ 45 44 rfl _ 48 Tryz.underlying45 iT rfl (by decide) wr.heap.size (.slice (some ⟨wr.heap.size, 0, none⟩) 0 0) [] m.args m.a m.args.length m.cap rfl OA rfl rfl RA zA (by simp only [List.length_nil]; omega) ?_; intro v7 w7 o7 g7; have b7 : Below wr.heap.size wr w7 := bA.trans (own_below OA g7 zA); have c7 := kc _ b7; have e10B := kk _ b7; have z7 : w7.frozen? ⟨g, j * 10 + 5, none⟩ = false := heap_frozen (below_heap b7 hh) _; obtain ⟨a7, c7', e7, T7, F7⟩ := own_row (D := tK) (xs := m.args) o7 (by omega); subst e7)
          all_goals
            obtain ⟨t1, t2, t3, t4, t5⟩ := hend w7 a7 c7' b7 T7
            have t6 : Ris w.heap.size (Z.flatMap blks ++ (bks a3 ++ (bks (some ⟨g, 0, none⟩) ++ (Q ++ [{ m with a := a7, cap := c7' }]).flatMap (fun l : Lv => bks l.a)))) (w7.setCell ⟨g, j * 10 + 5, none⟩ (.slice a7 m.args.length c7')).heap.size := by
              have := hrisI.one (a := a7) (S' := w7.heap.size) (fun ad ha => ⟨F7 ad ha, by obtain ⟨cur, hc⟩ := T7.tag ad ha; exact heap_lt hc⟩) b7.size
              have hsz : (w7.setCell ⟨g, j * 10 + 5, none⟩ (.slice a7 m.args.length c7')).heap.size = w7.heap.size := by simp [World.setCell]
              rw [hsz, List.flatMap_append]
              simpa [List.append_assoc] using this
            go_wp2_with fail
            refine ⟨⟨j + 1, Q ++ [{ m with a := a7, cap := c7' }], by simp, by omega, ?_, t1, by rw [HRR.out]; exact t2, t3, ?_, t4, t5, t6⟩, by simp [RowKit.intOf]; omega⟩
            · show _ = _; rw [List.length_append, hQ.out]; rfl
            · show _ = _; rw [List.map_append, hql.out, htk.out]; rfl
        · have q3 : ¬ (j : Int) < (ls.length : Int) := by omega
          obtain rfl : j = ls.length := by omega
          have hQl := hQ.out
          rw [List.drop_length, List.append_nil, ← hQl] at ho
          obtain ⟨a5', c5', e5, R8, _⟩ := own_row (D := lK) (xs := Q) ho (by omega)
          cases e5
          have hz : Hid (Rv.r ⟨⟨v1, ⟨a1, b1, c1⟩⟩, p, a3, c3, ts, ⟨v2, ⟨a2, b2, c2⟩⟩, a5, c5, Q⟩ = Rv.r ⟨⟨v1, ⟨a1, b1, c1⟩⟩, p, ad, cap, ts, ⟨v2, ⟨a2, b2, c2⟩⟩, ba, bc, ls⟩) := by
            show _ = _
            unfold Rv.r
            simp only
            rw [hql.out, List.take_length]
          have hzA : Rv.At wr ⟨⟨v1, ⟨a1, b1, c1⟩⟩, p, a3, c3, ts, ⟨v2, ⟨a2, b2, c2⟩⟩, a5, c5, Q⟩ := ⟨R7, R8, hq⟩
          have HB' : wr.heap[N]? = some (.cells (rv ⟨⟨v1, ⟨a1, b1, c1⟩⟩, p, a3, c3, ts, ⟨v2, ⟨a2, b2, c2⟩⟩, a5, c5, Q⟩).toArray 48) := by rw [HB, ← hQl]; rfl
          have hBo : Below wo.heap.size wo wr := by rw [hN.out]; exact BI
          have hown8 := ownsRow_keep hown (Safe.below (ty := 48) hBo)
          have hat8 := fun z hz => (hat z hz).safe (Safe.below hBo) (Safe.below hBo)
          have nK : (rv ⟨⟨v1, ⟨a1, b1, c1⟩⟩, p, a3, c3, ts, ⟨v2, ⟨a2, b2, c2⟩⟩, a5, c5, Q⟩).length = 11 := rfl
          have B8 : Below w.heap.size w wr := hb.trans (hBo.mono hb.size)
          generalize hzz : (⟨⟨v1, ⟨a1, b1, c1⟩⟩, p, a3, c3, ts, ⟨v2, ⟨a2, b2, c2⟩⟩, a5, c5, Q⟩ : Rv) = z at *
          have risz : Ris w.heap.size ((Z ++ [z]).flatMap blks) wr.heap.size := by
            rw [List.flatMap_append, ← hzz]
            simpa [blks] using hrisI
          have A8 := below_alloc wr (.cells (rv z).toArray 48)
          have hown9 := ownsRow_keep hown8 (Safe.below (ty := 48) A8)
          have B9 : Below w.heap.size w _ := B8.trans (A8.mono B8.size)
          go_wp2_with (first
            | (refine wpList_load_all rfl 48 _ rfl N 11 48 (rv z) _ rfl HB' nK Tryz.underlying48 rfl iN ?_)
            | (refine wpList_build_one rfl 22 48 _ rfl (rv z) _ 11 160 rfl nK (by decide) (by decide) Tryz.underlying22 iR ?_)
            | (at_builtin; refine wpList_append_rec rK _ rfl _ _ 22 48 rfl _ 160 Tryz.underlying22 iR rfl (by decide) w.heap.size u3 Z [z] (some ⟨wr.heap.size, 0, none⟩) 1 1 rfl hown9 rfl rfl (row_new rK wr _ 48 z rfl) B9.size (by have := hZ.out; simp only [List.length_cons, List.length_nil]; omega) ?_; intro v10 w10 o10 g10))
          have b10 := own_below hown9 g10 B9.size
          refine ⟨⟨k + 1, Z ++ [z], by simp, by omega, ?_, o10, fun y hy => ?_, ?_, B9.trans b10, risz.mono (Nat.le_trans A8.size b10.size)⟩, by simp [RowKit.intOf]; omega⟩
          · show _ = _; rw [List.length_append, hZ.out]; rfl
          · have hy' : Rv.At wr y := by
              rcases List.mem_append.1 hy with h | h
              · exact hat8 y h
              · rw [List.mem_singleton] at h; rw [h]; exact hzA
            have h9 := hy'.safe (Safe.below A8) (Safe.below A8)
            exact h9.safe (Safe.grown hown9 g10 (by decide)) (Safe.grown hown9 g10 (by decide))
          · show _ = _; rw [List.map_append, hf.out, hst.out]; simp [hz.out]
    · have q2 : ¬ (k : Int) < (xs.length : Int) := by omega
      obtain ⟨a', c', rfl, hO, hlo⟩ := own_row (D := rK) (xs := Z) hown (by have := hZ.out; omega)
      have Hf : Hid (Z.map Rv.r = xs.map Rv.r) := by
        show _ = _
        rw [hf.out, List.take_of_length_le (by omega)]
      go_wp2_with fail
      go_ret
      exact ⟨a', c', Z, rfl, Mem.of_ris hO hat hris hlo, Hf.out, hb⟩
end Go.Proofs.YtpdmmmdkpipmkaaGreatDoor
