/-
  The reference's Copy of rules.
-/
import Derived.Deep.RegionLaw
import Derived.SizedLaws
import Derived.Test.YtpdmmmdkpipmkaaGreatDoorQPe
import Derived.Test.YtpdmmmdkpipmkaaGreatDoorQLs9
import Derived.Test.YtpdmmmdkpipmkaaGreatDoorQBt
namespace Go.Proofs.YtpdmmmdkpipmkaaGreatDoor
open Go.RowKit Go.Sort

theorem owns_empty {α : Type} (D : Kd α) (e : TypeId) (w : World) : (w.alloc (.cells #[] e)).ownsRow w.heap.size e D.k (.slice (some ⟨w.heap.size, 0, none⟩) 0 0) ([] : List α).length (([] : List α).flatMap D.enc) :=
  ⟨by simp, .inr ⟨w.heap.size, 0, #[], rfl, Nat.le_refl _, heap_alloc_new w _, Nat.le_refl _, Nat.zero_le _, by simp, by simp⟩⟩
theorem step_rec {α : Type} (D : Kd α) {w : World} {ops : Array Oper} {o : Oper} {a : Act} {K : Act → World → Prop} {Q : Exit → Act → World → Prop} {E : Prop} (hgw : Region.wanted o (yielded ops a.tmps) = true) (s x : Operand) (t e : TypeId)
    (ho : o.op = .call { callee := .builtin .append, args := #[s, x], argTypes := #[t, t] }) (z : Value) (bytes : Nat) (ht : Tryz.prog.underlying t = some (.slice e)) (hinfo : (Tryz.prog.info? e).map (fun i => (i.zero, i.size, i.bytes)) = some (some z, D.k, bytes)) (hzs : z.cells.size = D.k) (hby : bytes ≤ 160)
    (base : Nat) (v : Value) (ys xs : List α) (ao : Option Addr) (m c : Nat) (hs : a.eval s = v) (hown : w.ownsRow base e D.k v ys.length (ys.flatMap D.enc)) (hx : a.eval x = .slice ao m c) (hm : xs.length = m) (hl : Row D w ao c xs) (hbase : base ≤ w.heap.size)
    (hfew : ys.length + xs.length ≤ 879609302220)
    (h : ∀ v' w', w'.ownsRow base e D.k v' (ys ++ xs).length ((ys ++ xs).flatMap D.enc) → w.grownBy w' v.ownBlock → K (a.put o.dst v') w') : if Region.wanted o (yielded ops a.tmps) = true then Oper.wp Tryz.prog o a w K Q else E := by
  rw [if_pos hgw]
  obtain ⟨i0, hi, hz0, hz1, hz2⟩ := info_parts hinfo
  subst hm
  cases ao with
  | none =>
    obtain ⟨rfl, rfl⟩ := hl.void rfl
    have hrun := run_append_owned_none (P := Tryz.prog) (w := w) base t o.type e i0 D.k ht hi v ys.length _ hown
    have hK := h v w (by simpa using hown) ⟨rfl, rfl, rfl, Nat.le_refl _, fun _ _ _ => rfl⟩
    unfold Oper.wp
    simp [execOp, ho, resolve, invoke, builtin, hs, hx, hrun, Result.andThen]
    exact hK
  | some ad =>
    refine wp_append_own w s x t ho base e i0 z D.k bytes ht hi hz0 hz1 hz2 hzs D.pos _ ys.length _ hs hown ad xs.length c (xs.flatMap D.enc) hx (flat_len D.enc D.k D.len xs) (hl.cells ad rfl) (Row.flat_one D xs) (by unfold maxLen; omega) ?_ hbase ?_
    · refine Nat.le_trans (Nat.mul_le_mul hfew hby) (by decide)
    intro v' w' ho' hg' hn'
    exact h v' w' (by rw [List.length_append, List.flatMap_append]; exact ho') hg'

theorem flat_set (Q R : List Lv) (m : Lv) (a : Option Addr) (c : Nat) : ((Q ++ m :: R).flatMap lK.enc).set (Q.length * 10 + 5) (.slice a m.args.length c) = (Q ++ { m with a := a, cap := c } :: R).flatMap lK.enc := by
  have hq : (Q.flatMap lK.enc).length = Q.length * 10 := flat_len lK.enc lK.k lK.len Q
  rw [List.flatMap_append, List.flatMap_append, List.set_append_right _ _ (by omega), hq, show Q.length * 10 + 5 - Q.length * 10 = 5 by omega]
  rw [List.flatMap_cons, List.flatMap_cons]
  rfl
theorem owns_set {w : World} {base g cap n : Nat} {e : TypeId} {k : Nat} {xs ys : List Value} {cur : Array Value} {i : Nat} {u : Value} (h : w.ownsRow base e k (.slice (some ⟨g, 0, none⟩) n cap) n xs) (hh : w.heap[g]? = some (.cells cur e)) (hys : xs.set i u = ys) :
    (w.setCell ⟨g, i, none⟩ u).ownsRow base e k (.slice (some ⟨g, 0, none⟩) n cap) n ys := by
  obtain ⟨h1, h2⟩ := h
  rcases h2 with ⟨h0, _⟩ | ⟨g', cap', cur', hv, hbg, hh', hnc, hcm, hcs, ht⟩
  · cases h0
  · cases hv
    rw [hh] at hh'; cases hh'
    refine ⟨by rw [← hys, List.length_set]; exact h1, .inr ⟨g, cap, cur.setIfInBounds i u, rfl, hbg, heap_setCell_same w g i cur e u hh, hnc, hcm, by rw [Array.size_setIfInBounds]; exact hcs, ?_⟩⟩
    rw [Array.toList_setIfInBounds, List.take_set, ht, hys]

set_option maxRecDepth 100000 in
set_option maxHeartbeats 8000000 in
theorem rcopy_at (a : Option Addr) (c : Nat) (xs : List Rv) (w : World) (hx : Row rK w a c xs) (ax : ∀ x ∈ xs, Rv.Aw w x) (hn : xs.length ≤ 300) (fx : ∀ x ∈ xs, FewR x) :
    Calls Tryz.prog 11 #[.slice a xs.length c] w fun e w' => ∃ a' c' zs, e = .returned (.slice a' (List.length zs) c') ∧ Row rK w' a' c' zs ∧ (∀ z ∈ zs, Rv.Aw w' z) ∧ zs.map Rv.r = xs.map Rv.r ∧ Below w.heap.size w w' := by
  have mixed : Tryz.prog.follows .mixedOrders = true := by kernel_rfl
  have iT : (Tryz.prog.info? 44).map (fun i => (i.zero, i.size, i.bytes)) = some (some (.agg #[.string .empty, .bool false, .int .i64 0, .string .empty]), tK.k, 48) := by kernel_rfl
  have iL : (Tryz.prog.info? 52).map (fun i => (i.zero, i.size, i.bytes)) = some (some (.agg #[.string .empty, .bool false, .int .i64 0, .string .empty, .string .empty, .slice none 0 0, .string .empty, .bool false, .int .i64 0, .string .empty]), lK.k, 136) := by kernel_rfl
  have iR : (Tryz.prog.info? 48).map (fun i => (i.zero, i.size, i.bytes)) = some (some (.agg #[.string .empty, .bool false, .int .i64 0, .string .empty, .string .empty, .slice none 0 0, .string .empty, .bool false, .int .i64 0, .string .empty, .slice none 0 0]), rK.k, 160) := by kernel_rfl
  have iN : (Tryz.prog.info? 48).map (·.size) = some 11 := by kernel_rfl
  go_enter Tryz.func11, Tryz.ntmps11
  go_wp2_with fail
  go_loopw [3, 4, 5, 6] (fun v3 v4 _ _ wr => ∃ (k : Nat) (Z : List Rv), v4 = .int .i64 (k : Int) ∧ k ≤ xs.length ∧ Hid (Z.length = k) ∧ wr.ownsRow w.heap.size 48 rK.k v3 Z.length (Z.flatMap rK.enc) ∧ (∀ z ∈ Z, Rv.At wr z) ∧ Hid (Z.map Rv.r = (xs.take k).map Rv.r) ∧ Below w.heap.size w wr) (fun _ v4 _ _ _ => xs.length - (RowKit.intOf v4).toNat)
  case atStart => exact ⟨0, [], rfl, by omega, rfl, ⟨rfl, .inl ⟨rfl, rfl⟩⟩, fun _ h => by simp at h, rfl, Below.refl _ _⟩
  case round =>
    obtain ⟨k, Z, rfl, hk, hZ, hown, hat, hf, hb⟩ := hrel
    by_cases hlt : k < xs.length
    · have q2 : (k : Int) < (xs.length : Int) := by omega
      obtain ⟨P1, O1, rfl⟩ := hx.addr (Nat.lt_of_le_of_lt (Nat.zero_le _) hlt)
      have r1 : wr.rangeAt P1 (O1 + k * 11) (rv (xs[k]'hlt)) := (hx.below hb (Nat.le_refl _)).range k hlt
      have aP := (ax _ (List.getElem_mem hlt)).below hb (Nat.le_refl _)
      have fP := fx _ (List.getElem_mem hlt)
      have hst : Hid ((xs.take (k + 1)).map Rv.r = (xs.take k).map Rv.r ++ [(xs[k]'hlt).r]) := by
        show _ = _
        rw [List.take_succ_eq_append_getElem hlt, List.map_append]; rfl
      generalize (xs[k]'hlt) = P at *
      obtain ⟨⟨v1, ⟨a1, b1, c1⟩⟩, p, ad, cap, ts, ⟨v2, ⟨a2, b2, c2⟩⟩, ba, bc, ls⟩ := P
      obtain ⟨hx1, hx2, hx3⟩ := aP
      obtain ⟨n1, n2, n3⟩ := fP
      simp only at hx1 hx2 hx3 n1 n2 n3
      have iP : (Tryz.prog.info? 48).map (·.size) = some (rv ⟨⟨v1, ⟨a1, b1, c1⟩⟩, p, ad, cap, ts, ⟨v2, ⟨a2, b2, c2⟩⟩, ba, bc, ls⟩).length := iN
      have hF : ∀ (X Y : World) (o : Obj), But X.heap.size (X.alloc o) Y → Below X.heap.size X Y := fun X Y o d => (below_alloc X o).trans (d.lower (Nat.le_refl _) (by simp))
      go_upto_region 6 with (first
        | (refine wpList_load_mid rfl 48 _ rfl P1 (O1 + k * 11) rfl (rv ⟨⟨v1, ⟨a1, b1, c1⟩⟩, p, ad, cap, ts, ⟨v2, ⟨a2, b2, c2⟩⟩, ba, bc, ls⟩) _ r1 Tryz.underlying48 rfl iP ?_)
        | (refine wpList_store_all rfl 48 _ _ rfl wr.heap.size 11 _ 48 (rv ⟨⟨v1, ⟨a1, b1, c1⟩⟩, p, ad, cap, ts, ⟨v2, ⟨a2, b2, c2⟩⟩, ba, bc, ls⟩) rfl rfl (heap_alloc_new wr _) rfl rfl iN rfl ?_; intro w2 H2 d2; have B2 := hF wr w2 _ d2))
      have H2 : w2.heap[wr.heap.size]? = some (.cells #[str v1, .bool a1, .int .i64 b1, str c1, str p, .slice ad ts.length cap, str v2, .bool a2, .int .i64 b2, str c2, .slice ba ls.length bc] 48) := H2
      generalize hNN : wr.heap.size = N at *
      have hN := hideP hNN; clear hNN
      have l2 := heap_lt H2
      clear d2 r1
      have A2 := below_alloc w2 (.cells #[] 44)
      have O2 := owns_empty tK 44 w2
      have R2 := (hx1.below B2 (by rw [hN.out]; exact Nat.le_refl _)).below A2 (Nat.le_refl _)
      have J2 := below_heap A2 H2
      have d5 : (w2.alloc (.cells #[] 44)).cell? ⟨N, 5, none⟩ = some (.slice ad ts.length cap) := by rw [heap_cell J2]; rfl
      go_upto_region 7 with (first
        | (at_builtin; refine wpList_append_rec tK _ rfl _ _ 45 44 rfl _ 48 Tryz.underlying45 iT rfl (by decide) w2.heap.size (.slice (some ⟨w2.heap.size, 0, none⟩) 0 0) [] ts ad ts.length cap rfl O2 rfl rfl R2 A2.size (by simp only [List.length_nil]; omega) ?_; intro v3 w3 o3 g3; have b3 := own_below O2 g3 A2.size; have H3 := (b3.block N (by omega)).trans J2; obtain ⟨a3, c3, e3, R3, F3⟩ := own_row (D := tK) (xs := ts) o3 (by omega); subst e3)
        | (refine wpList_store_cel rfl 45 _ _ rfl N 5 11 48 (.slice a3 ts.length c3) #[str v1, .bool a1, .int .i64 b1, str c1, str p, .slice a3 ts.length c3, str v2, .bool a2, .int .i64 b2, str c2, .slice ba ls.length bc] rfl rfl H3 rfl (by decide) (by kernel_rfl) rfl rfl ?_; intro w4 H4 d4))
      have B4 : Below N wr w4 := ((B2.trans (A2.mono (by omega))).trans (b3.mono (by omega))).trans (d4.lower (Nat.le_refl _) (by have := heap_lt H3; omega))
      have R4 := R3.safe (Safe.but d4 H3 (by decide))
      have l4 := heap_lt H4
      clear R3 o3 g3 b3 H3 F3 d4 J2 R2 O2 A2 H2 B2 d5 l2
      have A4 := below_alloc w4 (.cells #[] 52)
      have O4 := owns_empty lK 52 w4
      have L4 := (hx2.below B4 (by rw [hN.out]; exact Nat.le_refl _)).below A4 (Nat.le_refl _)
      have J4 := below_heap A4 H4
      have d10 : (w4.alloc (.cells #[] 52)).cell? ⟨N, 10, none⟩ = some (.slice ba ls.length bc) := by rw [heap_cell J4]; rfl
      go_upto_region 8 with (first
        | (at_builtin; refine wpList_append_rec lK _ rfl _ _ 46 52 rfl _ 136 Tryz.underlying46 iL rfl (by decide) w4.heap.size (.slice (some ⟨w4.heap.size, 0, none⟩) 0 0) [] ls ba ls.length bc rfl O4 rfl rfl L4 A4.size (by simp only [List.length_nil]; omega) ?_; intro v5 w5 o5 g5; have b5 := own_below O4 g5 A4.size; have H5 := (b5.block N (by omega)).trans J4; obtain ⟨a5, c5, e5, R5, F5⟩ := own_row (D := lK) (xs := ls) o5 (by omega); subst e5)
        | (refine wpList_store_cel rfl 46 _ _ rfl N 10 11 48 (.slice a5 ls.length c5) #[str v1, .bool a1, .int .i64 b1, str c1, str p, .slice a3 ts.length c3, str v2, .bool a2, .int .i64 b2, str c2, .slice a5 ls.length c5] rfl rfl H5 rfl (by decide) (by kernel_rfl) rfl rfl ?_; intro w6 H6 d6))
      have B6 : Below N wr w6 := ((B4.trans (A4.mono (by omega))).trans (b5.mono (by omega))).trans (d6.lower (Nat.le_refl _) (by have := heap_lt H5; omega))
      have R6 := ((R4.safe (Safe.below A4)).safe (Safe.grown O4 g5 (by decide))).safe (Safe.but d6 H5 (by decide))
      have o6 := ownsRow_keep o5 (Safe.but d6 H5 (by decide))
      have l6 := heap_lt H6
      have z4 : N ≤ w4.heap.size := by omega
      have B6' : Below N wr w6 := B6
      clear R4 o5 g5 b5 H5 d6 J4 L4 O4 A4 H4 B4 d10 l4 R5 F5 B6
      obtain ⟨wo, hwo⟩ : ∃ W, W = wr := ⟨_, rfl⟩
      subst hwo
      generalize hBL : w4.heap.size = BL at *
      go_wp2_with fail
      go_loopw [6] (fun v6 wi => ∃ (j : Nat) (Q : List Lv), v6 = .int .i64 (j : Int) ∧ j ≤ ls.length ∧ Hid (Q.length = j) ∧ wi.heap[N]? = some (.cells #[str v1, .bool a1, .int .i64 b1, str c1, str p, .slice a3 ts.length c3, str v2, .bool a2, .int .i64 b2, str c2, .slice a5 ls.length c5] 48) ∧ wi.ownsRow BL 52 lK.k (.slice a5 ls.length c5) ls.length ((Q ++ ls.drop j).flatMap lK.enc) ∧ (∀ q ∈ Q, Lv.At wi q) ∧ Hid (Q.map Lv.l = (ls.take j).map Lv.l) ∧ RowT tK 44 wi a3 c3 ts ∧ Below N wo wi) (fun v6 _ => ls.length - (RowKit.intOf v6).toNat)
      case atStart => exact ⟨0, [], rfl, by omega, rfl, H6, by simpa using o6, fun _ h => by simp at h, rfl, R6, B6'⟩
      case round =>
        obtain ⟨j, Q, rfl, hj, hQ, HB, ho, hq, hql, R7, BI⟩ := hrel
        have e10 : wr.cell? ⟨N, 10, none⟩ = some (.slice a5 ls.length c5) := by rw [heap_cell HB]; rfl
        by_cases hjl : j < ls.length
        · have q3 : (j : Int) < (ls.length : Int) := by omega
          have hm := List.getElem_mem hjl
          have hdr : Hid (ls.drop j = (ls[j]'hjl) :: ls.drop (j + 1)) := List.drop_eq_getElem_cons hjl
          have htk : Hid ((ls.take (j + 1)).map Lv.l = (ls.take j).map Lv.l ++ [(ls[j]'hjl).l]) := by
            show _ = _
            rw [List.take_succ_eq_append_getElem hjl, List.map_append]; rfl
          have hRm := (hx3 _ hm).below (show Below wo.heap.size wo wr by rw [hN.out]; exact BI) (Nat.le_refl _)
          have nm := n3 _ hm
          rw [hdr.out] at ho
          generalize (ls[j]'hjl) = m at *
          generalize hRR : ls.drop (j + 1) = RR at *
          have HRR := hideP hRR; clear hRR
          obtain ⟨g, cap', cur, hv5, hbg, hh⟩ : ∃ g cap' cur, Value.slice a5 ls.length c5 = .slice (some ⟨g, 0, none⟩) ls.length cap' ∧ BL ≤ g ∧ wr.heap[g]? = some (.cells cur 52) := by
            rcases ho.2 with ⟨h0, _⟩ | ⟨g', cap', cur', hv, hbg, hh', _⟩
            · have : ls.length = 0 := by injection h0
              omega
            · exact ⟨g', cap', cur', hv, hbg, hh'⟩
          cases hv5
          have hrow := own_row (D := lK) (xs := Q ++ m :: RR) ho (by
            have h1 := ho.1
            rw [flat_len lK.enc lK.k lK.len] at h1
            have := Nat.eq_of_mul_eq_mul_right lK.pos h1
            omega)
          obtain ⟨a6, c6, e6, R8, _⟩ := hrow
          have hQj : Q.length = j := hQ.out
          have k1c : wr.cell? ⟨g, j * 10 + 5, none⟩ = some (.slice m.a m.args.length m.cap) := by
            have e7 : a6 = some ⟨g, 0, none⟩ := by injection e6 with e8; exact e8.symm
            subst e7
            have := R8.row.range j (by rw [List.length_append, List.length_cons]; omega) 5 (.slice m.a m.args.length m.cap) (by
              have : (Q ++ m :: RR)[j]'(by rw [List.length_append, List.length_cons]; omega) = m := by
                rw [List.getElem_append_right (by omega)]; simp [hQj]
              rw [this]; rfl)
            rw [Nat.zero_add] at this
            exact this
          have hgN : g ≠ N := fun e => by rw [e, HB] at hh; cases hh
          clear e6 R8 hm
          have gl := heap_lt hh
          have kk : ∀ X, Below wr.heap.size wr X → X.cell? ⟨N, 10, none⟩ = some (.slice (some ⟨g, 0, none⟩) ls.length c5) := fun X h => by rw [heap_cell (below_heap h HB)]; rfl
          have kc : ∀ X, Below wr.heap.size wr X → X.cell? ⟨g, j * 10 + 5, none⟩ = some (.slice m.a m.args.length m.cap) := fun X h => by rw [h.cell gl]; exact k1c
          have b0 : Below wr.heap.size wr (wr.alloc (.cells #[] 44)) := below_alloc wr (.cells #[] 44)
          have bA : Below wr.heap.size wr (wr.alloc (.cells #[] 44)).drew := b0.drew
          have k2c := kc _ b0
          have OA : (wr.alloc (.cells #[] 44)).drew.ownsRow wr.heap.size 44 tK.k (.slice (some ⟨wr.heap.size, 0, none⟩) 0 0) ([] : List Tm).length (([] : List Tm).flatMap tK.enc) := ownsRow_keep (owns_empty tK 44 wr) (Safe.below (Below.refl _ _).drew)
          have RA := Row.below hRm bA (Nat.le_refl _)
          have zA := bA.size
          go_wp2_with fail
          have e10A := kk _ b0
          have zN : N ≤ wr.heap.size := Nat.le_of_lt (heap_lt HB)
          have hend : ∀ (X : World) (A : Option Addr) (C : Nat), Below wr.heap.size wr X → RowT tK 44 X A C m.args →
              (X.setCell ⟨g, j * 10 + 5, none⟩ (.slice A m.args.length C)).heap[N]? = some (.cells #[str v1, .bool a1, .int .i64 b1, str c1, str p, .slice a3 ts.length c3, str v2, .bool a2, .int .i64 b2, str c2, .slice (some ⟨g, 0, none⟩) ls.length c5] 48) ∧ (X.setCell ⟨g, j * 10 + 5, none⟩ (.slice A m.args.length C)).ownsRow BL 52 lK.k (.slice (some ⟨g, 0, none⟩) ls.length c5) ls.length ((Q ++ [{ m with a := A, cap := C }] ++ RR).flatMap lK.enc) ∧ (∀ q ∈ Q ++ [{ m with a := A, cap := C }], Lv.At (X.setCell ⟨g, j * 10 + 5, none⟩ (.slice A m.args.length C)) q) ∧ RowT tK 44 (X.setCell ⟨g, j * 10 + 5, none⟩ (.slice A m.args.length C)) a3 c3 ts ∧ Below N wo (X.setCell ⟨g, j * 10 + 5, none⟩ (.slice A m.args.length C)) := by
            intro X A C bX TX
            have d8 : But g X (X.setCell ⟨g, j * 10 + 5, none⟩ (.slice A m.args.length C)) := But.cells [.slice A m.args.length C] (j * 10 + 5) _ (But.refl g X)
            have hhX := below_heap bX hh
            have sf : Safe 44 X (X.setCell ⟨g, j * 10 + 5, none⟩ (.slice A m.args.length C)) := Safe.but d8 hhX (by decide)
            refine ⟨d8.heap (Ne.symm hgN) (below_heap bX HB), ?_, fun q hq' => ?_, (R7.safe (Safe.below bX)).safe sf, (BI.trans (bX.mono zN)).trans (d8.lower (by omega) (Nat.le_trans zN bX.size))⟩
            · have hoX := ownsRow_keep ho (Safe.below bX)
              have := owns_set (i := j * 10 + 5) (u := .slice A m.args.length C) (ys := (Q ++ { m with a := A, cap := C } :: RR).flatMap lK.enc) hoX hhX (by rw [← hQj]; exact flat_set Q RR m A C)
              rw [List.append_assoc]; exact this
            · rcases List.mem_append.1 hq' with h | h
              · exact Lv.At.safe (Lv.At.safe (hq q h) (Safe.below bX)) sf
              · rw [List.mem_singleton] at h; subst h; exact RowT.safe TX sf
          clear mixed
          have mixed : Tryz.prog.follows .mixedOrders = true := by kernel_rfl
          go_region_law (refine step_rec tK (by rfl) _ _ 45 44 rfl _ 48 Tryz.underlying45 iT rfl (by decide) wr.heap.size (.slice (some ⟨wr.heap.size, 0, none⟩) 0 0) [] m.args m.a m.args.length m.cap rfl OA rfl rfl RA zA (by simp only [List.length_nil]; omega) ?_; intro v7 w7 o7 g7; have b7 : Below wr.heap.size wr w7 := bA.trans (own_below OA g7 zA); have c7 := kc _ b7; have e10B := kk _ b7; have z7 : w7.frozen? ⟨g, j * 10 + 5, none⟩ = false := heap_frozen (below_heap b7 hh) _; obtain ⟨a7, c7', e7, T7, _⟩ := own_row (D := tK) (xs := m.args) o7 (by omega); subst e7)
          all_goals
            obtain ⟨t1, t2, t3, t4, t5⟩ := hend w7 a7 c7' b7 T7
            go_wp2_with fail
            refine ⟨⟨j + 1, Q ++ [{ m with a := a7, cap := c7' }], by simp, by omega, ?_, t1, by rw [HRR.out]; exact t2, t3, ?_, t4, t5⟩, by simp [RowKit.intOf]; omega⟩
            · show _ = _; rw [List.length_append, hQ.out]; rfl
            · show _ = _; rw [List.map_append, hql.out, htk.out]; rfl
        · have q3 : ¬ (j : Int) < (ls.length : Int) := by omega
          obtain rfl : j = ls.length := by omega
          have hQl := hQ.out
          rw [List.drop_length, List.append_nil, ← hQl] at ho
          obtain ⟨a5', c5', e5, R8, _⟩ := own_row (D := lK) (xs := Q) ho (by omega)
          cases e5
          have hz : Hid (Rv.r ⟨⟨v1, ⟨a1, b1, c1⟩⟩, p, a3, c3, ts, ⟨v2, ⟨a2, b2, c2⟩⟩, a5, c5, Q⟩ = Rv.r ⟨⟨v1, ⟨a1, b1, c1⟩⟩, p, ad, cap, ts, ⟨v2, ⟨a2, b2, c2⟩⟩, ba, bc, ls⟩) := by
            show _ = _
            unfold Rv.r
            simp only
            rw [hql.out, List.take_length]
          have hzA : Rv.At wr ⟨⟨v1, ⟨a1, b1, c1⟩⟩, p, a3, c3, ts, ⟨v2, ⟨a2, b2, c2⟩⟩, a5, c5, Q⟩ := ⟨R7, R8, hq⟩
          have HB' : wr.heap[N]? = some (.cells (rv ⟨⟨v1, ⟨a1, b1, c1⟩⟩, p, a3, c3, ts, ⟨v2, ⟨a2, b2, c2⟩⟩, a5, c5, Q⟩).toArray 48) := by rw [HB, ← hQl]; rfl
          have hBo : Below wo.heap.size wo wr := by rw [hN.out]; exact BI
          have hown8 := ownsRow_keep hown (Safe.below (ty := 48) hBo)
          have hat8 := fun z hz => (hat z hz).safe (Safe.below hBo) (Safe.below hBo)
          have nK : (rv ⟨⟨v1, ⟨a1, b1, c1⟩⟩, p, a3, c3, ts, ⟨v2, ⟨a2, b2, c2⟩⟩, a5, c5, Q⟩).length = 11 := rfl
          have B8 : Below w.heap.size w wr := hb.trans (hBo.mono hb.size)
          generalize hzz : (⟨⟨v1, ⟨a1, b1, c1⟩⟩, p, a3, c3, ts, ⟨v2, ⟨a2, b2, c2⟩⟩, a5, c5, Q⟩ : Rv) = z at *
          have A8 := below_alloc wr (.cells (rv z).toArray 48)
          have hown9 := ownsRow_keep hown8 (Safe.below (ty := 48) A8)
          have B9 : Below w.heap.size w _ := B8.trans (A8.mono B8.size)
          go_wp2_with (first
            | (refine wpList_load_all rfl 48 _ rfl N 11 48 (rv z) _ rfl HB' nK Tryz.underlying48 rfl iN ?_)
            | (refine wpList_build_one rfl 22 48 _ rfl (rv z) _ 11 160 rfl nK (by decide) (by decide) Tryz.underlying22 iR ?_)
            | (at_builtin; refine wpList_append_rec rK _ rfl _ _ 22 48 rfl _ 160 Tryz.underlying22 iR rfl (by decide) w.heap.size u3 Z [z] (some ⟨wr.heap.size, 0, none⟩) 1 1 rfl hown9 rfl rfl (row_new rK wr _ 48 z rfl) B9.size (by have := hZ.out; simp only [List.length_cons, List.length_nil]; omega) ?_; intro v10 w10 o10 g10))
          have b10 := own_below hown9 g10 B9.size
          refine ⟨⟨k + 1, Z ++ [z], by simp, by omega, ?_, o10, fun y hy => ?_, ?_, B9.trans b10⟩, by simp [RowKit.intOf]; omega⟩
          · show _ = _; rw [List.length_append, hZ.out]; rfl
          · have hy' : Rv.At wr y := by
              rcases List.mem_append.1 hy with h | h
              · exact hat8 y h
              · rw [List.mem_singleton] at h; rw [h]; exact hzA
            have h9 := hy'.safe (Safe.below A8) (Safe.below A8)
            exact h9.safe (Safe.grown hown9 g10 (by decide)) (Safe.grown hown9 g10 (by decide))
          · show _ = _; rw [List.map_append, hf.out, hst.out]; simp [hz.out]
    · have q2 : ¬ (k : Int) < (xs.length : Int) := by omega
      obtain ⟨a', c', rfl, hO, _⟩ := own_row (D := rK) (xs := Z) hown (by have := hZ.out; omega)
      have Hf : Hid (Z.map Rv.r = xs.map Rv.r) := by
        show _ = _
        rw [hf.out, List.take_of_length_le (by omega)]
      go_wp2_with fail
      go_ret
      exact ⟨a', c', Z, rfl, hO.row, fun z hz => (hat z hz).aw, Hf.out, hb⟩
end Go.Proofs.YtpdmmmdkpipmkaaGreatDoor

/-
  How the data of a call are opened: a slice of bytes that came in holds some bytes; its length is within the form's own reach.
-/
namespace Go.Proofs.YtpdmmmdkpipmkaaGreatDoor
open Go.ChangeShapes Go.WideShapes Go.ChangeAt Go.RowKit

theorem Tryz.cellsU8 : Tryz.prog.cellsOf 5 = 1 := by kernel_rfl
theorem Tryz.bytesU8 : Tryz.prog.bytesOf 5 = 1 := by kernel_rfl

/-- what is known of the datum of a slice of bytes -/
def SliceDatum {H : Type} (d : DataW H) (c : Nat) (l : List UInt8) : Prop := (d = .nil ∧ l = []) ∨ ∃ e s, d = .slice e s ∧ e.length + s.length = c

set_option maxRecDepth 100000 in
theorem open_bytes {H : Type} {enc : TypeId × Value → H} {W : World} {base : Nat} {v : Value} {d : DataW H} {p : List MemPlace} (hv : Value.okWide Tryz.prog W .any base 139 v)
    (ht : DataW.Trod enc Tryz.prog W 0 (fun _ => true) true 139 v d p) : ∃ a c l, v = .slice a l.length c ∧ Holds W a c l ∧ SliceDatum d c l := by
  obtain ⟨a, len, cap, rfl⟩ := okWide_slice Tryz.underlying139 hv
  obtain ⟨fuel, hf⟩ := ht
  rcases open_ints Tryz.underlying139 Tryz.underlying5 Tryz.cellsU8 hf with ⟨hcs, hx⟩ | ⟨x, len', cap', zs, hcs, _, hl, hm, hz, hx, hcell, hwz⟩
  · simp [Value.cells] at hcs
    obtain ⟨rfl, rfl, rfl⟩ := hcs
    simp at hx
    exact ⟨none, 0, [], rfl, Holds.nil W, .inl ⟨hx.1, rfl⟩⟩
  · simp [Value.cells] at hcs
    obtain ⟨rfl, rfl, rfl⟩ := hcs
    simp only [if_true] at hz
    simp only [Prod.mk.injEq] at hx
    have hzl : ((zs.take len).map fun n => UInt8.ofNat n.toNat).length = len := by simp; omega
    refine ⟨some x, cap, (zs.take len).map fun n => UInt8.ofNat n.toNat, by rw [hzl], ⟨by rw [hzl]; exact hl, fun h => (by cases h), fun ad had j u hu => ?_⟩, .inr ⟨_, _, hx.1, by simp [lits]; omega⟩⟩
    cases had
    have hj : j < len := by
      have := (List.getElem?_eq_some_iff.1 hu).1
      rwa [cs_length, hzl] at this
    rw [hcell j (by omega)]
    have hw := hwz zs[j] (List.getElem_mem _)
    have hb := bounds_u8 hw
    have e1 : zs.getD j 0 = zs[j] := by simp [show j < zs.length by omega]
    rw [e1]
    rw [cs_get _ j (by rw [hzl]; exact hj)] at hu
    rw [← hu]
    congr 2
    simp
    omega

set_option maxRecDepth 100000 in
theorem reach_bytes {H : Type} {ts : List TypeId} {ds : List (DataW H)} (hsz : (DataW.weightsEach Tryz.prog ts ds).all (· ≤ reachBytes) = true) {j c : Nat} {l : List UInt8} {d : DataW H} {W : World} {a : Option Addr}
    (ht : ts[j]? = some 139) (hd : ds[j]? = some d) (h : SliceDatum d c l) (hl : Holds W a c l) : l.length ≤ 140737488351232 := by
  rcases h with ⟨_, rfl⟩ | ⟨e, s, rfl, hc⟩
  · simp
  · have := sized_slice hsz ht hd Tryz.underlying139
    rw [Tryz.bytesU8, hc] at this
    simp only [reachBytes] at this
    have := hl.1
    omega
end Go.Proofs.YtpdmmmdkpipmkaaGreatDoor
