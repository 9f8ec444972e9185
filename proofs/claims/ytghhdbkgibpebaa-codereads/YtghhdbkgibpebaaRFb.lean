/-
  The reference's Fact.
-/
import Derived.Test.YtghhdbkgibpebaaRFa
import Derived.Deep.LoopGhost
import Derived.Deep.RegionHeld3
namespace Go.Proofs.Ytghhdbkgibpebaa
open Go.RowKit Go.Sort

theorem Rd.grown {ty : TypeId} {w w' : World} {R : Nat} {a : Option Addr} {c : Nat} {l : List UInt8} {st : St} {row : Option Nat} (h : Rd ty w R a c l st) (hg : w.grownBy w' row) (hlt : ∀ j, row = some j → R < j) : Rd ty w' R a c l st := by
  obtain ⟨y1, y2, y3, y4, y5⟩ := h.obj
  refine ⟨⟨y1, y2, y3, ?_, y5⟩, ?_, h.low, h.len, h.rng⟩
  · rw [hg.block R (heap_lt y4) (fun e => by have := hlt R e.symm; omega)]; exact y4
  · refine ⟨h.holds.1, h.holds.2.1, fun ad ha j u hu => ?_⟩
    have hc := h.holds.2.2 ad ha j u hu
    have hj : 0 < l.length := by have := (List.getElem?_eq_some_iff.1 hu).1; rw [cs_length] at this; omega
    have hlw := h.low ad ha hj
    rw [World.cell?_of_block (w := w) (hg.block _ (cell_block hc) (by
      rw [addr_add_block]; intro e
      have := hlt _ e.symm; omega))]
    exact hc
theorem fR_err {l : List UInt8} {x e : Int} (h : stp (pFact l) noF (.ok (x, false)) = .error e) : fR l x = (f0, 0, e) := by
  cases hj : pFact l x with
  | error e' => rw [stp_no hj] at h; cases h; unfold fR; rw [hj]
  | ok r => obtain ⟨v, j⟩ := r; rw [stp_ok hj] at h; cases h
theorem fR_some {l : List UInt8} {x j : Int} {g : Bool} (h : stp (pFact l) noF (.ok (x, false)) = .ok (j, g)) : ∃ f, Got (pFact l) (.ok (x, false)) f ∧ fR l x = bif okB f then (f, j, 0) else (f0, 0, 40) := by
  cases hj : pFact l x with
  | error e' => rw [stp_no hj] at h; cases h
  | ok r =>
    obtain ⟨v, i⟩ := r
    rw [stp_ok hj] at h; cases h
    exact ⟨v, ⟨x, false, _, rfl, hj⟩, by unfold fR; rw [hj]⟩

set_option maxRecDepth 100000 in
set_option maxHeartbeats 8000000 in
theorem rfact_at (a : Option Addr) (c : Nat) (l : List UInt8) (x : Int) (w : World) (ha : Holds w a c l) (hl : l.length ≤ 281474976710656) (h0 : -9223372036854775808 ≤ x) (h1 : x ≤ 9223372036854775807) :
    Calls Try.prog 15 #[.slice a l.length c, .int .i64 x] w fun e w' => ∃ y : Fv, e = .returned (.tuple #[y.val, .int .i64 (fR l x).2.1, .int .i64 (fR l x).2.2]) ∧ y.f = (fR l x).1 ∧ Fv.At w' y ∧ Below w.heap.size w w' := by
  have mixed : Try.prog.follows .mixedOrders = true := by kernel_rfl
  have hT := fun R W st (h : Rd 73 W R a c l st) => rtext_r R a c l st W h
  have hN := fun R W st (h : Rd 73 W R a c l st) => rcount_r 48 R a c l st W h
  have hE := fun R W st (h : Rd 73 W R a c l st) (hp : Pos l st) => rvalue_r R a c l st W h hp
  have hC := fun y W (h : Fv.At W y) => refcheck_at y W h
  simp only [errno] at hC
  have iN : (Try.prog.info? 24).map (·.size) = some 4 := by kernel_rfl
  have iK : (Try.prog.info? 49).map (fun i => (i.zero, i.size, i.bytes)) = some (some (.agg #[.bool false, .int .i64 0, .string .empty]), kK.k, 32) := by kernel_rfl
  have B01 := below_alloc w (.cells #[.string .empty, .string .empty, .string .empty, .slice none 0 0] 24)
  have B02 := below_alloc (w.alloc (.cells #[.string .empty, .string .empty, .string .empty, .slice none 0 0] 24)) (.cells #[.slice a l.length c, .int .i64 x, .int .i64 0, .bool false] 73)
  have B03 := below_alloc ((w.alloc (.cells #[.string .empty, .string .empty, .string .empty, .slice none 0 0] 24)).alloc (.cells #[.slice a l.length c, .int .i64 x, .int .i64 0, .bool false] 73)) (.cells #[.string .empty, .string .empty, .string .empty, .slice none 0 0] 24)
  have S1 : (w.alloc (.cells #[.string .empty, .string .empty, .string .empty, .slice none 0 0] 24)).heap.size = w.heap.size + 1 := by simp
  have S2 : ((w.alloc (.cells #[.string .empty, .string .empty, .string .empty, .slice none 0 0] 24)).alloc (.cells #[.slice a l.length c, .int .i64 x, .int .i64 0, .bool false] 73)).heap.size = w.heap.size + 1 + 1 := by simp
  have S3 : (((w.alloc (.cells #[.string .empty, .string .empty, .string .empty, .slice none 0 0] 24)).alloc (.cells #[.slice a l.length c, .int .i64 x, .int .i64 0, .bool false] 73)).alloc (.cells #[.string .empty, .string .empty, .string .empty, .slice none 0 0] 24)).heap.size = w.heap.size + 1 + 1 + 1 := by simp
  have HA := below_heap B03 (below_heap B02 (heap_alloc_new w (.cells #[.string .empty, .string .empty, .string .empty, .slice none 0 0] 24)))
  have HB := below_heap B03 (heap_alloc_new (w.alloc (.cells #[.string .empty, .string .empty, .string .empty, .slice none 0 0] 24)) (.cells #[.slice a l.length c, .int .i64 x, .int .i64 0, .bool false] 73))
  have HV := heap_alloc_new ((w.alloc (.cells #[.string .empty, .string .empty, .string .empty, .slice none 0 0] 24)).alloc (.cells #[.slice a l.length c, .int .i64 x, .int .i64 0, .bool false] 73)) (.cells #[.string .empty, .string .empty, .string .empty, .slice none 0 0] 24)
  have B0 := Below.then (Below.then B01 B02) B03
  rw [S1] at HB
  rw [S2] at HV
  go_enter Try.func15, Try.ntmps15
  go_wp2_with fail
  change Calls _ _ _ (((w.alloc (.cells #[.string .empty, .string .empty, .string .empty, .slice none 0 0] 24)).alloc (.cells #[.slice a l.length c, .int .i64 x, .int .i64 0, .bool false] 73)).alloc (.cells #[.string .empty, .string .empty, .string .empty, .slice none 0 0] 24)) _
  generalize ((w.alloc (.cells #[.string .empty, .string .empty, .string .empty, .slice none 0 0] 24)).alloc (.cells #[.slice a l.length c, .int .i64 x, .int .i64 0, .bool false] 73)).alloc (.cells #[.string .empty, .string .empty, .string .empty, .slice none 0 0] 24) = w0 at *
  generalize hS : w.heap.size = S at *
  have HS := hideP hS; clear hS S1 S2 B01 B02 B03
  have R0 : Rd 73 w0 (S + 1) a c l (.ok (x, false)) := ⟨⟨x, 0, false, HB, rfl⟩, ha.below (by rw [HS.out]; exact B0), fun ad hd hl => by
      have := cell_block (ha.2.2 ad hd 0 _ (cs_get l 0 hl)); rw [addr_add_block, HS.out] at this; omega, hl, fun y g hy => by cases hy; exact ⟨h0, h1⟩⟩
  have U0 := HV
  have G0 := HA
  clear HB HV HA ha
  refine (hT _ _ _ R0).mono ?_; rintro e w1 ⟨x1, rfl, k1, R1, c1⟩
  have V1 := c1.heap (by omega) U0
  have H1 := c1.heap (by omega) G0
  have B1 : Below S w w1 := B0.trans (c1.lower (by omega) (by have := B0.size; rw [HS.out] at this; exact this))
  have K1 := hideP k1
  have y1 : S + 1 + 1 + 1 ≤ w1.heap.size := Nat.le_trans (by omega) c1.size
  clear U0 G0 R0 k1 c1 B0
  go_wp2_with (refine wpList_store_cel rfl 9 _ _ rfl (S + 1 + 1) 0 4 24 (str x1) #[str x1, .string .empty, .string .empty, .slice none 0 0] rfl rfl V1 rfl (by decide) (by kernel_rfl) rfl rfl ?_; intro z1 U1 d1)
  have G1 := d1.heap (by omega) H1
  have Q1 := R1.but d1 (by omega)
  have Y1 : S + 1 + 1 + 1 ≤ z1.heap.size := Nat.le_trans y1 d1.size
  have D1 : Below S w z1 := B1.trans (d1.lower (by omega) (by omega))
  clear V1 H1 R1 B1 d1 y1
  have R1 := Q1; clear Q1
  refine (hT _ _ _ R1).mono ?_; rintro e w2 ⟨x2, rfl, k2, R2, c2⟩
  have V2 := c2.heap (by omega) U1
  have H2 := c2.heap (by omega) G1
  have B2 : Below S w w2 := D1.trans (c2.lower (by omega) (by have := D1.size; rw [HS.out] at this; exact this))
  have K2 := hideP k2
  have y2 : S + 1 + 1 + 1 ≤ w2.heap.size := Nat.le_trans (by exact Y1) c2.size
  clear U1 G1 R1 k2 c2 D1 Y1
  go_wp2_with (refine wpList_store_cel rfl 9 _ _ rfl (S + 1 + 1) 1 4 24 (str x2) #[str x1, str x2, .string .empty, .slice none 0 0] rfl rfl V2 rfl (by decide) (by kernel_rfl) rfl rfl ?_; intro z2 U2 d2)
  have G2 := d2.heap (by omega) H2
  have Q2 := R2.but d2 (by omega)
  have Y2 : S + 1 + 1 + 1 ≤ z2.heap.size := Nat.le_trans y2 d2.size
  have D2 : Below S w z2 := B2.trans (d2.lower (by omega) (by omega))
  clear V2 H2 R2 B2 d2 y2
  have R2 := Q2; clear Q2
  refine (hT _ _ _ R2).mono ?_; rintro e w3 ⟨x3, rfl, k3, R3, c3⟩
  have V3 := c3.heap (by omega) U2
  have H3 := c3.heap (by omega) G2
  have B3 : Below S w w3 := D2.trans (c3.lower (by omega) (by have := D2.size; rw [HS.out] at this; exact this))
  have K3 := hideP k3
  have y3 : S + 1 + 1 + 1 ≤ w3.heap.size := Nat.le_trans (by exact Y2) c3.size
  clear U2 G2 R2 k3 c3 D2 Y2
  go_wp2_with (refine wpList_store_cel rfl 9 _ _ rfl (S + 1 + 1) 2 4 24 (str x3) #[str x1, str x2, str x3, .slice none 0 0] rfl rfl V3 rfl (by decide) (by kernel_rfl) rfl rfl ?_; intro z3 U3 d3)
  have G3 := d3.heap (by omega) H3
  have Q3 := R3.but d3 (by omega)
  have Y3 : S + 1 + 1 + 1 ≤ z3.heap.size := Nat.le_trans y3 d3.size
  have D3 : Below S w z3 := B3.trans (d3.lower (by omega) (by omega))
  clear V3 H3 R3 B3 d3 y3
  have R3 := Q3; clear Q3
  refine (hN _ _ _ R3).mono ?_; rintro e w4 ⟨s, rfl, ⟨hs2, hs3⟩, R4, c4⟩
  have V4 := c4.heap (by omega) U3
  have H4 := c4.heap (by omega) G3
  have B4 : Below S w w4 := D3.trans (c4.lower (by omega) (by omega))
  have Y4 : S + 1 + 1 + 1 ≤ w4.heap.size := Nat.le_trans Y3 c4.size
  have hs0 : 0 ≤ s ∧ s ≤ 1000000 := by
    rcases got_em (pCount l 48) (stp (pText l) noF (stp (pText l) noF (stp (pText l) noF (.ok (x, false))))) with ⟨n, hn⟩ | ⟨hn, _⟩
    · have := count_le hn; rw [hs2 n hn]; omega
    · rw [hs3 hn]; omega
  obtain ⟨N, rfl⟩ := Int.eq_ofNat_of_zero_le hs0.1
  have hNb : N ≤ 1000000 := by omega
  have hP4 := pos_count l 48 (stp (pText l) noF (stp (pText l) noF (stp (pText l) noF (.ok (x, false)))))
  have HF : Hid (stp (pFact l) noF (.ok (x, false)) = stp (pMany (pConst l) N) (anyF noF) (stp (pCount l 48) noF (stp (pText l) noF (stp (pText l) noF (stp (pText l) noF (.ok (x, false))))))) := by
    show _ = _
    rw [st_fact, st_list (N : Int) hs2, Int.toNat_natCast, anyF_no]
  have HG : Hid (∀ f, Got (pFact l) (.ok (x, false)) f → x1 = f.at_ ∧ x2 = f.by_ ∧ x3 = f.pred ∧ Got (pMany (pConst l) N) (stp (pCount l 48) noF (stp (pText l) noF (stp (pText l) noF (stp (pText l) noF (.ok (x, false)))))) f.ks) := fun f hf => by
    obtain ⟨g1, g2, g3, g4⟩ := got_fact hf
    have := got_list (N : Int) hs2 g4
    rw [Int.toNat_natCast] at this
    exact ⟨K1.out _ g1, K2.out _ g2, K3.out _ g3, this⟩
  clear hs2 hs3 hs0 U3 G3 R3 D3 c4 K1 K2 K3 hT hN Y3
  generalize stp (pCount l 48) noF (stp (pText l) noF (stp (pText l) noF (stp (pText l) noF (.ok (x, false))))) = s4 at *
  go_wp2_with fail
  go_loopw [10] (fun v10 wr => ∃ (k : Nat) (ks : List K) (v : Value), v10 = .int .i64 (k : Int) ∧ k ≤ N ∧ Hid (ks.length = k) ∧ wr.heap[S + 1 + 1]? = some (.cells #[str x1, str x2, str x3, v] 24) ∧ wr.ownsRow (S + 1 + 1 + 1) 49 kK.k v ks.length (ks.flatMap kK.enc) ∧ wr.heap[S]? = some (.cells #[.string .empty, .string .empty, .string .empty, .slice none 0 0] 24) ∧ Below S w wr ∧ S + 1 + 1 + 1 ≤ wr.heap.size ∧ Rd 73 wr (S + 1) a c l (stp (pMany (pConst l) k) (anyF noF) s4) ∧ Pos l (stp (pMany (pConst l) k) (anyF noF) s4) ∧ Hid (∀ xs, Got (pMany (pConst l) k) s4 xs → ks = xs)) (fun v10 _ => N - (intOf v10).toNat)
  case atStart =>
    refine ⟨0, [], .slice none 0 0, rfl, by omega, rfl, V4, ⟨rfl, .inl ⟨rfl, rfl⟩⟩, H4, B4, Y4, ?_, ?_, fun xs hx => ?_⟩
    · rw [stp_many_zero]; exact R4
    · rw [stp_many_zero]; exact hP4
    · obtain ⟨_, _, _, _, hj⟩ := hx
      have := (ret_inv hj).1
      subst this; rfl
  case round =>
    obtain ⟨k, ks, v, rfl, hk, hks, VW, own, HW, BW, YW, RW, PW, gW⟩ := hrel
    obtain ⟨x6, er, g6, QW, q6⟩ := RW.obj
    have d2 : wr.cell? ⟨S + 1, 2, none⟩ = some (.int .i64 er) := by rw [heap_cell QW]; rfl
    by_cases hlt : k < N
    · have q2 : (k : Int) < (N : Int) := by omega
      by_cases he : er = 0
      · subst he
        go_wp2_with fail
        have BD : Below wr.heap.size wr wr.drew := (Below.refl _ _).drew
        have RD := RW.below BD
        have VD := below_heap BD VW
        have HD := below_heap BD HW
        have ownD := ownsRow_keep own (Safe.below (ty := 49) BD)
        have BD' : Below S w wr.drew := BW.drew
        have hEv := (hE (S + 1) wr.drew _ RD PW).mono (R' := fun e w' => ∃ v, e = .returned v ∧ ∃ k', v = kval k' ∧ (∀ u, Got (pConst l) (stp (pMany (pConst l) k) (anyF noF) s4) u → k' = u) ∧ Rd 73 w' (S + 1) a c l (stp (pConst l) noF (stp (pMany (pConst l) k) (anyF noF) s4)) ∧ But (S + 1) wr.drew w') fun e w' ⟨k', h1, h2, h3, h4⟩ => ⟨kval k', h1, k', rfl, h2, h3, h4⟩
        have iK' : (Try.prog.info? 49).map (fun i => (i.zero, i.size, i.bytes)) = some (some (.agg #[.bool false, .int .i64 0, .string .empty]), 3, 32) := iK
        clear HF HG q6
        refine wp_region_any (by kernel_rfl) ?_
        refine wpAny_take (i := 0) (v := .pointer (some ⟨S + 1 + 1, 3, none⟩)) rfl (by kernel_rfl) (by kernel_rfl) (by kernel_rfl) (fun _ _ _ h => h) (.inl ⟨by kernel_rfl, fun w => by kernel_rfl⟩) ?_
        refine wpAny_take (i := 2) (v := .pointer (some ⟨S + 1, 0, none⟩)) rfl (by kernel_rfl) (by kernel_rfl) (by kernel_rfl) (fun _ _ _ h => h) (.inl ⟨by kernel_rfl, fun w => by kernel_rfl⟩) ?_
        refine wpAny_all (rs := [1, 3]) (by kernel_rfl) (by decide) ?_
        intro i hi
        have hi2 : i = 1 ∨ i = 3 := by simpa using hi
        clear hi
        rcases hi2 with rfl | rfl
        · refine wpOp_load_cel rfl rfl 22 _ rfl (S + 1 + 1) 3 v (by kernel_rfl) Try.isAgg22 (by show wr.drew.cell? _ = _; rw [heap_cell VD]; rfl) ?_
          refine wpAny_all (rs := [3]) (by kernel_rfl) (by decide) ?_
          intro i hi
          obtain rfl := List.mem_singleton.1 hi
          clear hi
          refine wpOp_call rfl rfl (f := 38) (args := #[ptr (S + 1)]) (by kernel_rfl) hEv ?_
          rintro _ w2 ⟨kk, rfl, hkk, R2, c2⟩
          have V2 := c2.heap (show S + 1 + 1 ≠ S + 1 by omega) VD
          have H2 := c2.heap (show S ≠ S + 1 by omega) HD
          have own2 := ownsRow_keep ownD (RD.safe c2 (by decide))
          have B2 : Below S w w2 := BD'.trans (c2.lower (by omega) (by have := BD'.size; rw [HS.out] at this; exact this))
          have Y2 : S + 1 + 1 + 1 ≤ w2.heap.size := Nat.le_trans YW c2.size
          refine wpAny_all (rs := [4]) (by kernel_rfl) (by decide) ?_
          intro i hi
          obtain rfl := List.mem_singleton.1 hi
          clear hi
          refine wpOp_build_one rfl rfl 22 49 _ rfl (kv kk) _ 3 32 (by kernel_rfl) rfl (by decide) (by decide) Try.underlying22 iK ?_
          refine wpAny_all (rs := [5]) (by kernel_rfl) (by decide) ?_
          intro i hi
          obtain rfl := List.mem_singleton.1 hi
          clear hi
          have A2 := below_alloc w2 (.cells (kv kk).toArray 49)
          have own3 := ownsRow_keep own2 (Safe.below (ty := 49) A2)
          refine wpOp_append_rec kK rfl rfl _ _ 22 49 rfl _ 32 Try.underlying22 iK rfl (by decide) (S + 1 + 1 + 1) v ks [kk] ⟨w2.heap.size, 0, none⟩ 1 1 (by kernel_rfl) own3 (by kernel_rfl) rfl (row_new kK w2 _ 49 kk rfl) (Nat.le_trans Y2 A2.size) (by have := hks.out; simp only [List.length_cons, List.length_nil]; omega) ?_
          intro v4 w4 o4 g4
          have hob : ∀ j, v.ownBlock = some j → S + 1 + 1 + 1 ≤ j := fun j hj => by
            rcases own3.2 with ⟨e0, _⟩ | ⟨gg, cap, cur, hv, hb, _⟩
            · rw [e0] at hj; cases hj
            · rw [hv] at hj; cases hj; exact hb
          have V4 : w4.heap[S + 1 + 1]? = some (.cells #[str x1, str x2, str x3, v] 24) := by
            have := below_heap A2 V2
            rw [g4.block _ (heap_lt this) (fun e => by have := hob _ e.symm; omega)]; exact this
          have H4 : w4.heap[S]? = some (.cells #[.string .empty, .string .empty, .string .empty, .slice none 0 0] 24) := by
            have := below_heap A2 H2
            rw [g4.block _ (heap_lt this) (fun e => by have := hob _ e.symm; omega)]; exact this
          have B4 : Below S w w4 := (B2.trans (A2.mono (by omega))).trans ((Below.refl _ _).grown g4 (by have := A2.size; omega) fun j hj => by have := hob j hj; omega)
          have R4 := (R2.below A2).grown g4 (fun j hj => by have := hob j hj; omega)
          have Y4 : S + 1 + 1 + 1 ≤ w4.heap.size := Nat.le_trans (Nat.le_trans Y2 A2.size) g4.size
          refine wpAny_take (i := 6) (v := .pointer (some ⟨S + 1 + 1, 3, none⟩)) rfl (by kernel_rfl) (by kernel_rfl) (by kernel_rfl) (fun _ _ _ h => h) (.inl ⟨by kernel_rfl, fun w => by kernel_rfl⟩) ?_
          refine wpAny_all (rs := [7]) (by kernel_rfl) (by decide) ?_
          intro i hi
          obtain rfl := List.mem_singleton.1 hi
          clear hi
          have o4one : v4.oneCell' = true := by
            rcases o4.2 with ⟨e0, _⟩ | ⟨gg, cap, cur, hv, _⟩
            · rw [e0]; rfl
            · rw [hv]; rfl
          refine wpOp_store_cel rfl rfl 22 _ _ rfl (S + 1 + 1) 3 4 24 v4 #[str x1, str x2, str x3, v4] (by kernel_rfl) (by kernel_rfl) V4 rfl (by decide) (by kernel_rfl) o4one rfl ?_
          intro w5 V5 b5
          refine wpAny_done (by kernel_rfl) ?_ _
          have hst := stp_many_succ (pConst l) noF k s4
          go_wp2_with fail
          refine ⟨⟨k + 1, ks ++ [kk], v4, by simp, by omega, ?_, V5, ownsRow_keep o4 (Safe.but b5 V4 (by decide)), b5.heap (by omega) H4, B4.trans (b5.lower (by omega) (by omega)), Nat.le_trans Y4 b5.size, ?_, ?_, fun xs hxs => ?_⟩, by simp [intOf]; omega⟩
          · show _ = _
            have := hks.out; simp [this]
          · rw [hst]; exact R4.but b5 (by omega)
          · rw [hst]; exact pos_snd (snd_const l) PW
          · obtain ⟨ys, y, h1, h2, rfl⟩ := got_many_succ (f := noF) hxs
            rw [gW.out ys h1, hkk y h2]
        · refine wpOp_call rfl rfl (f := 38) (args := #[ptr (S + 1)]) (by kernel_rfl) hEv ?_
          rintro _ w2 ⟨kk, rfl, hkk, R2, c2⟩
          have V2 := c2.heap (show S + 1 + 1 ≠ S + 1 by omega) VD
          have H2 := c2.heap (show S ≠ S + 1 by omega) HD
          have own2 := ownsRow_keep ownD (RD.safe c2 (by decide))
          have B2 : Below S w w2 := BD'.trans (c2.lower (by omega) (by have := BD'.size; rw [HS.out] at this; exact this))
          have Y2 : S + 1 + 1 + 1 ≤ w2.heap.size := Nat.le_trans YW c2.size
          refine wpAny_all (rs := [1, 4]) (by kernel_rfl) (by decide) ?_
          intro i hi
          have hi2 : i = 1 ∨ i = 4 := by simpa using hi
          clear hi
          rcases hi2 with rfl | rfl
          · refine wpOp_load_cel rfl rfl 22 _ rfl (S + 1 + 1) 3 v (by kernel_rfl) Try.isAgg22 (by rw [heap_cell V2]; rfl) ?_
            refine wpAny_all (rs := [4]) (by kernel_rfl) (by decide) ?_
            intro i hi
            obtain rfl := List.mem_singleton.1 hi
            clear hi
            refine wpOp_build_one rfl rfl 22 49 _ rfl (kv kk) _ 3 32 (by kernel_rfl) rfl (by decide) (by decide) Try.underlying22 iK ?_
            refine wpAny_all (rs := [5]) (by kernel_rfl) (by decide) ?_
            intro i hi
            obtain rfl := List.mem_singleton.1 hi
            clear hi
            have A2 := below_alloc w2 (.cells (kv kk).toArray 49)
            have own3 := ownsRow_keep own2 (Safe.below (ty := 49) A2)
            refine wpOp_append_rec kK rfl rfl _ _ 22 49 rfl _ 32 Try.underlying22 iK rfl (by decide) (S + 1 + 1 + 1) v ks [kk] ⟨w2.heap.size, 0, none⟩ 1 1 (by kernel_rfl) own3 (by kernel_rfl) rfl (row_new kK w2 _ 49 kk rfl) (Nat.le_trans Y2 A2.size) (by have := hks.out; simp only [List.length_cons, List.length_nil]; omega) ?_
            intro v4 w4 o4 g4
            have hob : ∀ j, v.ownBlock = some j → S + 1 + 1 + 1 ≤ j := fun j hj => by
              rcases own3.2 with ⟨e0, _⟩ | ⟨gg, cap, cur, hv, hb, _⟩
              · rw [e0] at hj; cases hj
              · rw [hv] at hj; cases hj; exact hb
            have V4 : w4.heap[S + 1 + 1]? = some (.cells #[str x1, str x2, str x3, v] 24) := by
              have := below_heap A2 V2
              rw [g4.block _ (heap_lt this) (fun e => by have := hob _ e.symm; omega)]; exact this
            have H4 : w4.heap[S]? = some (.cells #[.string .empty, .string .empty, .string .empty, .slice none 0 0] 24) := by
              have := below_heap A2 H2
              rw [g4.block _ (heap_lt this) (fun e => by have := hob _ e.symm; omega)]; exact this
            have B4 : Below S w w4 := (B2.trans (A2.mono (by omega))).trans ((Below.refl _ _).grown g4 (by have := A2.size; omega) fun j hj => by have := hob j hj; omega)
            have R4 := (R2.below A2).grown g4 (fun j hj => by have := hob j hj; omega)
            have Y4 : S + 1 + 1 + 1 ≤ w4.heap.size := Nat.le_trans (Nat.le_trans Y2 A2.size) g4.size
            refine wpAny_take (i := 6) (v := .pointer (some ⟨S + 1 + 1, 3, none⟩)) rfl (by kernel_rfl) (by kernel_rfl) (by kernel_rfl) (fun _ _ _ h => h) (.inl ⟨by kernel_rfl, fun w => by kernel_rfl⟩) ?_
            refine wpAny_all (rs := [7]) (by kernel_rfl) (by decide) ?_
            intro i hi
            obtain rfl := List.mem_singleton.1 hi
            clear hi
            have o4one : v4.oneCell' = true := by
              rcases o4.2 with ⟨e0, _⟩ | ⟨gg, cap, cur, hv, _⟩
              · rw [e0]; rfl
              · rw [hv]; rfl
            refine wpOp_store_cel rfl rfl 22 _ _ rfl (S + 1 + 1) 3 4 24 v4 #[str x1, str x2, str x3, v4] (by kernel_rfl) (by kernel_rfl) V4 rfl (by decide) (by kernel_rfl) o4one rfl ?_
            intro w5 V5 b5
            refine wpAny_done (by kernel_rfl) ?_ _
            have hst := stp_many_succ (pConst l) noF k s4
            go_wp2_with fail
            refine ⟨⟨k + 1, ks ++ [kk], v4, by simp, by omega, ?_, V5, ownsRow_keep o4 (Safe.but b5 V4 (by decide)), b5.heap (by omega) H4, B4.trans (b5.lower (by omega) (by omega)), Nat.le_trans Y4 b5.size, ?_, ?_, fun xs hxs => ?_⟩, by simp [intOf]; omega⟩
            · show _ = _
              have := hks.out; simp [this]
            · rw [hst]; exact R4.but b5 (by omega)
            · rw [hst]; exact pos_snd (snd_const l) PW
            · obtain ⟨ys, y, h1, h2, rfl⟩ := got_many_succ (f := noF) hxs
              rw [gW.out ys h1, hkk y h2]
          · refine wpOp_build_one rfl rfl 22 49 _ rfl (kv kk) _ 3 32 (by kernel_rfl) rfl (by decide) (by decide) Try.underlying22 iK ?_
            refine wpAny_all (rs := [1]) (by kernel_rfl) (by decide) ?_
            intro i hi
            obtain rfl := List.mem_singleton.1 hi
            clear hi
            refine wpOp_load_cel rfl rfl 22 _ rfl (S + 1 + 1) 3 v (by kernel_rfl) Try.isAgg22 (by rw [heap_cell (below_heap (below_alloc w2 _) V2)]; rfl) ?_
            refine wpAny_all (rs := [5]) (by kernel_rfl) (by decide) ?_
            intro i hi
            obtain rfl := List.mem_singleton.1 hi
            clear hi
            have A2 := below_alloc w2 (.cells (kv kk).toArray 49)
            have own3 := ownsRow_keep own2 (Safe.below (ty := 49) A2)
            refine wpOp_append_rec kK rfl rfl _ _ 22 49 rfl _ 32 Try.underlying22 iK rfl (by decide) (S + 1 + 1 + 1) v ks [kk] ⟨w2.heap.size, 0, none⟩ 1 1 (by kernel_rfl) own3 (by kernel_rfl) rfl (row_new kK w2 _ 49 kk rfl) (Nat.le_trans Y2 A2.size) (by have := hks.out; simp only [List.length_cons, List.length_nil]; omega) ?_
            intro v4 w4 o4 g4
            have hob : ∀ j, v.ownBlock = some j → S + 1 + 1 + 1 ≤ j := fun j hj => by
              rcases own3.2 with ⟨e0, _⟩ | ⟨gg, cap, cur, hv, hb, _⟩
              · rw [e0] at hj; cases hj
              · rw [hv] at hj; cases hj; exact hb
            have V4 : w4.heap[S + 1 + 1]? = some (.cells #[str x1, str x2, str x3, v] 24) := by
              have := below_heap A2 V2
              rw [g4.block _ (heap_lt this) (fun e => by have := hob _ e.symm; omega)]; exact this
            have H4 : w4.heap[S]? = some (.cells #[.string .empty, .string .empty, .string .empty, .slice none 0 0] 24) := by
              have := below_heap A2 H2
              rw [g4.block _ (heap_lt this) (fun e => by have := hob _ e.symm; omega)]; exact this
            have B4 : Below S w w4 := (B2.trans (A2.mono (by omega))).trans ((Below.refl _ _).grown g4 (by have := A2.size; omega) fun j hj => by have := hob j hj; omega)
            have R4 := (R2.below A2).grown g4 (fun j hj => by have := hob j hj; omega)
            have Y4 : S + 1 + 1 + 1 ≤ w4.heap.size := Nat.le_trans (Nat.le_trans Y2 A2.size) g4.size
            refine wpAny_take (i := 6) (v := .pointer (some ⟨S + 1 + 1, 3, none⟩)) rfl (by kernel_rfl) (by kernel_rfl) (by kernel_rfl) (fun _ _ _ h => h) (.inl ⟨by kernel_rfl, fun w => by kernel_rfl⟩) ?_
            refine wpAny_all (rs := [7]) (by kernel_rfl) (by decide) ?_
            intro i hi
            obtain rfl := List.mem_singleton.1 hi
            clear hi
            have o4one : v4.oneCell' = true := by
              rcases o4.2 with ⟨e0, _⟩ | ⟨gg, cap, cur, hv, _⟩
              · rw [e0]; rfl
              · rw [hv]; rfl
            refine wpOp_store_cel rfl rfl 22 _ _ rfl (S + 1 + 1) 3 4 24 v4 #[str x1, str x2, str x3, v4] (by kernel_rfl) (by kernel_rfl) V4 rfl (by decide) (by kernel_rfl) o4one rfl ?_
            intro w5 V5 b5
            refine wpAny_done (by kernel_rfl) ?_ _
            have hst := stp_many_succ (pConst l) noF k s4
            go_wp2_with fail
            refine ⟨⟨k + 1, ks ++ [kk], v4, by simp, by omega, ?_, V5, ownsRow_keep o4 (Safe.but b5 V4 (by decide)), b5.heap (by omega) H4, B4.trans (b5.lower (by omega) (by omega)), Nat.le_trans Y4 b5.size, ?_, ?_, fun xs hxs => ?_⟩, by simp [intOf]; omega⟩
            · show _ = _
              have := hks.out; simp [this]
            · rw [hst]; exact R4.but b5 (by omega)
            · rw [hst]; exact pos_snd (snd_const l) PW
            · obtain ⟨ys, y, h1, h2, rfl⟩ := got_many_succ (f := noF) hxs
              rw [gW.out ys h1, hkk y h2]
      · have hq : (er != 0) = true := by simpa using he
        have hq' : (er == 0) = false := by simpa using he
        have HR : Hid (fR l x = (f0, 0, er)) := by
          refine fR_err ?_
          rw [HF.out]
          exact many_err (k := k) (by rw [q6]; unfold stOf; rw [if_neg he]) hk
        clear HF HG gW q6 he RW PW own VW hE hC
        have e2 : wr.cell? ⟨S + 1, 2, none⟩ = some (.int .i64 er) := by rw [heap_cell QW]; rfl
        go_wp2_with fail
        have BD : Below wr.heap.size wr wr.drew := (Below.refl _ _).drew
        have HD := below_heap BD HW
        have c0 : wr.cell? ⟨S, 0, none⟩ = some (.string .empty) := by rw [heap_cell HW]; rfl
        have c1 : wr.cell? ⟨S, 1, none⟩ = some (.string .empty) := by rw [heap_cell HW]; rfl
        have c2 : wr.cell? ⟨S, 2, none⟩ = some (.string .empty) := by rw [heap_cell HW]; rfl
        have c3 : wr.cell? ⟨S, 3, none⟩ = some (.slice none 0 0) := by rw [heap_cell HW]; rfl
        have z0 := heap_frozen HW 0; have z1 := heap_frozen HW 1; have z2 := heap_frozen HW 2; have z3 := heap_frozen HW 3
        have ne1 : ¬ S + 1 = S := by omega
        have ne2 : ¬ S = S + 1 := by omega
        go_region_held3 (fun W => W.cell? ⟨S + 1, 2, none⟩ = some (.int .i64 er)) (simp [World.cell?_setCell_other, e2]) (fail)
        go_wp2_with fail
        have H4 := heap_setCells S 24 (fv nof) 0 _ wr.drew HD
        rw [splice_all #[.string .empty, .string .empty, .string .empty, .slice none 0 0] (fv nof) rfl] at H4
        have b4 : But S wr.drew (wr.drew.setCells S 0 (fv nof)) := But.cells _ _ _ (But.refl S _)
        change ((((((wr.drew.setCell ⟨S, 0, none⟩ (.string .empty)).setCell ⟨S, 1, none⟩ (.string .empty)).setCell ⟨S, 2, none⟩ (.string .empty)).setCell ⟨S, 3, none⟩ (.slice none 0 0)))).heap[S]? = some _ at H4
        change But S wr.drew (((((wr.drew.setCell ⟨S, 0, none⟩ (.string .empty)).setCell ⟨S, 1, none⟩ (.string .empty)).setCell ⟨S, 2, none⟩ (.string .empty)).setCell ⟨S, 3, none⟩ (.slice none 0 0))) at b4
        refine bodyPost_ret (results_cell_two (b := S) rfl rfl H4 Try.underlying24 rfl (by kernel_rfl)) rfl ⟨nof, ?_, ?_, ArgsAt.nil _, ?_⟩
        · rw [HR.out]; rfl
        · rw [HR.out]; rfl
        · have zz := BW.size
          rw [HS.out] at zz ⊢
          exact (BW.trans (BD.mono zz)).trans (b4.lower (Nat.le_refl _) zz)
    · have q2 : ¬ (k : Int) < (N : Int) := by omega
      obtain rfl : k = N := by omega
      by_cases he : er = 0
      · subst he
        obtain ⟨f, hf, hfr⟩ := fR_some (x := x) (j := x6) (g := g6) (by rw [HF.out, q6]; rfl)
        obtain ⟨rfl, rfl, rfl, hk4⟩ := HG.out f hf
        have hks' := gW.out _ hk4
        obtain ⟨a', c', rfl, row, _⟩ := own_row own (by have := hks.out; omega)
        have HR : Hid (fR l x = bif okB (Fv.f ⟨f.at_, f.by_, f.pred, a', c', ks⟩) then (Fv.f ⟨f.at_, f.by_, f.pred, a', c', ks⟩, x6, 0) else (f0, 0, 40)) := by
          show _ = _
          rw [hfr]
          have : f = Fv.f ⟨f.at_, f.by_, f.pred, a', c', ks⟩ := by rw [Fv.f, hks']
          rw [← this]
        clear HF HG gW q6 PW own hk4 hfr hf hks' RW hE
        obtain ⟨X1, X2, X3, X4⟩ := f
        dsimp only at HR VW
        have VW' : wr.heap[S + 1 + 1]? = some (.cells (fv ⟨X1, X2, X3, a', c', ks⟩).toArray 24) := VW
        go_wp2_with (refine wpList_load_all rfl 24 _ rfl (S + 1 + 1) 4 24 (fv ⟨X1, X2, X3, a', c', ks⟩) _ rfl VW' rfl Try.underlying24 rfl iN ?_)
        refine (hC ⟨X1, X2, X3, a', c', ks⟩ wr (ArgsAt.of_row row.row)).mono ?_; rintro e w3 ⟨rfl, b3⟩
        have H3 := below_heap b3 HW
        have Q3 := below_heap b3 QW
        have V3 := below_heap b3 VW'
        have row3 := row.safe (Safe.below b3)
        have z3' := BW.size
        rw [HS.out] at z3'
        have B3 : Below S w w3 := BW.trans (b3.mono z3')
        clear VW VW' HW QW row BW b3 d2 z3'
        cases hok : okB (Fv.f ⟨X1, X2, X3, a', c', ks⟩)
        · have HR' : Hid (fR l x = (f0, 0, 40)) := by show _ = _; rw [HR.out, hok]; rfl
          go_wp2_with (refine wpList_store_all rfl 24 _ _ rfl S 4 _ 24 (fv nof) rfl rfl H3 rfl rfl iN rfl ?_; intro w4 H4 b4)
          refine bodyPost_ret (results_cell_two (b := S) rfl rfl H4 Try.underlying24 rfl (by kernel_rfl)) rfl ⟨nof, ?_, ?_, ArgsAt.nil _, ?_⟩
          · rw [HR'.out]; rfl
          · rw [HR'.out]; rfl
          · rw [HS.out]; exact B3.trans (b4.lower (Nat.le_refl _) (by have := B3.size; rw [HS.out] at this; exact this))
        · have HR' : Hid (fR l x = (Fv.f ⟨X1, X2, X3, a', c', ks⟩, x6, 0)) := by show _ = _; rw [HR.out, hok]; rfl
          have BD : Below w3.heap.size w3 w3.drew := (Below.refl _ _).drew
          have HD := below_heap BD H3
          obtain ⟨c0, c1, c2, c3⟩ := fact_cells V3
          simp only at c0 c1 c2 c3
          have c4 : w3.cell? ⟨S + 1, 1, none⟩ = some (.int .i64 x6) := by rw [heap_cell Q3]; rfl
          have r0 : w3.cell? ⟨S, 0, none⟩ = some (.string .empty) := by rw [heap_cell H3]; rfl
          have r1 : w3.cell? ⟨S, 1, none⟩ = some (.string .empty) := by rw [heap_cell H3]; rfl
          have r2 : w3.cell? ⟨S, 2, none⟩ = some (.string .empty) := by rw [heap_cell H3]; rfl
          have r3 : w3.cell? ⟨S, 3, none⟩ = some (.slice none 0 0) := by rw [heap_cell H3]; rfl
          have z0 := heap_frozen H3 0; have z1 := heap_frozen H3 1; have z2 := heap_frozen H3 2; have z3 := heap_frozen H3 3
          have ne1 : ¬ S + 1 = S := by omega
          have ne2 : ¬ S = S + 1 := by omega
          have ne3 : ¬ S + 1 + 1 = S := by omega
          have ne4 : ¬ S = S + 1 + 1 := by omega
          go_wp2_with fail
          go_region_held3 (fun W => W.cell? ⟨S + 1 + 1, 0, none⟩ = some (str X1) ∧ W.cell? ⟨S + 1 + 1, 1, none⟩ = some (str X2) ∧ W.cell? ⟨S + 1 + 1, 2, none⟩ = some (str X3) ∧ W.cell? ⟨S + 1 + 1, 3, none⟩ = some (.slice a' ks.length c') ∧ W.cell? ⟨S + 1, 1, none⟩ = some (.int .i64 x6)) (simp [World.cell?_setCell_other, c0, c1, c2, c3, c4]) (fail)
          go_wp2_with fail
          have H4 := heap_setCells S 24 (fv ⟨X1, X2, X3, a', c', ks⟩) 0 _ w3.drew HD
          rw [splice_all #[.string .empty, .string .empty, .string .empty, .slice none 0 0] (fv ⟨X1, X2, X3, a', c', ks⟩) rfl] at H4
          have b4 : But S w3.drew (w3.drew.setCells S 0 (fv ⟨X1, X2, X3, a', c', ks⟩)) := But.cells _ _ _ (But.refl S _)
          have row4 := (row3.safe (Safe.below BD)).safe (Safe.but b4 HD (by decide))
          change (((((w3.drew.setCell ⟨S, 0, none⟩ (str X1)).setCell ⟨S, 1, none⟩ (str X2)).setCell ⟨S, 2, none⟩ (str X3)).setCell ⟨S, 3, none⟩ (.slice a' ks.length c'))).heap[S]? = some _ at H4
          change But S w3.drew (((((w3.drew.setCell ⟨S, 0, none⟩ (str X1)).setCell ⟨S, 1, none⟩ (str X2)).setCell ⟨S, 2, none⟩ (str X3)).setCell ⟨S, 3, none⟩ (.slice a' ks.length c'))) at b4
          refine bodyPost_ret (results_cell_two (b := S) rfl rfl H4 Try.underlying24 rfl (by kernel_rfl)) rfl ⟨⟨X1, X2, X3, a', c', ks⟩, ?_, ?_, ArgsAt.of_row row4.row, ?_⟩
          · rw [HR'.out]; rfl
          · rw [HR'.out]
          · have zz := B3.size
            rw [HS.out] at zz ⊢
            exact (B3.trans (BD.mono zz)).trans (b4.lower (Nat.le_refl _) zz)
      · have hq : (er != 0) = true := by simpa using he
        have HR : Hid (fR l x = (f0, 0, er)) := by
          refine fR_err ?_
          rw [HF.out, q6]; unfold stOf; rw [if_neg he]
        clear HF HG gW q6 he RW PW own VW hE hC
        have e2 : wr.cell? ⟨S + 1, 2, none⟩ = some (.int .i64 er) := by rw [heap_cell QW]; rfl
        go_wp2_with fail
        have BD : Below wr.heap.size wr wr.drew := (Below.refl _ _).drew
        have HD := below_heap BD HW
        have c0 : wr.cell? ⟨S, 0, none⟩ = some (.string .empty) := by rw [heap_cell HW]; rfl
        have c1 : wr.cell? ⟨S, 1, none⟩ = some (.string .empty) := by rw [heap_cell HW]; rfl
        have c2 : wr.cell? ⟨S, 2, none⟩ = some (.string .empty) := by rw [heap_cell HW]; rfl
        have c3 : wr.cell? ⟨S, 3, none⟩ = some (.slice none 0 0) := by rw [heap_cell HW]; rfl
        have z0 := heap_frozen HW 0; have z1 := heap_frozen HW 1; have z2 := heap_frozen HW 2; have z3 := heap_frozen HW 3
        have ne1 : ¬ S + 1 = S := by omega
        have ne2 : ¬ S = S + 1 := by omega
        go_region_held3 (fun W => W.cell? ⟨S + 1, 2, none⟩ = some (.int .i64 er)) (simp [World.cell?_setCell_other, e2]) (fail)
        go_wp2_with fail
        have H4 := heap_setCells S 24 (fv nof) 0 _ wr.drew HD
        rw [splice_all #[.string .empty, .string .empty, .string .empty, .slice none 0 0] (fv nof) rfl] at H4
        have b4 : But S wr.drew (wr.drew.setCells S 0 (fv nof)) := But.cells _ _ _ (But.refl S _)
        change ((((((wr.drew.setCell ⟨S, 0, none⟩ (.string .empty)).setCell ⟨S, 1, none⟩ (.string .empty)).setCell ⟨S, 2, none⟩ (.string .empty)).setCell ⟨S, 3, none⟩ (.slice none 0 0)))).heap[S]? = some _ at H4
        change But S wr.drew (((((wr.drew.setCell ⟨S, 0, none⟩ (.string .empty)).setCell ⟨S, 1, none⟩ (.string .empty)).setCell ⟨S, 2, none⟩ (.string .empty)).setCell ⟨S, 3, none⟩ (.slice none 0 0))) at b4
        refine bodyPost_ret (results_cell_two (b := S) rfl rfl H4 Try.underlying24 rfl (by kernel_rfl)) rfl ⟨nof, ?_, ?_, ArgsAt.nil _, ?_⟩
        · rw [HR.out]; rfl
        · rw [HR.out]; rfl
        · have zz := BW.size
          rw [HS.out] at zz ⊢
          exact (BW.trans (BD.mono zz)).trans (b4.lower (Nat.le_refl _) zz)
end Go.Proofs.Ytghhdbkgibpebaa
