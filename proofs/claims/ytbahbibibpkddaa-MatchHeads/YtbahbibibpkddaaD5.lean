/-
  The reference's Body.
-/
import Derived.Test.YtbahbibibpkddaaD4
import Derived.Test.YtbahbibibpkddaaEA
namespace Go.Proofs.Ytbahbibibpkddaa
open Go.RowKit Go.Lib Go.Shelf

set_option maxRecDepth 100000 in
set_option maxHeartbeats 4000000 in
theorem rBody_at (x : Rv) (a : Option Addr) (c : Nat) (L : List Bd) (w : World) (hr : Rv.Aw w x) (h : Row bK w a c L) (hf : x.body.length ≤ 900000) (hg : ∀ y ∈ x.body, y.args.length ≤ 900000) :
    Calls Try.prog 21 #[rval x, .slice a L.length c] w fun e w' => BodyAns e w' (Mt.body x.home L x.r.body) ∧ Below w.heap.size w w' := by
  have iT : (Try.prog.info? 25).map (·.size) = some 4 := by kernel_rfl
  have iL : (Try.prog.info? 45).map (·.size) = some 10 := by kernel_rfl
  have A0 := below_alloc w (.cells (rv x).toArray 37)
  have h0 := heap_alloc_new w (.cells (rv x).toArray 37)
  have hrl : x.r.body.length = x.body.length := List.length_map ..
  have TN := hideP (fun t W => rnone11_at t W)
  have sW : w.heap.size < (w.alloc (.cells (rv x).toArray 37)).heap.size := heap_lt h0
  go_enter Try.func21, Try.ntmps21
  go_wp2_with fail
  go_loopw [6, 7, 8, 9, 10, 11, 12, 13, 14, 15, 16] (fun v6 v7 _ _ _ _ _ _ _ _ _ wr => ∃ (i : Nat) (zs : List Fv) (u : Option Addr) (cu : Nat), v6 = .slice u (List.length zs) cu ∧ v7 = .int .i64 (i : Int) ∧ i ≤ x.body.length ∧ Hid (zs.length = i) ∧ wr.heap[w.heap.size]? = some (.cells (rv x).toArray 37) ∧ OwnF w.heap.size wr (.slice u (List.length zs) cu) zs ∧ EachK wr zs ∧ Below w.heap.size w wr ∧ Hid (Mt.body x.home L x.r.body = (Mt.body x.home L (x.r.body.drop i)).map fun cs => zs.map Fv.f ++ cs)) (fun _ v7 _ _ _ _ _ _ _ _ _ _ => x.body.length - (intOf v7).toNat)
  case atStart => exact ⟨0, [], none, 0, rfl, rfl, Nat.zero_le _, rfl, h0, World.ownsRow_nil _ _ _ _, (fun _ h => by simp at h), A0, by show _ = _; rw [List.drop_zero]; cases Mt.body x.home L x.r.body <;> simp⟩
  case round =>
    obtain ⟨i, zs, u, cu, rfl, rfl, hi, hk, HR, OF, EK, B, HV⟩ := hrel
    have c10 := (rule_parts10 HR).2.2.2.2.2.2
    by_cases hlt : i < x.body.length
    · have q3 : (i : Int) < (x.body.length : Int) := by omega
      obtain ⟨P1, O1, hP⟩ := hr.body.addr (Nat.lt_of_le_of_lt (Nat.zero_le _) hlt)
      have hB := hr.body.below B (Nat.le_refl _)
      rw [hP] at hB c10
      have r1 : wr.rangeAt P1 (O1 + i * 10) (lv (x.body[i]'hlt)) := hB.range i hlt
      have aY := hr.each _ (List.getElem_mem hlt)
      have lY := hg _ (List.getElem_mem hlt)
      have ST := HV.out
      rw [Mt.body_step (by omega), show x.r.body[i]'(by omega) = (x.body[i]'hlt).l by simp [Rv.r]] at ST
      have HST := hideP ST
      clear ST HV hB hP
      generalize (x.body[i]'hlt) = y at *
      have HBF : Hid (Mt.bodyF x.home y.l L = Mt.fact (Mt.place x.home y.at_) (Mt.place (Mt.place x.home y.at_) y.by_) y.pred y.args L) := rfl
      have iQ : (Try.prog.info? 45).map (·.size) = some (lv y).length := iL
      have N4 := heap_alloc_new wr (.cells #[.string { data := #[] }, .bool false, .int .i64 0, .string { data := #[] }, .string { data := #[] }, .slice none 0 0, .string { data := #[] }, .bool false, .int .i64 0, .string { data := #[] }] 45)
      go_wp2_with (first | (refine wpList_load_mid rfl 45 _ rfl P1 (O1 + i * 10) rfl (lv y) _ r1 Try.underlying45 rfl iQ ?_) | (refine wpList_store_all rfl 45 _ _ rfl wr.heap.size 10 _ 45 (lv y) rfl rfl N4 rfl rfl iL rfl ?_; intro w4 H4 b4; have T4 := below_tok b4; have r4 := (lit_parts10 H4).2.1; have N5 := heap_alloc_new w4 (.cells #[.string { data := #[] }, .bool false, .int .i64 0, .string { data := #[] }] 25); have r5 := (lit_parts10 (below_heap (below_alloc w4 (.cells #[.string { data := #[] }, .bool false, .int .i64 0, .string { data := #[] }] 25)) H4)).2.1) | (refine wpList_load_mid rfl 25 _ rfl wr.heap.size 6 rfl (tv y.at_) _ r4 Try.underlying25 rfl iT ?_) | (refine wpList_load_mid rfl 25 _ rfl wr.heap.size 6 rfl (tv y.at_) _ r5 Try.underlying25 rfl iT ?_) | (refine wpList_store_all rfl 25 _ _ rfl w4.heap.size 4 _ 25 (tv y.at_) rfl rfl N5 rfl rfl iT rfl ?_; intro w5 H5 b5; have T5 := below_tok b5) | (refine wpList_load_all rfl 25 _ rfl w4.heap.size 4 25 (tv y.at_) _ rfl H5 rfl Try.underlying25 rfl iT ?_))
      refine (TN.out y.at_ w5).mono ?_
      rintro e w6 ⟨rfl, b6⟩
      have G4 := below_heap (Below.then T5 b6) H4
      have G5 := below_heap b6 H5
      have T6 := Below.then (Below.then T4 T5) b6
      have HR6 := below_heap T6 HR
      have nl : wr.heap.size < w4.heap.size := heap_lt H4
      have nr : w.heap.size < wr.heap.size := heap_lt HR
      have n5 := heap_lt G5
      have r1x := r1
      generalize hRa : w4.heap.size = Ra at *
      clear hRa H4 b4 T4 r4 N4 N5 r5 H5 b5 T5 b6 r1 r1x
      generalize hqa : Mt.nul y.at_ = qa at *
      have PA : Hid (Mt.place x.home y.at_ = if qa = true then x.home else y.at_) := by
        show _ = _
        rw [← hqa]; rfl
      clear hqa
      cases qa with
      | true =>
        have rh := (rule_parts10 HR6).1
        have PA1 : Hid (Mt.place x.home y.at_ = x.home) := PA.out
        go_wp2_with (first | (refine wpList_load_mid rfl 25 _ rfl w.heap.size 0 rfl (tv x.home) _ rh Try.underlying25 rfl iT ?_) | (refine wpList_store_all rfl 25 _ _ rfl Ra 4 _ 25 (tv x.home) rfl rfl G5 rfl rfl iT rfl ?_; intro w7 J5 b7; have J4 := b7.heap (by omega) G4; have JR := b7.heap (by omega) HR6; have r7 := (lit_parts10 J4).1; have N8 := heap_alloc_new w7 (.cells #[.string { data := #[] }, .bool false, .int .i64 0, .string { data := #[] }] 25); have r8 := (lit_parts10 (below_heap (below_alloc w7 (.cells #[.string { data := #[] }, .bool false, .int .i64 0, .string { data := #[] }] 25)) J4)).1) | (refine wpList_load_mid rfl 25 _ rfl wr.heap.size 0 rfl (tv y.by_) _ r7 Try.underlying25 rfl iT ?_) | (refine wpList_load_mid rfl 25 _ rfl wr.heap.size 0 rfl (tv y.by_) _ r8 Try.underlying25 rfl iT ?_) | (refine wpList_store_all rfl 25 _ _ rfl w7.heap.size 4 _ 25 (tv y.by_) rfl rfl N8 rfl rfl iT rfl ?_; intro w9 Q9 b9; have T9a := below_tok b9) | (refine wpList_load_all rfl 25 _ rfl w7.heap.size 4 25 (tv y.by_) _ rfl Q9 rfl Try.underlying25 rfl iT ?_))
        have T7 : Below wr.heap.size wr w7 := T6.trans (b7.lower (by omega) T6.size)
        have L9 := below_heap T9a J4
        have A9 := below_heap T9a J5
        have R9 := below_heap T9a JR
        have T9 := Below.then T7 T9a
        have nb : Ra < w7.heap.size := heap_lt J5
        generalize hRb : w7.heap.size = Rb at *
        clear hRb J4 J5 JR r7 r8 N8 b9 T9a T7 b7 T6 HR6 G4 G5 n5 rh PA
        rw [PA1.out] at HBF
        clear PA1
        refine (TN.out y.by_ w9).mono ?_
        rintro e w10 ⟨rfl, b10⟩
        have L10 := below_heap b10 L9
        have A10 := below_heap b10 A9
        have Q10 := below_heap b10 Q9
        have R10 := below_heap b10 R9
        have T10 := Below.then T9 b10
        have n10 := heap_lt Q10
        clear L9 A9 Q9 R9 T9 b10
        generalize hqb : Mt.nul y.by_ = qb at *
        have PB : Hid (Mt.place x.home y.by_ = if qb = true then x.home else y.by_) := by
          show _ = _
          rw [← hqb]; rfl
        clear hqb
        cases qb with
        | true =>
          have PB1 : Hid (Mt.place x.home y.by_ = x.home) := PB.out
          rw [PB1.out] at HBF
          go_wp2_with (first | (refine wpList_load_all rfl 25 _ rfl Ra 4 25 (tv x.home) _ rfl A10 rfl Try.underlying25 rfl iT ?_) | (refine wpList_store_all rfl 25 _ _ rfl Rb 4 _ 25 (tv x.home) rfl rfl Q10 rfl rfl iT rfl ?_; intro w11 Q11 b11; have A11 := b11.heap (by omega) A10) | (refine wpList_load_all rfl 25 _ rfl Ra 4 25 (tv x.home) _ rfl A11 rfl Try.underlying25 rfl iT ?_))
          have L11 := b11.heap (by omega) L10
          have R11 := b11.heap (by omega) R10
          have T11 : Below wr.heap.size wr w11 := T10.trans (b11.lower (by omega) T10.size)
          clear L10 A10 Q10 R10 T10 b11 PB PB1
          have B11 := Below.then B T11
          have FN := hideP (fun h1 => fact_no (a := x.home) (b := x.home) y.pred y.args (L := L) h1)
          have FY := hideP (fun h1 h2 => fact_yes (a := x.home) (b := x.home) y.pred y.args (L := L) h1 h2)
          refine (rname_at x.home a c L w11 (h.below B11 (Nat.le_refl _))).mono ?_
          rintro e w12 ⟨rfl, b12⟩
          have L12 := below_heap b12 L11
          have Q12 := below_heap b12 Q11
          have T12 := Below.then T11 b12
          have B12 := Below.then B T12
          clear L11 A11 Q11 R11 T11 B11 b12
          go_wp2_with (refine wpList_load_all rfl 25 _ rfl Rb 4 25 (tv x.home) _ rfl Q12 rfl Try.underlying25 rfl iT ?_)
          refine (rname_at x.home a c L w12 (h.below B12 (Nat.le_refl _))).mono ?_
          rintro e w13 ⟨rfl, b13⟩
          have L13 := below_heap b13 L12
          have T13 := Below.then T12 b13
          have B13 := Below.then B T13
          have c5 := (lv_six L13).2.2.2.2.2
          clear L12 Q12 T12 B12 b13
          go_wp2_with fail
          refine (rvalues_at y.a y.cap y.args a c L w13 (Row.below (show Row tK w y.a y.cap y.args from aY) B13 (Nat.le_refl _)) (h.below B13 (Nat.le_refl _)) lY).mono ?_
          rintro e w14 ⟨⟨u6, c6, ks, rfl, R6, hks⟩, b14⟩
          have L14 := below_heap b14 L13
          have TZ := Below.then T13 b14
          have B14 := Below.then B TZ
          have c4 := (lv_six L14).2.2.2.2.1
          clear L13 T13 B13 b14 c5
          generalize hn1 : nmB x.home L = n1 at *
          cases n1 with
          | false =>
            have z0 := HST.out
            rw [HBF.out, FN.out (.inl rfl)] at z0
            have Z1 := hideP z0
            clear FN FY HST z0 HBF
            go_wp2_with fail
            go_ret2
            exact ⟨BodyAns.no Z1.out, B14⟩
          | true =>
            clear hn1
            have Z := FY.out rfl rfl
            clear FN FY
            rcases vals_two hks with ⟨u1, u2⟩ | ⟨u1, u2⟩
            · have z0 := HST.out
              rw [HBF.out, Z, u1] at z0
              have Z1 := hideP z0
              rw [u2]
              clear u1 u2 Z hks z0 HST HBF
              go_wp2_with fail
              go_ret2
              exact ⟨BodyAns.no Z1.out, B14⟩
            · have z0 := HST.out
              rw [HBF.out, Z, u1] at z0
              rw [u2]
              generalize hs1 : nmS x.home L = s1 at *
              have Z1 := Mt.gather (acc := zs.map Fv.f) (c := (⟨s1, s1, y.pred, ks⟩ : F)) z0
              rw [show zs.map Fv.f ++ [(⟨s1, s1, y.pred, ks⟩ : F)] = (zs ++ [(⟨s1, s1, y.pred, u6, c6, ks⟩ : Fv)]).map Fv.f by simp [Fv.f]] at Z1
              have Z2 := hideP Z1
              clear u1 u2 Z hks z0 HST HBF Z1 hs1
              have OZ := ownsRow_keep OF (Safe.below TZ : Safe 40 _ _)
              have EZ := EK.safe (Safe.below TZ)
              have HRZ := below_heap TZ HR
              have A15 := below_alloc w14 (.cells (fv ⟨s1, s1, y.pred, u6, c6, ks⟩).toArray 40)
              have o15 := ownsRow_keep OZ (Safe.below A15 : Safe 40 _ _)
              have R15 : Row fK (w14.alloc (.cells (fv ⟨s1, s1, y.pred, u6, c6, ks⟩).toArray 40)) (some ⟨w14.heap.size, 0, none⟩) 1 [⟨s1, s1, y.pred, u6, c6, ks⟩] := row_new fK w14 _ _ ⟨s1, s1, y.pred, u6, c6, ks⟩ rfl
              have hb15 := Nat.le_trans B14.size A15.size
              clear OF EK HR
              go_wp2_with (first | (refine wpList_build_one rfl 42 40 _ rfl (fv ⟨s1, s1, y.pred, u6, c6, ks⟩) _ 4 72 rfl rfl (by decide) (by decide) Try.underlying42 Try.iF4 ?_) | (at_builtin; refine wpList_append_rec fK _ rfl _ _ 42 40 rfl _ 72 Try.underlying42 Try.iFk rfl (by decide) w.heap.size (.slice u zs.length cu) zs [⟨s1, s1, y.pred, u6, c6, ks⟩] (some ⟨w14.heap.size, 0, none⟩) 1 1 rfl o15 rfl rfl R15 hb15 (by have := hk.out; simp only [List.length_cons, List.length_nil]; omega) ?_; intro v16 w16 o16 g16; obtain ⟨u16, c16, rfl, R16, _⟩ := own_row (D := fK) (xs := zs ++ [(⟨s1, s1, y.pred, u6, c6, ks⟩ : Fv)]) o16 (by have := hk.out; simp only [List.length_append, List.length_cons, List.length_nil]; omega)))
              have SK : Safe 23 w14 w16 := (Safe.below A15).trans (Safe.grown o15 g16 (by decide))
              have SR : Safe 37 w14 w16 := (Safe.below A15).trans (Safe.grown o15 g16 (by decide))
              refine ⟨⟨i + 1, zs ++ [(⟨s1, s1, y.pred, u6, c6, ks⟩ : Fv)], u16, c16, by rw [List.length_append]; rfl, by go_num, by omega, by show _ = _; rw [List.length_append, hk.out]; rfl, SR _ _ HRZ, o16, fun z' hz' => ?_, (Below.then B14 A15).trans (own_below o15 g16 hb15), Z2⟩, by simp [intOf]; omega⟩
              rcases List.mem_append.1 hz' with h1 | h1
              · exact (EZ z' h1).safe SK
              · rw [List.mem_singleton.1 h1]; exact R6.safe SK
        | false =>
          have PB1 : Hid (Mt.place x.home y.by_ = y.by_) := PB.out
          rw [PB1.out] at HBF
          go_wp2_with (refine wpList_load_all rfl 25 _ rfl Ra 4 25 (tv x.home) _ rfl A10 rfl Try.underlying25 rfl iT ?_)
          have L11 := L10
          have A11 := A10
          have Q11 := Q10
          have R11 := R10
          have T11 := T10
          clear L10 A10 Q10 R10 T10 PB PB1
          generalize hw11 : w10 = w11 at *
          clear hw11
          have B11 := Below.then B T11
          have FN := hideP (fun h1 => fact_no (a := x.home) (b := y.by_) y.pred y.args (L := L) h1)
          have FY := hideP (fun h1 h2 => fact_yes (a := x.home) (b := y.by_) y.pred y.args (L := L) h1 h2)
          refine (rname_at x.home a c L w11 (h.below B11 (Nat.le_refl _))).mono ?_
          rintro e w12 ⟨rfl, b12⟩
          have L12 := below_heap b12 L11
          have Q12 := below_heap b12 Q11
          have T12 := Below.then T11 b12
          have B12 := Below.then B T12
          clear L11 A11 Q11 R11 T11 B11 b12
          go_wp2_with (refine wpList_load_all rfl 25 _ rfl Rb 4 25 (tv y.by_) _ rfl Q12 rfl Try.underlying25 rfl iT ?_)
          refine (rname_at y.by_ a c L w12 (h.below B12 (Nat.le_refl _))).mono ?_
          rintro e w13 ⟨rfl, b13⟩
          have L13 := below_heap b13 L12
          have T13 := Below.then T12 b13
          have B13 := Below.then B T13
          have c5 := (lv_six L13).2.2.2.2.2
          clear L12 Q12 T12 B12 b13
          go_wp2_with fail
          refine (rvalues_at y.a y.cap y.args a c L w13 (Row.below (show Row tK w y.a y.cap y.args from aY) B13 (Nat.le_refl _)) (h.below B13 (Nat.le_refl _)) lY).mono ?_
          rintro e w14 ⟨⟨u6, c6, ks, rfl, R6, hks⟩, b14⟩
          have L14 := below_heap b14 L13
          have TZ := Below.then T13 b14
          have B14 := Below.then B TZ
          have c4 := (lv_six L14).2.2.2.2.1
          clear L13 T13 B13 b14 c5
          generalize hn1 : nmB x.home L = n1 at *
          generalize hn2 : nmB y.by_ L = n2 at *
          cases n1 with
          | false =>
            have z0 := HST.out
            rw [HBF.out, FN.out (.inl rfl)] at z0
            have Z1 := hideP z0
            clear FN FY HST z0 HBF
            go_wp2_with fail
            go_ret2
            exact ⟨BodyAns.no Z1.out, B14⟩
          | true =>
            cases n2 with
            | false =>
              have z0 := HST.out
              rw [HBF.out, FN.out (.inr rfl)] at z0
              have Z1 := hideP z0
              clear FN FY HST z0 HBF
              go_wp2_with fail
              go_ret2
              exact ⟨BodyAns.no Z1.out, B14⟩
            | true =>
              clear hn1 hn2
              have Z := FY.out rfl rfl
              clear FN FY
              rcases vals_two hks with ⟨u1, u2⟩ | ⟨u1, u2⟩
              · have z0 := HST.out
                rw [HBF.out, Z, u1] at z0
                have Z1 := hideP z0
                rw [u2]
                clear u1 u2 Z hks z0 HST HBF
                go_wp2_with fail
                go_ret2
                exact ⟨BodyAns.no Z1.out, B14⟩
              · have z0 := HST.out
                rw [HBF.out, Z, u1] at z0
                rw [u2]
                generalize hs1 : nmS x.home L = s1 at *
                generalize hs2 : nmS y.by_ L = s2 at *
                have Z1 := Mt.gather (acc := zs.map Fv.f) (c := (⟨s1, s2, y.pred, ks⟩ : F)) z0
                rw [show zs.map Fv.f ++ [(⟨s1, s2, y.pred, ks⟩ : F)] = (zs ++ [(⟨s1, s2, y.pred, u6, c6, ks⟩ : Fv)]).map Fv.f by simp [Fv.f]] at Z1
                have Z2 := hideP Z1
                clear u1 u2 Z hks z0 HST HBF Z1 hs1 hs2
                have OZ := ownsRow_keep OF (Safe.below TZ : Safe 40 _ _)
                have EZ := EK.safe (Safe.below TZ)
                have HRZ := below_heap TZ HR
                have A15 := below_alloc w14 (.cells (fv ⟨s1, s2, y.pred, u6, c6, ks⟩).toArray 40)
                have o15 := ownsRow_keep OZ (Safe.below A15 : Safe 40 _ _)
                have R15 : Row fK (w14.alloc (.cells (fv ⟨s1, s2, y.pred, u6, c6, ks⟩).toArray 40)) (some ⟨w14.heap.size, 0, none⟩) 1 [⟨s1, s2, y.pred, u6, c6, ks⟩] := row_new fK w14 _ _ ⟨s1, s2, y.pred, u6, c6, ks⟩ rfl
                have hb15 := Nat.le_trans B14.size A15.size
                clear OF EK HR
                go_wp2_with (first | (refine wpList_build_one rfl 42 40 _ rfl (fv ⟨s1, s2, y.pred, u6, c6, ks⟩) _ 4 72 rfl rfl (by decide) (by decide) Try.underlying42 Try.iF4 ?_) | (at_builtin; refine wpList_append_rec fK _ rfl _ _ 42 40 rfl _ 72 Try.underlying42 Try.iFk rfl (by decide) w.heap.size (.slice u zs.length cu) zs [⟨s1, s2, y.pred, u6, c6, ks⟩] (some ⟨w14.heap.size, 0, none⟩) 1 1 rfl o15 rfl rfl R15 hb15 (by have := hk.out; simp only [List.length_cons, List.length_nil]; omega) ?_; intro v16 w16 o16 g16; obtain ⟨u16, c16, rfl, R16, _⟩ := own_row (D := fK) (xs := zs ++ [(⟨s1, s2, y.pred, u6, c6, ks⟩ : Fv)]) o16 (by have := hk.out; simp only [List.length_append, List.length_cons, List.length_nil]; omega)))
                have SK : Safe 23 w14 w16 := (Safe.below A15).trans (Safe.grown o15 g16 (by decide))
                have SR : Safe 37 w14 w16 := (Safe.below A15).trans (Safe.grown o15 g16 (by decide))
                refine ⟨⟨i + 1, zs ++ [(⟨s1, s2, y.pred, u6, c6, ks⟩ : Fv)], u16, c16, by rw [List.length_append]; rfl, by go_num, by omega, by show _ = _; rw [List.length_append, hk.out]; rfl, SR _ _ HRZ, o16, fun z' hz' => ?_, (Below.then B14 A15).trans (own_below o15 g16 hb15), Z2⟩, by simp [intOf]; omega⟩
                rcases List.mem_append.1 hz' with h1 | h1
                · exact (EZ z' h1).safe SK
                · rw [List.mem_singleton.1 h1]; exact R6.safe SK
      | false =>
        have PA1 : Hid (Mt.place x.home y.at_ = y.at_) := PA.out
        have r7 := (lit_parts10 G4).1
        have N8 := heap_alloc_new w6 (.cells #[.string { data := #[] }, .bool false, .int .i64 0, .string { data := #[] }] 25)
        have r8 := (lit_parts10 (below_heap (below_alloc w6 (.cells #[.string { data := #[] }, .bool false, .int .i64 0, .string { data := #[] }] 25)) G4)).1
        go_wp2_with (first | (refine wpList_load_mid rfl 25 _ rfl wr.heap.size 0 rfl (tv y.by_) _ r7 Try.underlying25 rfl iT ?_) | (refine wpList_load_mid rfl 25 _ rfl wr.heap.size 0 rfl (tv y.by_) _ r8 Try.underlying25 rfl iT ?_) | (refine wpList_store_all rfl 25 _ _ rfl w6.heap.size 4 _ 25 (tv y.by_) rfl rfl N8 rfl rfl iT rfl ?_; intro w9 Q9 b9; have T9a := below_tok b9) | (refine wpList_load_all rfl 25 _ rfl w6.heap.size 4 25 (tv y.by_) _ rfl Q9 rfl Try.underlying25 rfl iT ?_))
        have L9 := below_heap T9a G4
        have A9 := below_heap T9a G5
        have R9 := below_heap T9a HR6
        have T9 := Below.then T6 T9a
        have nb : Ra < w6.heap.size := n5
        generalize hRb : w6.heap.size = Rb at *
        clear hRb r7 r8 N8 b9 T9a T6 HR6 G4 G5 n5 PA
        rw [PA1.out] at HBF
        clear PA1
        refine (TN.out y.by_ w9).mono ?_
        rintro e w10 ⟨rfl, b10⟩
        have L10 := below_heap b10 L9
        have A10 := below_heap b10 A9
        have Q10 := below_heap b10 Q9
        have R10 := below_heap b10 R9
        have T10 := Below.then T9 b10
        have n10 := heap_lt Q10
        clear L9 A9 Q9 R9 T9 b10
        generalize hqb : Mt.nul y.by_ = qb at *
        have PB : Hid (Mt.place y.at_ y.by_ = if qb = true then y.at_ else y.by_) := by
          show _ = _
          rw [← hqb]; rfl
        clear hqb
        cases qb with
        | true =>
          have PB1 : Hid (Mt.place y.at_ y.by_ = y.at_) := PB.out
          rw [PB1.out] at HBF
          go_wp2_with (first | (refine wpList_load_all rfl 25 _ rfl Ra 4 25 (tv y.at_) _ rfl A10 rfl Try.underlying25 rfl iT ?_) | (refine wpList_store_all rfl 25 _ _ rfl Rb 4 _ 25 (tv y.at_) rfl rfl Q10 rfl rfl iT rfl ?_; intro w11 Q11 b11; have A11 := b11.heap (by omega) A10) | (refine wpList_load_all rfl 25 _ rfl Ra 4 25 (tv y.at_) _ rfl A11 rfl Try.underlying25 rfl iT ?_))
          have L11 := b11.heap (by omega) L10
          have R11 := b11.heap (by omega) R10
          have T11 : Below wr.heap.size wr w11 := T10.trans (b11.lower (by omega) T10.size)
          clear L10 A10 Q10 R10 T10 b11 PB PB1
          have B11 := Below.then B T11
          have FN := hideP (fun h1 => fact_no (a := y.at_) (b := y.at_) y.pred y.args (L := L) h1)
          have FY := hideP (fun h1 h2 => fact_yes (a := y.at_) (b := y.at_) y.pred y.args (L := L) h1 h2)
          refine (rname_at y.at_ a c L w11 (h.below B11 (Nat.le_refl _))).mono ?_
          rintro e w12 ⟨rfl, b12⟩
          have L12 := below_heap b12 L11
          have Q12 := below_heap b12 Q11
          have T12 := Below.then T11 b12
          have B12 := Below.then B T12
          clear L11 A11 Q11 R11 T11 B11 b12
          go_wp2_with (refine wpList_load_all rfl 25 _ rfl Rb 4 25 (tv y.at_) _ rfl Q12 rfl Try.underlying25 rfl iT ?_)
          refine (rname_at y.at_ a c L w12 (h.below B12 (Nat.le_refl _))).mono ?_
          rintro e w13 ⟨rfl, b13⟩
          have L13 := below_heap b13 L12
          have T13 := Below.then T12 b13
          have B13 := Below.then B T13
          have c5 := (lv_six L13).2.2.2.2.2
          clear L12 Q12 T12 B12 b13
          go_wp2_with fail
          refine (rvalues_at y.a y.cap y.args a c L w13 (Row.below (show Row tK w y.a y.cap y.args from aY) B13 (Nat.le_refl _)) (h.below B13 (Nat.le_refl _)) lY).mono ?_
          rintro e w14 ⟨⟨u6, c6, ks, rfl, R6, hks⟩, b14⟩
          have L14 := below_heap b14 L13
          have TZ := Below.then T13 b14
          have B14 := Below.then B TZ
          have c4 := (lv_six L14).2.2.2.2.1
          clear L13 T13 B13 b14 c5
          generalize hn1 : nmB y.at_ L = n1 at *
          cases n1 with
          | false =>
            have z0 := HST.out
            rw [HBF.out, FN.out (.inl rfl)] at z0
            have Z1 := hideP z0
            clear FN FY HST z0 HBF
            go_wp2_with fail
            go_ret2
            exact ⟨BodyAns.no Z1.out, B14⟩
          | true =>
            clear hn1
            have Z := FY.out rfl rfl
            clear FN FY
            rcases vals_two hks with ⟨u1, u2⟩ | ⟨u1, u2⟩
            · have z0 := HST.out
              rw [HBF.out, Z, u1] at z0
              have Z1 := hideP z0
              rw [u2]
              clear u1 u2 Z hks z0 HST HBF
              go_wp2_with fail
              go_ret2
              exact ⟨BodyAns.no Z1.out, B14⟩
            · have z0 := HST.out
              rw [HBF.out, Z, u1] at z0
              rw [u2]
              generalize hs1 : nmS y.at_ L = s1 at *
              have Z1 := Mt.gather (acc := zs.map Fv.f) (c := (⟨s1, s1, y.pred, ks⟩ : F)) z0
              rw [show zs.map Fv.f ++ [(⟨s1, s1, y.pred, ks⟩ : F)] = (zs ++ [(⟨s1, s1, y.pred, u6, c6, ks⟩ : Fv)]).map Fv.f by simp [Fv.f]] at Z1
              have Z2 := hideP Z1
              clear u1 u2 Z hks z0 HST HBF Z1 hs1
              have OZ := ownsRow_keep OF (Safe.below TZ : Safe 40 _ _)
              have EZ := EK.safe (Safe.below TZ)
              have HRZ := below_heap TZ HR
              have A15 := below_alloc w14 (.cells (fv ⟨s1, s1, y.pred, u6, c6, ks⟩).toArray 40)
              have o15 := ownsRow_keep OZ (Safe.below A15 : Safe 40 _ _)
              have R15 : Row fK (w14.alloc (.cells (fv ⟨s1, s1, y.pred, u6, c6, ks⟩).toArray 40)) (some ⟨w14.heap.size, 0, none⟩) 1 [⟨s1, s1, y.pred, u6, c6, ks⟩] := row_new fK w14 _ _ ⟨s1, s1, y.pred, u6, c6, ks⟩ rfl
              have hb15 := Nat.le_trans B14.size A15.size
              clear OF EK HR
              go_wp2_with (first | (refine wpList_build_one rfl 42 40 _ rfl (fv ⟨s1, s1, y.pred, u6, c6, ks⟩) _ 4 72 rfl rfl (by decide) (by decide) Try.underlying42 Try.iF4 ?_) | (at_builtin; refine wpList_append_rec fK _ rfl _ _ 42 40 rfl _ 72 Try.underlying42 Try.iFk rfl (by decide) w.heap.size (.slice u zs.length cu) zs [⟨s1, s1, y.pred, u6, c6, ks⟩] (some ⟨w14.heap.size, 0, none⟩) 1 1 rfl o15 rfl rfl R15 hb15 (by have := hk.out; simp only [List.length_cons, List.length_nil]; omega) ?_; intro v16 w16 o16 g16; obtain ⟨u16, c16, rfl, R16, _⟩ := own_row (D := fK) (xs := zs ++ [(⟨s1, s1, y.pred, u6, c6, ks⟩ : Fv)]) o16 (by have := hk.out; simp only [List.length_append, List.length_cons, List.length_nil]; omega)))
              have SK : Safe 23 w14 w16 := (Safe.below A15).trans (Safe.grown o15 g16 (by decide))
              have SR : Safe 37 w14 w16 := (Safe.below A15).trans (Safe.grown o15 g16 (by decide))
              refine ⟨⟨i + 1, zs ++ [(⟨s1, s1, y.pred, u6, c6, ks⟩ : Fv)], u16, c16, by rw [List.length_append]; rfl, by go_num, by omega, by show _ = _; rw [List.length_append, hk.out]; rfl, SR _ _ HRZ, o16, fun z' hz' => ?_, (Below.then B14 A15).trans (own_below o15 g16 hb15), Z2⟩, by simp [intOf]; omega⟩
              rcases List.mem_append.1 hz' with h1 | h1
              · exact (EZ z' h1).safe SK
              · rw [List.mem_singleton.1 h1]; exact R6.safe SK
        | false =>
          have PB1 : Hid (Mt.place y.at_ y.by_ = y.by_) := PB.out
          rw [PB1.out] at HBF
          go_wp2_with (refine wpList_load_all rfl 25 _ rfl Ra 4 25 (tv y.at_) _ rfl A10 rfl Try.underlying25 rfl iT ?_)
          have L11 := L10
          have A11 := A10
          have Q11 := Q10
          have R11 := R10
          have T11 := T10
          clear L10 A10 Q10 R10 T10 PB PB1
          generalize hw11 : w10 = w11 at *
          clear hw11
          have B11 := Below.then B T11
          have FN := hideP (fun h1 => fact_no (a := y.at_) (b := y.by_) y.pred y.args (L := L) h1)
          have FY := hideP (fun h1 h2 => fact_yes (a := y.at_) (b := y.by_) y.pred y.args (L := L) h1 h2)
          refine (rname_at y.at_ a c L w11 (h.below B11 (Nat.le_refl _))).mono ?_
          rintro e w12 ⟨rfl, b12⟩
          have L12 := below_heap b12 L11
          have Q12 := below_heap b12 Q11
          have T12 := Below.then T11 b12
          have B12 := Below.then B T12
          clear L11 A11 Q11 R11 T11 B11 b12
          go_wp2_with (refine wpList_load_all rfl 25 _ rfl Rb 4 25 (tv y.by_) _ rfl Q12 rfl Try.underlying25 rfl iT ?_)
          refine (rname_at y.by_ a c L w12 (h.below B12 (Nat.le_refl _))).mono ?_
          rintro e w13 ⟨rfl, b13⟩
          have L13 := below_heap b13 L12
          have T13 := Below.then T12 b13
          have B13 := Below.then B T13
          have c5 := (lv_six L13).2.2.2.2.2
          clear L12 Q12 T12 B12 b13
          go_wp2_with fail
          refine (rvalues_at y.a y.cap y.args a c L w13 (Row.below (show Row tK w y.a y.cap y.args from aY) B13 (Nat.le_refl _)) (h.below B13 (Nat.le_refl _)) lY).mono ?_
          rintro e w14 ⟨⟨u6, c6, ks, rfl, R6, hks⟩, b14⟩
          have L14 := below_heap b14 L13
          have TZ := Below.then T13 b14
          have B14 := Below.then B TZ
          have c4 := (lv_six L14).2.2.2.2.1
          clear L13 T13 B13 b14 c5
          generalize hn1 : nmB y.at_ L = n1 at *
          generalize hn2 : nmB y.by_ L = n2 at *
          cases n1 with
          | false =>
            have z0 := HST.out
            rw [HBF.out, FN.out (.inl rfl)] at z0
            have Z1 := hideP z0
            clear FN FY HST z0 HBF
            go_wp2_with fail
            go_ret2
            exact ⟨BodyAns.no Z1.out, B14⟩
          | true =>
            cases n2 with
            | false =>
              have z0 := HST.out
              rw [HBF.out, FN.out (.inr rfl)] at z0
              have Z1 := hideP z0
              clear FN FY HST z0 HBF
              go_wp2_with fail
              go_ret2
              exact ⟨BodyAns.no Z1.out, B14⟩
            | true =>
              clear hn1 hn2
              have Z := FY.out rfl rfl
              clear FN FY
              rcases vals_two hks with ⟨u1, u2⟩ | ⟨u1, u2⟩
              · have z0 := HST.out
                rw [HBF.out, Z, u1] at z0
                have Z1 := hideP z0
                rw [u2]
                clear u1 u2 Z hks z0 HST HBF
                go_wp2_with fail
                go_ret2
                exact ⟨BodyAns.no Z1.out, B14⟩
              · have z0 := HST.out
                rw [HBF.out, Z, u1] at z0
                rw [u2]
                generalize hs1 : nmS y.at_ L = s1 at *
                generalize hs2 : nmS y.by_ L = s2 at *
                have Z1 := Mt.gather (acc := zs.map Fv.f) (c := (⟨s1, s2, y.pred, ks⟩ : F)) z0
                rw [show zs.map Fv.f ++ [(⟨s1, s2, y.pred, ks⟩ : F)] = (zs ++ [(⟨s1, s2, y.pred, u6, c6, ks⟩ : Fv)]).map Fv.f by simp [Fv.f]] at Z1
                have Z2 := hideP Z1
                clear u1 u2 Z hks z0 HST HBF Z1 hs1 hs2
                have OZ := ownsRow_keep OF (Safe.below TZ : Safe 40 _ _)
                have EZ := EK.safe (Safe.below TZ)
                have HRZ := below_heap TZ HR
                have A15 := below_alloc w14 (.cells (fv ⟨s1, s2, y.pred, u6, c6, ks⟩).toArray 40)
                have o15 := ownsRow_keep OZ (Safe.below A15 : Safe 40 _ _)
                have R15 : Row fK (w14.alloc (.cells (fv ⟨s1, s2, y.pred, u6, c6, ks⟩).toArray 40)) (some ⟨w14.heap.size, 0, none⟩) 1 [⟨s1, s2, y.pred, u6, c6, ks⟩] := row_new fK w14 _ _ ⟨s1, s2, y.pred, u6, c6, ks⟩ rfl
                have hb15 := Nat.le_trans B14.size A15.size
                clear OF EK HR
                go_wp2_with (first | (refine wpList_build_one rfl 42 40 _ rfl (fv ⟨s1, s2, y.pred, u6, c6, ks⟩) _ 4 72 rfl rfl (by decide) (by decide) Try.underlying42 Try.iF4 ?_) | (at_builtin; refine wpList_append_rec fK _ rfl _ _ 42 40 rfl _ 72 Try.underlying42 Try.iFk rfl (by decide) w.heap.size (.slice u zs.length cu) zs [⟨s1, s2, y.pred, u6, c6, ks⟩] (some ⟨w14.heap.size, 0, none⟩) 1 1 rfl o15 rfl rfl R15 hb15 (by have := hk.out; simp only [List.length_cons, List.length_nil]; omega) ?_; intro v16 w16 o16 g16; obtain ⟨u16, c16, rfl, R16, _⟩ := own_row (D := fK) (xs := zs ++ [(⟨s1, s2, y.pred, u6, c6, ks⟩ : Fv)]) o16 (by have := hk.out; simp only [List.length_append, List.length_cons, List.length_nil]; omega)))
                have SK : Safe 23 w14 w16 := (Safe.below A15).trans (Safe.grown o15 g16 (by decide))
                have SR : Safe 37 w14 w16 := (Safe.below A15).trans (Safe.grown o15 g16 (by decide))
                refine ⟨⟨i + 1, zs ++ [(⟨s1, s2, y.pred, u6, c6, ks⟩ : Fv)], u16, c16, by rw [List.length_append]; rfl, by go_num, by omega, by show _ = _; rw [List.length_append, hk.out]; rfl, SR _ _ HRZ, o16, fun z' hz' => ?_, (Below.then B14 A15).trans (own_below o15 g16 hb15), Z2⟩, by simp [intOf]; omega⟩
                rcases List.mem_append.1 hz' with h1 | h1
                · exact (EZ z' h1).safe SK
                · rw [List.mem_singleton.1 h1]; exact R6.safe SK
    · have q3 : ¬ (i : Int) < (x.body.length : Int) := by omega
      have z0 := HV.out
      rw [Mt.body_done (by omega)] at z0
      have z1 := hideP (Mt.gathered z0)
      have mx := OF.max
      obtain ⟨u', c', e', RF, _⟩ := own_row (D := fK) OF (by have := hk.out; omega)
      cases e'
      clear z0 HV OF
      go_wp2_with fail
      go_ret2
      exact ⟨⟨u, cu, zs, by rw [z1.out]; rfl, RF.row, RF.tag, mx, EK, by rw [z1.out]; rfl⟩, B⟩
end Go.Proofs.Ytbahbibibpkddaa
