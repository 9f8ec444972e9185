/-
  The reference's values and Head.
-/
import Derived.Test.YtdehimbfcilhpaaGreatDoorQE9
namespace Go.Proofs.YtdehimbfcilhpaaGreatDoor
open Go.RowKit Go.Lib Go.Shelf

/-- constants and yes, or none and no -/
def ValsAns (e : Ending) (w : World) (o : Option (List K)) : Prop := ∃ u c ks, e = .returned (.tuple #[.slice u (List.length ks) c, .bool o.isSome]) ∧ RowT kK 56 w u c ks ∧ ks = o.getD []
theorem ValsAns.no {w : World} {o : Option (List K)} (h : o = none) : ValsAns (.returned (.tuple #[.slice none 0 0, .bool false])) w o := ⟨none, 0, [], by rw [h]; rfl, RowT.nil _ _ _, by rw [h]; rfl⟩

set_option maxRecDepth 100000 in
set_option maxHeartbeats 1000000 in
theorem rvalues_at (aa : Option Addr) (ac : Nat) (ts : List Tm) (a : Option Addr) (c : Nat) (L : List Bd) (w : World) (ht : Row tK w aa ac ts) (h : Row bK w a c L) (hf : ts.length ≤ 900000) :
    Calls Tryz.prog 77 #[.slice aa ts.length ac, .slice a L.length c] w fun e w' => ValsAns e w' (Mt.vals L ts) ∧ Below w.heap.size w w' := by
  have iK : (Tryz.prog.info? 56).map (·.size) = some 3 := by kernel_rfl
  have iT : (Tryz.prog.info? 58).map (·.size) = some 4 := by kernel_rfl
  go_enter Tryz.func77, Tryz.ntmps77
  go_wp2_with fail
  go_loopw [6, 7, 8, 9] (fun v6 v7 _ _ wr => ∃ (i : Nat) (ks : List K) (u : Option Addr) (cu : Nat), v6 = .slice u (List.length ks) cu ∧ v7 = .int .i64 (i : Int) ∧ i ≤ ts.length ∧ Hid (ks.length = i) ∧ OwnK w.heap.size wr (.slice u (List.length ks) cu) ks ∧ Below w.heap.size w wr ∧ Hid (Mt.vals L ts = (Mt.vals L (ts.drop i)).map fun cs => ks ++ cs)) (fun _ v7 _ _ _ => ts.length - (intOf v7).toNat)
  case atStart => exact ⟨0, [], none, 0, rfl, rfl, Nat.zero_le _, rfl, World.ownsRow_nil _ _ _ _, Below.refl _ _, by show _ = _; rw [List.drop_zero]; cases Mt.vals L ts <;> simp⟩
  case round =>
    obtain ⟨i, ks, u, cu, rfl, rfl, hi, hk, OK, B, HV⟩ := hrel
    by_cases hlt : i < ts.length
    · have q3 : (i : Int) < (ts.length : Int) := by omega
      obtain ⟨P1, O1, rfl⟩ := ht.addr (Nat.lt_of_le_of_lt (Nat.zero_le _) hlt)
      have r1 : wr.rangeAt P1 (O1 + i * 4) (tv (ts[i]'hlt)) := (ht.below B (Nat.le_refl _)).range i hlt
      have ST := HV.out
      rw [Mt.vals_step hlt] at ST
      have HST := hideP ST
      clear ST HV
      generalize (ts[i]'hlt) = t at *
      have iQ : (Tryz.prog.info? 58).map (·.size) = some (tv t).length := iT
      go_wp2_with (refine wpList_load_mid rfl 58 _ rfl P1 (O1 + i * 4) rfl (tv t) _ r1 Tryz.underlying58 rfl iQ ?_)
      refine (rvalue_at t a c L wr (h.below B (Nat.le_refl _))).mono ?_
      rintro e w5 ⟨rfl, b5⟩
      have B5 := Below.then B b5
      have OK5 : OwnK w.heap.size w5 (.slice u (List.length ks) cu) ks := ownsRow_keep OK (Safe.below b5 : Safe 56 _ _)
      clear OK B b5 r1
      have N6 := heap_alloc_new w5 (.cells #[.bool false, .int .i64 0, .string { data := #[] }] 56)
      rcases val_two t L with ⟨u1, u2⟩ | ⟨kk, u1, u2, u3⟩
      · have z0 := HST.out
        rw [u1] at z0
        have Z1 := hideP z0
        rw [u2]
        clear u1 u2 z0 HST
        generalize valK t L = vk at *
        go_wp2_with (refine wpList_store_all rfl 56 _ _ rfl w5.heap.size 3 _ 56 (kv vk) rfl rfl N6 rfl rfl iK rfl ?_; intro w6 H6 b6; have T6 := below_tok b6)
        go_ret2
        exact ⟨ValsAns.no Z1.out, Below.then B5 T6⟩
      · have z0 := HST.out
        rw [u1] at z0
        have Z1 := hideP (Mt.gather (acc := ks) (c := kk) z0)
        rw [u2, u3]
        clear u1 u2 u3 z0 HST
        go_wp2_with (first | (refine wpList_store_all rfl 56 _ _ rfl w5.heap.size 3 _ 56 (kv kk) rfl rfl N6 rfl rfl iK rfl ?_; intro w6 H6 b6; have T6 := below_tok b6; have A7 := below_alloc w6 (.cells (kv kk).toArray 56); have o6 := ownsRow_keep OK5 (Safe.below T6 : Safe 56 _ _); have o7 := ownsRow_keep o6 (Safe.below A7 : Safe 56 _ _); have R7 : Row kK (w6.alloc (.cells (kv kk).toArray 56)) (some ⟨w6.heap.size, 0, none⟩) 1 [kk] := row_new kK w6 _ _ kk rfl; have hb7 := Nat.le_trans (Nat.le_trans B5.size T6.size) A7.size) | (refine wpList_load_all rfl 56 _ rfl w5.heap.size 3 56 (kv kk) _ rfl H6 rfl Tryz.underlying56 rfl iK ?_) | (refine wpList_build_one rfl 34 56 _ rfl (kv kk) _ 3 32 rfl rfl (by decide) (by decide) Tryz.underlying34 Tryz.iK3 ?_) | (at_builtin; refine wpList_append_rec kK _ rfl _ _ 34 56 rfl _ 32 Tryz.underlying34 Tryz.iKk rfl (by decide) w.heap.size (.slice u ks.length cu) ks [kk] (some ⟨w6.heap.size, 0, none⟩) 1 1 rfl o7 rfl rfl R7 hb7 (by have := hk.out; simp only [List.length_cons, List.length_nil]; omega) ?_; intro v8 w8 o8 g8; obtain ⟨u8, c8, rfl, R8, _⟩ := own_row (D := kK) (xs := ks ++ [kk]) o8 (by have := hk.out; simp only [List.length_append, List.length_cons, List.length_nil]; omega); have B8 : Below w.heap.size w w8 := (Below.then (Below.then B5 T6) A7).trans (own_below o7 g8 hb7)))
        exact ⟨⟨i + 1, ks ++ [kk], u8, c8, by rw [List.length_append]; rfl, by go_num, by omega, by show _ = _; rw [List.length_append, hk.out]; rfl, o8, B8, Z1⟩, by simp [intOf]; omega⟩
    · have q3 : ¬ (i : Int) < (ts.length : Int) := by omega
      have z0 := HV.out
      rw [Mt.vals_done (by omega)] at z0
      have z1 := hideP (Mt.gathered z0)
      obtain ⟨u', c', e', RK, _⟩ := own_row (D := kK) OK (by have := hk.out; omega)
      cases e'
      clear z0 HV OK
      go_wp2_with fail
      go_ret2
      exact ⟨⟨u, cu, ks, by rw [z1.out]; rfl, RK, by rw [z1.out]; rfl⟩, B⟩

theorem vals_two {o : Option (List K)} {ks : List K} (h : ks = o.getD []) : (o = none ∧ o.isSome = false) ∨ (o = some ks ∧ o.isSome = true) := by
  cases o with
  | none => exact .inl ⟨rfl, rfl⟩
  | some f => exact .inr ⟨by rw [h]; rfl, rfl⟩

set_option maxRecDepth 100000 in
set_option maxHeartbeats 2000000 in
theorem rHead_at (x : Rv) (a : Option Addr) (c : Nat) (L : List Bd) (w : World) (hr : Rv.Aw w x) (h : Row bK w a c L) (hf : x.args.length ≤ 900000) :
    Calls Tryz.prog 52 #[rval x, .slice a L.length c] w fun e w' => FactAns e w' (Mt.head x.r L) ∧ Below w.heap.size w w' := by
  have iF : (Tryz.prog.info? 36).map (·.size) = some 4 := by kernel_rfl
  have iT : (Tryz.prog.info? 58).map (·.size) = some 4 := by kernel_rfl
  obtain ⟨h0, h1, h2, A0⟩ := boxes3 w (.cells (rv x).toArray 62) (.cells #[.string { data := #[] }, .string { data := #[] }, .string { data := #[] }, .slice none 0 0] 36) (.cells #[.string { data := #[] }, .bool false, .int .i64 0, .string { data := #[] }] 58)
  obtain ⟨k0', k1', _⟩ := boxes2 w (.cells (rv x).toArray 62) (.cells #[.string { data := #[] }, .string { data := #[] }, .string { data := #[] }, .slice none 0 0] 36)
  have r6 := (rule_parts10 k0').2.1
  have r7 := (rule_parts10 h0).2.1
  have HD : Hid (Mt.head x.r L = Mt.fact (if Mt.nul x.to_ = true then x.home else x.to_) x.home x.pred x.args L) := rfl
  have TN := hideP (fun W => rnone11_at x.to_ W)
  go_enter Tryz.func52, Tryz.ntmps52
  go_wp2_with (first | (refine wpList_load_mid rfl 58 _ rfl w.heap.size 6 rfl (tv x.to_) _ r6 Tryz.underlying58 rfl iT ?_) | (refine wpList_load_mid rfl 58 _ rfl w.heap.size 6 rfl (tv x.to_) _ r7 Tryz.underlying58 rfl iT ?_) | (refine wpList_store_all rfl 58 _ _ rfl (w.heap.size + 1 + 1) 4 _ 58 (tv x.to_) rfl rfl h2 rfl rfl iT rfl ?_; intro w1 H2 b1) | (refine wpList_load_all rfl 58 _ rfl (w.heap.size + 1 + 1) 4 58 (tv x.to_) _ rfl H2 rfl Tryz.underlying58 rfl iT ?_))
  have H0 := b1.heap (by omega) h0
  have H1 := b1.heap (by omega) h1
  have B1 : Below w.heap.size w w1 := A0.trans (b1.lower (by omega) A0.size)
  clear h0 h1 h2 A0 k0' k1' r6 r7 b1
  refine (TN.out w1).mono ?_
  rintro e w2 ⟨rfl, b2⟩
  have G0 := below_heap b2 H0
  have G1 := below_heap b2 H1
  have G2 := below_heap b2 H2
  have B2 := Below.then B1 b2
  have n2 := heap_lt G2
  clear H0 H1 H2 B1 b2 TN
  generalize hq : Mt.nul x.to_ = q at *
  clear hq
  cases q with
  | true =>
    have HD1 : Hid (Mt.head x.r L = Mt.fact x.home x.home x.pred x.args L) := HD.out
    have rh := (rule_parts10 G0).1
    clear HD
    go_wp2_with (first | (refine wpList_load_mid rfl 58 _ rfl w.heap.size 0 rfl (tv x.home) _ rh Tryz.underlying58 rfl iT ?_) | (refine wpList_store_all rfl 58 _ _ rfl (w.heap.size + 1 + 1) 4 _ 58 (tv x.home) rfl rfl G2 rfl rfl iT rfl ?_; intro w3 J2 b3; have J0 := b3.heap (by omega) G0; have rj := (rule_parts10 J0).1) | (refine wpList_load_mid rfl 58 _ rfl w.heap.size 0 rfl (tv x.home) _ rj Tryz.underlying58 rfl iT ?_))
    have J1 := b3.heap (by omega) G1
    have B3 : Below w.heap.size w w3 := B2.trans (b3.lower (by omega) B2.size)
    clear G0 G1 G2 B2 b3 rh
    have FN := hideP (fun h1 => fact_no (a := x.home) (b := x.home) x.pred x.args (L := L) h1)
    have FY := hideP (fun h1 h2 => fact_yes (a := x.home) (b := x.home) x.pred x.args (L := L) h1 h2)
    refine (rname_at x.home a c L w3 (h.below B3 (Nat.le_refl _))).mono ?_
    rintro e w4 ⟨rfl, b4⟩
    have I0 := below_heap b4 J0
    have I1 := below_heap b4 J1
    have I2 := below_heap b4 J2
    have B4 := Below.then B3 b4
    clear J0 J1 J2 B3 b4 rj
    go_wp2_with (refine wpList_load_all rfl 58 _ rfl (w.heap.size + 1 + 1) 4 58 (tv x.home) _ rfl I2 rfl Tryz.underlying58 rfl iT ?_)
    refine (rname_at x.home a c L w4 (h.below B4 (Nat.le_refl _))).mono ?_
    rintro e w5 ⟨rfl, b5⟩
    have Q0 := below_heap b5 I0
    have Q1 := below_heap b5 I1
    have B5 := Below.then B4 b5
    have c5 := (rule_parts10 Q0).2.2.2.2.1
    clear I0 I1 I2 B4 b5
    go_wp2_with fail
    refine (rvalues_at x.a x.cap x.args a c L w5 (hr.args.below B5 (Nat.le_refl _)) (h.below B5 (Nat.le_refl _)) hf).mono ?_
    rintro e w6 ⟨⟨u6, c6, ks, rfl, R6, hks⟩, b6⟩
    have S0 := below_heap b6 Q0
    have S1 := below_heap b6 Q1
    have B6 := Below.then B5 b6
    have c4 := (rule_parts10 S0).2.2.2.1
    have n6 := heap_lt S1
    clear Q0 Q1 B5 b6 c5
    generalize hn1 : nmB x.home L = n1 at *
    cases n1 with
    | false =>
      have Z := hideP (HD1.out.trans (FN.out (.inr rfl)))
      clear FN FY HD1 hn1
      go_wp2_with (refine wpList_store_all rfl 36 _ _ rfl (w.heap.size + 1) 4 _ 36 (fv nof) rfl rfl S1 rfl rfl iF rfl ?_; intro w7 H7 b7)
      exact bodyPost_ret (results_c1 rfl rfl H7 Tryz.underlying36 rfl iF) rfl ⟨FactAns.no Z.out, B6.trans (b7.lower (by omega) B6.size)⟩
    | true =>
      have Z := HD1.out.trans (FY.out rfl rfl)
      clear FN FY HD1 hn1
      rcases vals_two hks with ⟨u1, u2⟩ | ⟨u1, u2⟩
      · rw [u1] at Z
        have Z2 := hideP Z
        rw [u2]
        clear u1 u2 Z hks
        go_wp2_with (refine wpList_store_all rfl 36 _ _ rfl (w.heap.size + 1) 4 _ 36 (fv nof) rfl rfl S1 rfl rfl iF rfl ?_; intro w7 H7 b7)
        exact bodyPost_ret (results_c1 rfl rfl H7 Tryz.underlying36 rfl iF) rfl ⟨FactAns.no Z2.out, B6.trans (b7.lower (by omega) B6.size)⟩
      · rw [u1] at Z
        have Z2 := hideP Z
        rw [u2]
        clear u1 u2 Z hks
        generalize nmS x.home L = s1 at *
        go_wp2_with (refine wpList_store_all rfl 36 _ _ rfl (w.heap.size + 1) 4 _ 36 (fv ⟨s1, s1, x.pred, u6, c6, ks⟩) rfl rfl S1 rfl rfl iF rfl ?_; intro w7 H7 b7)
        exact bodyPost_ret (results_c1 rfl rfl H7 Tryz.underlying36 rfl iF) rfl ⟨⟨⟨s1, s1, x.pred, u6, c6, ks⟩, by rw [Z2.out]; rfl, R6.safe (Safe.but b7 S1 (by decide)), by rw [Z2.out]; rfl⟩, B6.trans (b7.lower (by omega) B6.size)⟩
  | false =>
    have HD1 : Hid (Mt.head x.r L = Mt.fact x.to_ x.home x.pred x.args L) := HD.out
    have rh := (rule_parts10 G0).1
    clear HD
    go_wp2_with (refine wpList_load_mid rfl 58 _ rfl w.heap.size 0 rfl (tv x.home) _ rh Tryz.underlying58 rfl iT ?_)
    have J0 := G0
    have J1 := G1
    have J2 := G2
    have B3 := B2
    have rj := rh
    clear G0 G1 G2 B2 rh
    generalize hw3 : w2 = w3 at *
    clear hw3
    have FN := hideP (fun h1 => fact_no (a := x.to_) (b := x.home) x.pred x.args (L := L) h1)
    have FY := hideP (fun h1 h2 => fact_yes (a := x.to_) (b := x.home) x.pred x.args (L := L) h1 h2)
    refine (rname_at x.home a c L w3 (h.below B3 (Nat.le_refl _))).mono ?_
    rintro e w4 ⟨rfl, b4⟩
    have I0 := below_heap b4 J0
    have I1 := below_heap b4 J1
    have I2 := below_heap b4 J2
    have B4 := Below.then B3 b4
    clear J0 J1 J2 B3 b4 rj
    go_wp2_with (refine wpList_load_all rfl 58 _ rfl (w.heap.size + 1 + 1) 4 58 (tv x.to_) _ rfl I2 rfl Tryz.underlying58 rfl iT ?_)
    refine (rname_at x.to_ a c L w4 (h.below B4 (Nat.le_refl _))).mono ?_
    rintro e w5 ⟨rfl, b5⟩
    have Q0 := below_heap b5 I0
    have Q1 := below_heap b5 I1
    have B5 := Below.then B4 b5
    have c5 := (rule_parts10 Q0).2.2.2.2.1
    clear I0 I1 I2 B4 b5
    go_wp2_with fail
    refine (rvalues_at x.a x.cap x.args a c L w5 (hr.args.below B5 (Nat.le_refl _)) (h.below B5 (Nat.le_refl _)) hf).mono ?_
    rintro e w6 ⟨⟨u6, c6, ks, rfl, R6, hks⟩, b6⟩
    have S0 := below_heap b6 Q0
    have S1 := below_heap b6 Q1
    have B6 := Below.then B5 b6
    have c4 := (rule_parts10 S0).2.2.2.1
    have n6 := heap_lt S1
    clear Q0 Q1 B5 b6 c5
    generalize hn1 : nmB x.home L = n1 at *
    generalize hn2 : nmB x.to_ L = n2' at *
    cases n1 with
    | false =>
      have Z := hideP (HD1.out.trans (FN.out (.inr rfl)))
      clear FN FY HD1 hn1 hn2
      go_wp2_with (refine wpList_store_all rfl 36 _ _ rfl (w.heap.size + 1) 4 _ 36 (fv nof) rfl rfl S1 rfl rfl iF rfl ?_; intro w7 H7 b7)
      exact bodyPost_ret (results_c1 rfl rfl H7 Tryz.underlying36 rfl iF) rfl ⟨FactAns.no Z.out, B6.trans (b7.lower (by omega) B6.size)⟩
    | true =>
      cases n2' with
      | false =>
        have Z := hideP (HD1.out.trans (FN.out (.inl rfl)))
        clear FN FY HD1 hn1 hn2
        go_wp2_with (refine wpList_store_all rfl 36 _ _ rfl (w.heap.size + 1) 4 _ 36 (fv nof) rfl rfl S1 rfl rfl iF rfl ?_; intro w7 H7 b7)
        exact bodyPost_ret (results_c1 rfl rfl H7 Tryz.underlying36 rfl iF) rfl ⟨FactAns.no Z.out, B6.trans (b7.lower (by omega) B6.size)⟩
      | true =>
        have Z := HD1.out.trans (FY.out rfl rfl)
        clear FN FY HD1 hn1 hn2
        rcases vals_two hks with ⟨u1, u2⟩ | ⟨u1, u2⟩
        · rw [u1] at Z
          have Z2 := hideP Z
          rw [u2]
          clear u1 u2 Z hks
          go_wp2_with (refine wpList_store_all rfl 36 _ _ rfl (w.heap.size + 1) 4 _ 36 (fv nof) rfl rfl S1 rfl rfl iF rfl ?_; intro w7 H7 b7)
          exact bodyPost_ret (results_c1 rfl rfl H7 Tryz.underlying36 rfl iF) rfl ⟨FactAns.no Z2.out, B6.trans (b7.lower (by omega) B6.size)⟩
        · rw [u1] at Z
          have Z2 := hideP Z
          rw [u2]
          clear u1 u2 Z hks
          generalize nmS x.home L = s1 at *
          generalize nmS x.to_ L = s2 at *
          go_wp2_with (refine wpList_store_all rfl 36 _ _ rfl (w.heap.size + 1) 4 _ 36 (fv ⟨s2, s1, x.pred, u6, c6, ks⟩) rfl rfl S1 rfl rfl iF rfl ?_; intro w7 H7 b7)
          exact bodyPost_ret (results_c1 rfl rfl H7 Tryz.underlying36 rfl iF) rfl ⟨⟨⟨s2, s1, x.pred, u6, c6, ks⟩, by rw [Z2.out]; rfl, R6.safe (Safe.but b7 S1 (by decide)), by rw [Z2.out]; rfl⟩, B6.trans (b7.lower (by omega) B6.size)⟩
end Go.Proofs.YtdehimbfcilhpaaGreatDoor
