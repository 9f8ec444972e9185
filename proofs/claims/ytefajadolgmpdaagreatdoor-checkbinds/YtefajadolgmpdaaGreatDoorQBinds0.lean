/-
  CheckBinds: its walk.
-/
import Derived.Test.YtefajadolgmpdaaGreatDoorQLv0
import Derived.Test.YtefajadolgmpdaaGreatDoorQRb
import Derived.Test.YtefajadolgmpdaaGreatDoorQOp0
namespace Go.Proofs.YtefajadolgmpdaaGreatDoor
open Go.RowKit Go.Lib Go.Shelf

set_option maxRecDepth 100000 in
set_option maxHeartbeats 2000000 in
theorem checkBinds_walk (a : Option Addr) (c : Nat) (xs : List Rv) (w : World) (hL : Laid w) (hx : Row rK w a c xs) (ax : ∀ x ∈ xs, Rv.Aw w x) (nx : ∀ x ∈ xs, Sh.RIn x.r ∧ TxR x ∧ TxV x.r) :
    Calls Tryz.prog 8 #[.slice a xs.length c] w fun e w' => e = .returned (.bool true) ∧ Below w.heap.size w w' := by
  have LV := hideP live10_at
  have rw0 : Rws w a c xs := ⟨hx, ax⟩
  have hin : ∀ x ∈ xs, Sh.RIn x.r := fun x h => (nx x h).1
  have few := hx.few
  go_enter Tryz.func8, Tryz.ntmps8
  go_wp2_with fail
  refine (rweight_few a c xs w hx ax (fun x h => (nx x h).2.1)).mono ?_
  rintro e w1 ⟨⟨r, rfl, hfew⟩, g1⟩
  have B1 : Below w.heap.size w w1 := g1.below
  clear hfew g1
  by_cases hr : r > 300
  · go_wp2_with fail
    refine (LV.out _ (hL.below B1)).mono ?_
    rintro e w2 ⟨rfl, b2⟩
    go_wp2_with fail
    go_ret
    exact ⟨rfl, Below.then B1 b2⟩
  have T1 := hideP (checkProg_at a c xs w1 (hL.below B1) (rw0.below B1) hin)
  have PS : Hid ((Ck.prog (xs.map Rv.r)).1 = 0 → ∀ x ∈ xs, Ck.Well x.r) := fun h x hx => (Ck.prog_ok h).2.1 x.r (List.mem_map_of_mem hx)
  generalize Ck.prog (xs.map Rv.r) = p at *
  obtain ⟨p1, p2, p3⟩ := p
  simp only [ansV] at T1 PS
  go_wp2_with fail
  refine T1.out.mono ?_
  rintro e w2 ⟨rfl, b2⟩
  have B2 := Below.then B1 b2
  clear T1 b2 B1
  by_cases hp : p1 = 0
  · subst hp
    have PS' := hideP (PS.out rfl)
    clear PS
    go_wp2_with fail
    go_loopw [6, 7, 8, 9, 10, 11, 12, 13] (fun v6 _ _ _ _ _ _ _ wr => ∃ j : Nat, v6 = .int .i64 (j : Int) ∧ j ≤ xs.length ∧ Below w.heap.size w wr) (fun v6 _ _ _ _ _ _ _ _ => xs.length - (RowKit.intOf v6).toNat)
    case atStart => exact ⟨0, rfl, Nat.zero_le _, B2⟩
    case round =>
      obtain ⟨j, rfl, hj, B⟩ := hrel
      by_cases hlt : j < xs.length
      · have q2 : (j : Int) < (xs.length : Int) := by omega
        obtain ⟨P1, O1, rfl⟩ := hx.addr (Nat.lt_of_le_of_lt (Nat.zero_le _) hlt)
        have RR := hideP (fun W (h : Below w.heap.size w W) => (show W.rangeAt P1 (O1 + j * 11) (rv (xs[j]'hlt)) from (hx.below h (Nat.le_refl _)).range j hlt))
        have aY := ax _ (List.getElem_mem hlt)
        have hW := hideP (PS'.out _ (List.getElem_mem hlt))
        generalize (xs[j]'hlt) = y at *
        have hv := hideP (Ck.shown hW.out.shape).ok
        have AW := hideP (fun W (h : Below w.heap.size w W) => aY.below h (Nat.le_refl _))
        have iP : (Tryz.prog.info? 42).map (·.size) = some (rv y).length := Tryz.iR11
        have C10 := hideP (fun W (h : Below w.heap.size w W) => (show W.cell? ⟨P1, O1 + j * 11 + 10, none⟩ = some (.slice y.ba y.body.length y.bcap) from RR.out W h 10 _ rfl))
        have C5 := hideP (fun W (h : Below w.heap.size w W) => (show W.cell? ⟨P1, O1 + j * 11 + 5, none⟩ = some (.slice y.a y.args.length y.cap) from RR.out W h 5 _ rfl))
        have fb := aY.body.few
        have fa := aY.args.few
        have hrl : y.r.body.length = y.body.length := List.length_map ..
        have r0 := RR.out wr B
        go_wp2_with (refine wpList_load_mid rfl 42 _ rfl P1 (O1 + j * 11) rfl (rv y) _ r0 Tryz.underlying42 rfl iP ?_)
        refine (vars_at y wr (AW.out wr B) hv.out).mono ?_
        rintro e w3 ⟨⟨a7, c7, rfl, R7⟩, b3⟩
        have B3 := B.trans (b3.mono B.size)
        clear r0 b3
        go_wp2_with fail
        go_loopw [8, 9, 10, 11] (fun v8 _ _ _ wi => ∃ k : Nat, v8 = .int .i64 (k : Int) ∧ k ≤ y.body.length ∧ Below w.heap.size w wi ∧ Row sK wi a7 c7 (Ck.vars y.r)) (fun v8 _ _ _ _ => y.body.length - (RowKit.intOf v8).toNat)
        case atStart => exact ⟨0, rfl, Nat.zero_le _, B3, R7⟩
        case round =>
          obtain ⟨k, rfl, hk, B4, R4⟩ := hrel
          have c10 := C10.out wr B4
          by_cases hkl : k < y.body.length
          · have q3 : (k : Int) < (y.body.length : Int) := by omega
            have hkr : k < y.r.body.length := by omega
            have hyr : y.r.body[k] = (y.body[k]'hkl).l := by simp [Rv.r]
            obtain ⟨P2, O2, hP2⟩ := aY.body.addr (Nat.lt_of_le_of_lt (Nat.zero_le _) hkl)
            have CC := hideP (fun W (h : Below w.heap.size w W) => (show W.cell? ⟨P1, O1 + j * 11 + 10, none⟩ = some (.slice (some ⟨P2, O2, none⟩) y.body.length y.bcap) ∧ W.cell? ⟨P2, O2 + k * 10 + 6, none⟩ = some (str (y.body[k]'hkl).at_.v) by
              have h1 := C10.out W h
              have h2 := (AW.out W h).body
              rw [hP2] at h1 h2
              exact ⟨h1, (lit_in (h2.range k hkl)).2.2.2.2⟩))
            obtain ⟨m, hm⟩ := Ck.bnd_pre (r := y.r) hkr
            have WA := hideP (Ck.well_at hW.out hkr)
            rw [hyr] at WA
            have WA' : Hid ((y.body[k]'hkl).at_.v ≠ [] → (y.body[k]'hkl).at_.v ∈ Ck.bnd y.r k) := WA.out
            generalize (y.body[k]'hkl).at_.v = v at *
            have T5 := hideP (fun W (h : Below w.heap.size w W) => bound_at y (k : Int) W (AW.out W h) hv.out)
            have T6 := hideP (fun W (h : Below w.heap.size w W) => bound_at y ((k : Int) + 1) W (AW.out W h) hv.out)
            have hf := Ck.bnd_all_len hv.out k
            have hf1 := Ck.bnd_all_len hv.out (k + 1)
            rw [Int.toNat_natCast] at T5
            rw [show ((k : Int) + 1).toNat = k + 1 by omega] at T6
            rw [hm] at T6 hf1
            generalize Ck.bnd y.r k = N at *
            have hNM : N.length ≤ (N ++ m).length := by simp
            have htk : (N ++ m).take N.length = N := by simp
            have HTK := hideP htk
            generalize N ++ m = M at *
            have HNM := hideP hNM
            have q4 : ¬ (N.length : Int) > (M.length : Int) := by omega
            clear hm htk hyr WA
            rw [hP2] at c10
            have r4 := RR.out wr B4
            go_upto_region 14 with (first
              | (refine wpList_load_mid rfl 42 _ rfl P1 (O1 + j * 11) rfl (rv y) _ r4 Tryz.underlying42 rfl iP ?_)
              | (go_at_call 19; refine (T5.out wr B4).mono ?_; rintro e w5 ⟨⟨a5, c5, rfl, R5⟩, b5⟩))
            have B5 := B4.trans (b5.mono B4.size)
            have r5 := RR.out w5 B5
            go_upto_region 15 with (first
              | (refine wpList_load_mid rfl 42 _ rfl P1 (O1 + j * 11) rfl (rv y) _ r5 Tryz.underlying42 rfl iP ?_)
              | (go_at_call 19; refine (T6.out w5 B5).mono ?_; rintro e w6 ⟨⟨a6, c6, rfl, R6⟩, b6⟩))
            have B6 := B5.trans (b6.mono B5.size)
            have R5' := R5.below b6 (Nat.le_refl _)
            have d6 := (CC.out w6 B6).1
            have v6 := (CC.out w6 B6).2
            have hroom := R6.room
            have HS := fun W => slice_hi 44 1 W a6 M.length c6 N.length (by kernel_rfl) (by kernel_rfl) (by omega)
            have R6' : Row sK w6 a6 c6 N := by
              have := R6.take N.length
              rwa [HTK.out] at this
            have T7 := hideP (texts_at w6 a5 a6 c5 c6 N R5' R6')
            clear r4 r5 T5 T6
            cases hq : v.isEmpty with
            | true =>
              go_wp2_with fail
              refine T7.out.mono ?_
              rintro e w7 ⟨rfl, b7⟩
              go_wp2_with fail
              exact ⟨⟨k + 1, by go_num, by omega, B6.trans (b7.mono B6.size), ((R4.below (Below.then b5 b6) (Nat.le_refl _)).below b7 (Nat.le_refl _))⟩, by simp [RowKit.intOf]; omega⟩
            | false =>
              have hvN : v ∈ N := WA'.out (by intro h; rw [h] at hq; cases hq)
              go_wp2_with fail
              refine T7.out.mono ?_
              rintro e w7 ⟨rfl, b7⟩
              have T8 := hideP (rhas_at w7 a5 c5 N v (R5'.below b7 (Nat.le_refl _)))
              rw [show decide (v ∈ N) = true by simpa using hvN] at T8
              clear hvN
              go_wp2_with fail
              refine T8.out.mono ?_
              rintro e w8 ⟨rfl, hww⟩
              subst hww
              go_wp2_with fail
              exact ⟨⟨k + 1, by go_num, by omega, B6.trans (b7.mono B6.size), ((R4.below (Below.then b5 b6) (Nat.le_refl _)).below b7 (Nat.le_refl _))⟩, by simp [RowKit.intOf]; omega⟩
          · have q3 : ¬ (k : Int) < (y.body.length : Int) := by omega
            go_wp2_with fail
            go_loopw [12, 13] (fun v12 _ wi => ∃ k : Nat, v12 = .int .i64 (k : Int) ∧ k ≤ y.args.length ∧ Below w.heap.size w wi ∧ Row sK wi a7 c7 (Ck.vars y.r)) (fun v12 _ _ => y.args.length - (RowKit.intOf v12).toNat)
            case atStart => exact ⟨0, rfl, Nat.zero_le _, B4, R4⟩
            case round =>
              obtain ⟨i, rfl, hi, B5, R5⟩ := hrel
              have c5 := C5.out wr B5
              by_cases hil : i < y.args.length
              · have q4 : (i : Int) < (y.args.length : Int) := by omega
                obtain ⟨P3, O3, hP3⟩ := aY.args.addr (Nat.lt_of_le_of_lt (Nat.zero_le _) hil)
                have cv : wr.cell? ⟨P3, O3 + i * 4, none⟩ = some (str (y.args[i]'hil).v) := by
                  have h2 := (AW.out wr B5).args
                  rw [hP3] at h2
                  exact h2.range i hil 0 _ rfl
                have WG : Hid ((y.args[i]'hil).v ≠ [] → (y.args[i]'hil).v ∈ Ck.vars y.r) := Ck.well_arg hW.out (List.getElem_mem hil)
                rw [hP3] at c5
                generalize (y.args[i]'hil).v = v at *
                generalize Ck.vars y.r = N at *
                cases hq : v.isEmpty with
                | true =>
                  go_wp2_with fail
                  exact ⟨⟨i + 1, by go_num, by omega, B5, R5⟩, by simp [RowKit.intOf]; omega⟩
                | false =>
                  have hvN : v ∈ N := WG.out (by intro h; rw [h] at hq; cases hq)
                  have T8 := hideP (rhas_at wr a7 c7 N v R5)
                  rw [show decide (v ∈ N) = true by simpa using hvN] at T8
                  clear hvN
                  go_wp2_with fail
                  refine T8.out.mono ?_
                  rintro e w8 ⟨rfl, hww⟩
                  subst hww
                  go_wp2_with fail
                  exact ⟨⟨i + 1, by go_num, by omega, B5, R5⟩, by simp [RowKit.intOf]; omega⟩
              · have q4 : ¬ (i : Int) < (y.args.length : Int) := by omega
                go_wp2_with fail
                exact ⟨⟨j + 1, by go_num, by omega, B5⟩, by simp [RowKit.intOf]; omega⟩
      · have q2 : ¬ (j : Int) < (xs.length : Int) := by omega
        go_wp2_with fail
        refine (LV.out wr (hL.below B)).mono ?_
        rintro e w3 ⟨rfl, b3⟩
        go_wp2_with fail
        go_ret
        exact ⟨rfl, Below.then B b3⟩
  · have q1 : (p1 != 0) = true := by simpa using hp
    clear PS hp
    go_wp2_with fail
    refine (LV.out w2 (hL.below B2)).mono ?_
    rintro e w3 ⟨rfl, b3⟩
    go_wp2_with fail
    go_ret
    exact ⟨rfl, Below.then B2 b3⟩
end Go.Proofs.YtefajadolgmpdaaGreatDoor
