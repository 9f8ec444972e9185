/-
  ModelFixed: the walk.
-/
import Derived.Test.YtdehimbfcilhpaaGreatDoorQQb
namespace Go.Proofs.YtdehimbfcilhpaaGreatDoor
open Go.RowKit Go.Lib Go.Shelf

set_option maxRecDepth 100000 in
set_option maxHeartbeats 4000000 in
theorem modelFixed_walk (ha : Option Addr) (hc : Nat) (hs : List (List UInt8)) (na : Option Addr) (nc : Nat) (ns : List (List UInt8)) (ra : Option Addr) (rc : Nat) (rs : List Rv) (fa : Option Addr) (fc : Nat) (zs : List Fv) (ga : Option Addr) (gc : Nat) (xs : List Fv) (W : World) (hL : Laid W) (h : CsB W ha hc hs na nc ns ra rc rs fa fc zs) (h2 : FsB W ga gc xs) :
    Calls Tryz.prog 5 #[caseV ha hc hs na nc ns ra rc rs fa fc zs, .slice ga xs.length gc] W fun e w' => e = .returned (.bool true) ∧ Below W.heap.size W w' := by
  have A0 := below_alloc W (.cells #[.slice ha hs.length hc, .slice na ns.length nc, .slice ra rs.length rc, .slice fa zs.length fc] 26)
  have C0 : CsW W W.heap.size ha hc hs na nc ns ra rc rs fa fc zs (W.alloc (.cells #[.slice ha hs.length hc, .slice na ns.length nc, .slice ra rs.length rc, .slice fa zs.length fc] 26)) := ⟨heap_alloc_new W _, A0⟩
  have TLt := hideP (light12_at ha hc hs na nc ns ra rc rs fa fc zs (W.alloc (.cells #[.slice ha hs.length hc, .slice na ns.length nc, .slice ra rs.length rc, .slice fa zs.length fc] 26)) (h.rules.at_.below A0) (fun r hr => (h.rules.each r hr).tx) (h.facts.lies.below A0 (Nat.le_refl _)) (fun z hz => (h.facts.at_ z hz).below A0 (Nat.le_refl _)) (fun z hz => (h.facts.each z hz).tx))
  have TV := hideP (fun w (b : Below W.heap.size W w) => live12_at w (hL.below b))
  have iC : (Tryz.prog.info? 26).map (·.size) = some 4 := by kernel_rfl
  have H := hideP h
  have H2 := hideP h2
  have HL := hideP hL
  clear h h2 hL
  go_enter Tryz.func5, Tryz.ntmps5
  go_wp2_with fail
  refine TLt.out.mono ?_
  rintro e w1 ⟨⟨q, rfl, hq⟩, B1⟩
  have C1 := C0.next B1
  clear TLt C0 A0 B1
  cases q with
  | false =>
    clear hq
    go_wp2_with fail
    refine (TV.out w1 C1.below).mono ?_
    rintro e w9 ⟨rfl, B9⟩
    go_wp2_with fail
    go_ret
    exact ⟨rfl, C1.below.trans (B9.mono C1.below.size)⟩
  | true =>
    have LI := hq rfl
    have HLI := hideP LI
    clear hq LI
    have TWt := hideP (weightF_at 60 (by omega) (by omega) ga gc xs w1 (H2.out.lies.below C1.below (Nat.le_refl _)) (fun z hz => (H2.out.at_ z hz).below C1.below (Nat.le_refl _)) (fun z hz => (H2.out.each z hz).tx))
    go_wp2_with fail
    refine TWt.out.mono ?_
    rintro e w2 ⟨⟨r, rfl, hr⟩, b2⟩
    have C2 := C1.next b2.below
    clear TWt b2
    by_cases hr6 : r ≤ 60
    rotate_left
    · have q6 : (60 : Int) < r := by omega
      clear hr
      go_wp2_with fail
      refine (TV.out w2 C2.below).mono ?_
      rintro e w9 ⟨rfl, B9⟩
      go_wp2_with fail
      go_ret
      exact ⟨rfl, C2.below.trans (B9.mono C2.below.size)⟩
    have xl := (hr hr6).1
    have q6 : ¬ (60 : Int) < r := by omega
    have HXL := hideP xl
    clear hr hr6 xl
    obtain ⟨g0, g1, g2, g3⟩ := C2.cells
    have N3 := heap_alloc_new w2 (.cells #[.slice none 0 0, .slice none 0 0, .slice none 0 0, .slice none 0 0] 26)
    have fewz := H.out.facts.lies.few
    have zl := HLI.out.facts
    go_upto_region 4 with (refine wpList_store_all rfl 26 _ _ rfl w2.heap.size 4 _ 26 [.slice ha hs.length hc, .slice na ns.length nc, .slice ra rs.length rc, .slice fa zs.length fc] rfl rfl N3 rfl rfl iC rfl ?_; intro w3 K3 d3; have B3 := below_tok d3)
    have C3 := C2.next B3
    have s3 : W.heap.size < w2.heap.size := heap_lt C2.box
    have A4 := below_alloc w3 (.cells #[] 36)
    have O4 := ownsF_empty w3
    have C4 := C3.next A4
    have K4 := below_heap A4 K3
    have f3 := C4.cells.2.2.2
    have S4 : w3.heap.size ≤ (w3.alloc (.cells #[] 36)).heap.size := A4.size
    have L4 := H.out.facts.lies.below C4.below (Nat.le_refl _)
    clear N3 d3 g0 g1 g2 g3
    go_upto_region 5 with (first
      | (at_builtin; refine wpList_append_fs _ rfl _ _ rfl w3.heap.size (.slice (some ⟨w3.heap.size, 0, none⟩) 0 0) [] zs fa fc rfl O4 rfl L4 S4 (by simpa using fewz) ?_; intro v5 w5 o5 g5; have B5 : Below w3.heap.size w3 w5 := (A4.trans ((Below.refl _ _).grown g5 S4 (fun k hk => (by cases hk; exact Nat.le_refl _)))); have C5 := C3.next B5; have K5 := below_heap B5 K3; have L5 := H2.out.lies.below C5.below (Nat.le_refl _); have o5' : w5.ownsRow w3.heap.size 36 4 v5 zs.length (fcells zs) := (by simpa using o5))
      | (at_builtin; refine wpList_append_fs _ rfl _ _ rfl w3.heap.size v5 zs xs ga gc rfl o5' rfl L5 B5.size (by have := HXL.out; omega) ?_; intro v6 w6 o6 g6; have bw6 := own_below o5' g6 B5.size; have B6 := B5.trans bw6; have C6 := C3.next B6; have K6 := below_heap B6 K3; obtain ⟨a6, c6, rfl, OF6⟩ := own_facts o6 (by have := HXL.out; rw [List.length_append]; omega); generalize hzx : zs ++ xs = zx at *)
      | (refine wpList_store_cel rfl 24 _ _ rfl w2.heap.size 3 4 26 (.slice a6 zx.length c6) #[.slice ha hs.length hc, .slice na ns.length nc, .slice ra rs.length rc, .slice a6 zx.length c6] rfl rfl K6 rfl (by decide) (by kernel_rfl) rfl rfl ?_; intro w7 K7 t7; have C7 := C6.but t7 (Nat.le_of_lt s3) (by omega); have L7 := OF6.butLies t7 (heap_lt K3); obtain ⟨k0, k1, k2, k3⟩ := C7.cells))
    clear o5 o5' g5 g6 o6 OF6 t7 bw6 B6 B5 C6 C5 C4 K6 K5 K4 L4 L5 A4 O4 S4 f3 K3 B3
    have AT : Hid (∀ z ∈ zx, Fv.At W z) := by
      rw [← hzx]
      exact fun z hz => (List.mem_append.1 hz).elim (H.out.facts.at_ z) (H2.out.at_ z)
    have SUB : Hid (∀ x ∈ zs.map Fv.f, x ∈ zx.map Fv.f) := by
      rw [← hzx, List.map_append]
      exact fun x hx => List.mem_append_left _ hx
    have HL7 := hideP L7
    clear hzx L7
    have TR := hideP (least12_at ha hc hs na nc ns ra rc rs fa fc zs w7 ⟨H.out.rules.at_.below C7.below, fun r hr => (H.out.rules.each r hr).smr (HLI.out.rule r hr), H.out.homes.row.below C7.below (Nat.le_refl _), H.out.names.row.below C7.below (Nat.le_refl _), HLI.out.most⟩ (H.out.facts.lies.below C7.below (Nat.le_refl _)) (fun z hz => (H.out.facts.at_ z hz).below C7.below (Nat.le_refl _)))
    go_wp2_with fail
    refine TR.out.mono ?_
    rintro e w8 ⟨⟨a, m, us, q8, rfl, L8, E8, HL8⟩, B8⟩
    have C8 := C7.next B8
    have K8 := below_heap B8 K7
    clear k0 k1 k2 k3 TR
    have k0 : w8.cell? ⟨w2.heap.size, 0, none⟩ = some (.slice ha hs.length hc) := by rw [heap_cell K8]; rfl
    have k1 : w8.cell? ⟨w2.heap.size, 1, none⟩ = some (.slice na ns.length nc) := by rw [heap_cell K8]; rfl
    have k2 : w8.cell? ⟨w2.heap.size, 2, none⟩ = some (.slice ra rs.length rc) := by rw [heap_cell K8]; rfl
    have k3 : w8.cell? ⟨w2.heap.size, 3, none⟩ = some (.slice a6 zx.length c6) := by rw [heap_cell K8]; rfl
    have TR2 := hideP (least12_at ha hc hs na nc ns ra rc rs a6 c6 zx w8 ⟨H.out.rules.at_.below C8.below, fun r hr => (H.out.rules.each r hr).smr (HLI.out.rule r hr), H.out.homes.row.below C8.below (Nat.le_refl _), H.out.names.row.below C8.below (Nat.le_refl _), HLI.out.most⟩ (HL7.out.below B8 (Nat.le_refl _)) (fun z hz => (AT.out z hz).below C8.below (Nat.le_refl _)))
    clear K7 C7 B8
    go_wp2_with fail
    refine TR2.out.mono ?_
    rintro e w9 ⟨⟨a2, m2, us2, q9, rfl, L9, E9, HL9⟩, B9⟩
    have C9 := C8.next B9
    clear k0 k1 k2 k3 TR2
    cases q8 with
    | false =>
      clear HL8 HL9
      go_wp2_with fail
      refine (TV.out w9 C9.below).mono ?_
      rintro e w9 ⟨rfl, B9⟩
      go_wp2_with fail
      go_ret
      exact ⟨rfl, C9.below.trans (B9.mono C9.below.size)⟩
    | true =>
      cases q9 with
      | false =>
        clear HL8 HL9
        go_wp2_with fail
        refine (TV.out w9 C9.below).mono ?_
        rintro e w9 ⟨rfl, B9⟩
        go_wp2_with fail
        go_ret
        exact ⟨rfl, C9.below.trans (B9.mono C9.below.size)⟩
      | true =>
        have LF := hideP (HL8 rfl)
        have LF2 := hideP (HL9 rfl)
        have A2 := hideP (E9.at_ B9)
        have HL2 := hideP L9
        clear HL8 HL9 E9 L9 E8 L8 K8 C8 B9
        have GD := (Below.refl w9.heap.size w9).drew
        have HK : Hid (∀ X, Below w9.heap.size w9 X → (X.cell? ⟨W.heap.size, 0, none⟩ = some (.slice ha hs.length hc) ∧ X.cell? ⟨W.heap.size, 1, none⟩ = some (.slice na ns.length nc) ∧ X.cell? ⟨W.heap.size, 2, none⟩ = some (.slice ra rs.length rc) ∧ X.cell? ⟨W.heap.size, 3, none⟩ = some (.slice fa zs.length fc))) := fun X hb => (C9.next hb).cells
        have TW := hideP (fun X => world_at ha hc hs na nc ns ra rc rs fa fc zs X)
        have TM := hideP (fun X (hb : Below w9.heap.size w9 X) => mleast_at ra rc rs ha hc hs na nc ns fa fc zs (some (us.map Fv.f)) X ((H.out.lin HL.out HLI.out.rule).below (C9.next hb).below) (H.out.facts.lies.below (C9.next hb).below (Nat.le_refl _)) (fun z hz => (H.out.facts.at_ z hz).below (C9.next hb).below (Nat.le_refl _)) (fun z hz => (H.out.facts.each z hz).sm) LF.out)
        go_wp2_with fail
        go_region_held3 (fun X => X.cell? ⟨W.heap.size, 0, none⟩ = some (.slice ha hs.length hc) ∧ X.cell? ⟨W.heap.size, 1, none⟩ = some (.slice na ns.length nc) ∧ X.cell? ⟨W.heap.size, 2, none⟩ = some (.slice ra rs.length rc) ∧ X.cell? ⟨W.heap.size, 3, none⟩ = some (.slice fa zs.length fc)) (first | with_reducible exact HK.out _ GD | with_reducible exact HK.out _ G4 | with_reducible exact HK.out _ G5) (first
          | (go_at_call 16; refine (TW.out _).mono ?_; rintro e4 w10 ⟨rfl, b4⟩; have G4 := Below.then GD b4)
          | (go_at_call 19; refine (TM.out _ G4).mono ?_; rintro e5 w11 ⟨⟨ys, a5, c5, rfl, FA5, hy⟩, b5⟩; have G5 := Below.then G4 b5))
        have C5 := C9.next G5
        have HY : Hid (ys.map Fv.f = us.map Fv.f) := hy
        have HFA := hideP FA5
        have HL5 := hideP (HL2.out.below G5 (Nat.le_refl _))
        have A5 := hideP (fun z hz => (A2.out z hz).below G5 (Nat.le_refl _))
        have SMZ : Hid (∀ x ∈ zs.map Fv.f, SmF x) := fun x hx => by
          obtain ⟨z, hz, rfl⟩ := List.mem_map.1 hx
          exact (H.out.facts.each z hz).sm
        have LIN := hideP ((H.out.lin HL.out HLI.out.rule).below C5.below)
        have M1 : Hid (minusF (zs.map Fv.f) (ys.map Fv.f) = []) := by rw [HY.out]; exact fixed_base LF.out
        have M2 : Hid (minusF (ys.map Fv.f) (us2.map Fv.f) = []) := by rw [HY.out]; exact fixed_grows LF.out LF2.out (fun _ h => h) SUB.out
        have CL1 : Hid (Ml.closedB ⟨hs, ns⟩ (rs.map Rv.r) (ys.map Fv.f) = true) := by rw [HY.out]; exact fixed_closed LF.out
        have CIN := hideP (fun X (hb : Below w11.heap.size w11 X) => (LIN.out.below hb).cin (zs := ys) (by rw [HY.out]; exact lst_small LF.out LIN.out.smh LIN.out.hl SMZ.out) (by have l1 := (LF.out.last (sortF_SS _)).2.2; have l2 := congrArg List.length HY.out; simp only [List.length_map] at l1 l2; omega) (by rw [HY.out]; exact lstF_few2 LF.out))
        clear TW TM HK GD b4 b5 hy FA5
        have er0 : errOf (some (us.map Fv.f)) = 0 := rfl
        rw [er0]
        clear er0
        have GD := (Below.refl w11.heap.size w11).drew
        have HK : Hid (∀ X, Below w11.heap.size w11 X → (X.cell? ⟨W.heap.size, 0, none⟩ = some (.slice ha hs.length hc) ∧ X.cell? ⟨W.heap.size, 1, none⟩ = some (.slice na ns.length nc) ∧ X.cell? ⟨W.heap.size, 2, none⟩ = some (.slice ra rs.length rc) ∧ X.cell? ⟨W.heap.size, 3, none⟩ = some (.slice fa zs.length fc))) := fun X hb => (C5.next hb).cells
        have TW := hideP (fun X => world_at ha hc hs na nc ns ra rc rs fa fc zs X)
        have TM1 := hideP (fun X (hb : Below w11.heap.size w11 X) => minus_at fa a5 fc c5 zs ys X (H.out.facts.lies.below (C5.next hb).below (Nat.le_refl _)) (HFA.out.lies.below hb (Nat.le_refl _)) (fun z hz => (H.out.facts.at_ z hz).below (C5.next hb).below (Nat.le_refl _)) (fun z hz => row_args ((HFA.out.below hb).each z hz).row))
        have TM2 := hideP (fun X (hb : Below w11.heap.size w11 X) => minus_at a5 a2 c5 m2 ys us2 X (HFA.out.lies.below hb (Nat.le_refl _)) (HL5.out.below hb (Nat.le_refl _)) (fun z hz => row_args ((HFA.out.below hb).each z hz).row) (fun z hz => (A5.out z hz).below hb (Nat.le_refl _)))
        have TC := hideP (fun X (hb : Below w11.heap.size w11 X) => by
          have t := mclosed2_at ra rc rs ha hc hs na nc ns a5 c5 ys X (CIN.out X hb) (HFA.out.lies.below hb (Nat.le_refl _)) (fun z hz => row_args ((HFA.out.below hb).each z hz).row)
          rw [CL1.out] at t
          exact t)
        go_wp2_with fail
        go_region_held3 (fun X => X.cell? ⟨W.heap.size, 0, none⟩ = some (.slice ha hs.length hc) ∧ X.cell? ⟨W.heap.size, 1, none⟩ = some (.slice na ns.length nc) ∧ X.cell? ⟨W.heap.size, 2, none⟩ = some (.slice ra rs.length rc) ∧ X.cell? ⟨W.heap.size, 3, none⟩ = some (.slice fa zs.length fc)) (first | with_reducible exact HK.out _ GD | with_reducible exact HK.out _ G6 | with_reducible exact HK.out _ G7 | with_reducible exact HK.out _ G8 | with_reducible exact HK.out _ G9) (first
          | (go_at_call_of 22 (Value.slice fa zs.length fc); refine (TM1.out _ GD).mono ?_; rintro e6 w12 ⟨p6, k6, ms, rfl, -, -, hm, b6⟩; have hm0 := map_nil (hm.trans M1.out); clear hm; subst hm0; have G6 := Below.then GD b6)
          | (go_at_call 16; refine (TW.out _).mono ?_; rintro e7 w13 ⟨rfl, b7⟩; have G7 := Below.then G6 b7)
          | (go_at_call 17; refine (TC.out _ G7).mono ?_; rintro e8 w14 ⟨rfl, b8⟩; have G8 := Below.then G7 b8)
          | (go_at_call_of 22 (Value.slice a2 us2.length m2); refine (TM2.out _ G8).mono ?_; rintro e9 w15 ⟨p9, k9, mt, rfl, -, -, hn, b9⟩; have hn0 := map_nil (hn.trans M2.out); clear hn; subst hn0; have G9 := Below.then G8 b9))
        have C9b := C5.next G9
        clear TM1 TM2 TC TW HK GD b6 b7 b8 b9 G6 G7 G8 CIN CL1 M1 M2
        have CIN2 := hideP (fun X (hb : Below w15.heap.size w15 X) => ((H.out.lin HL.out HLI.out.rule).below (C9b.next hb).below).cin (zs := zs) SMZ.out (by have := HLI.out.facts; omega) (lstF_few LF.out))
        have TW := hideP (fun X => world_at ha hc hs na nc ns ra rc rs fa fc zs X)
        have GD := (Below.refl w15.heap.size w15).drew
        have HK : Hid (∀ X, Below w15.heap.size w15 X → (X.cell? ⟨W.heap.size, 0, none⟩ = some (.slice ha hs.length hc) ∧ X.cell? ⟨W.heap.size, 1, none⟩ = some (.slice na ns.length nc) ∧ X.cell? ⟨W.heap.size, 2, none⟩ = some (.slice ra rs.length rc) ∧ X.cell? ⟨W.heap.size, 3, none⟩ = some (.slice fa zs.length fc))) := fun X hb => (C9b.next hb).cells
        have TC := hideP (fun X (hb : Below w15.heap.size w15 X) => mclosed2_at ra rc rs ha hc hs na nc ns fa fc zs X (CIN2.out X hb) (H.out.facts.lies.below (C9b.next hb).below (Nat.le_refl _)) (fun z hz => (H.out.facts.at_ z hz).below (C9b.next hb).below (Nat.le_refl _)))
        cases hcl : Ml.closedB ⟨hs, ns⟩ (rs.map Rv.r) (zs.map Fv.f) with
        | false =>
          have TC := hideP (fun X (hb : Below w15.heap.size w15 X) => by
            have t := TC.out X hb
            rw [hcl] at t
            exact t)
          clear hcl
          have q0 := fun p : BelowBy w15 => (HK.out p.w p.h).1
          have q1 := fun p : BelowBy w15 => (HK.out p.w p.h).2.1
          have q2 := fun p : BelowBy w15 => (HK.out p.w p.h).2.2.1
          have q3 := fun p : BelowBy w15 => (HK.out p.w p.h).2.2.2
          go_wp2_with fail
          haveI : Inhabited (BelowBy w15) := ⟨⟨w15, Below.refl _ _⟩⟩
          refine wp_region_quiet_below (by kernel_rfl) (by kernel_rfl) ?_
          repeat (quiet_step (first
            | (go_at_call 16; refine Calls.below_of (TW.out _))
            | (go_at_call 17; refine Calls.below_of (TC.out _ (BelowBy.h _)))))
          refine wpQuiet_nil ?_
          intro w17 hw'
          have G8 : Below w15.heap.size w15 w17 := by
            obtain ⟨p17, hp⟩ := hw'
            rw [hp]
            exact p17.h
          clear hw'
          clear q0 q1 q2 q3
          have C17 := C9b.next G8
          go_wp2_with fail
          refine (TV.out w17 C17.below).mono ?_
          rintro e w9 ⟨rfl, B9⟩
          go_wp2_with fail
          go_ret
          exact ⟨rfl, C17.below.trans (B9.mono C17.below.size)⟩
        | true =>
          have SM := hideP (fixed_same LF.out hcl)
          have HCL := hideP hcl
          have TC := hideP (fun X (hb : Below w15.heap.size w15 X) => by
            have t := TC.out X hb
            rw [HCL.out] at t
            exact t)
          have TS := hideP (fun X (hb : Below w15.heap.size w15 X) => by
            have t := sameF_at a5 fa c5 fc ys zs X (HFA.out.lies.below (Below.then G9 hb) (Nat.le_refl _)) (H.out.facts.lies.below (C9b.next hb).below (Nat.le_refl _)) (fun z hz => row_args ((HFA.out.below (Below.then G9 hb)).each z hz).row) (fun z hz => (H.out.facts.at_ z hz).below (C9b.next hb).below (Nat.le_refl _))
            rw [HY.out, SM.out] at t
            exact t)
          clear hcl
          go_wp2_with fail
          go_region_held3 (fun X => X.cell? ⟨W.heap.size, 0, none⟩ = some (.slice ha hs.length hc) ∧ X.cell? ⟨W.heap.size, 1, none⟩ = some (.slice na ns.length nc) ∧ X.cell? ⟨W.heap.size, 2, none⟩ = some (.slice ra rs.length rc) ∧ X.cell? ⟨W.heap.size, 3, none⟩ = some (.slice fa zs.length fc)) (first | with_reducible exact HK.out _ GD | with_reducible exact HK.out _ G7 | with_reducible exact HK.out _ G8 | with_reducible exact HK.out _ G10) (first
            | (go_at_call 16; refine (TW.out _).mono ?_; rintro e7 w16 ⟨rfl, b7⟩; have G7 := Below.then GD b7)
            | (go_at_call 17; refine (TC.out _ G7).mono ?_; rintro e8 w17 ⟨rfl, b8⟩; have G8 := Below.then G7 b8)
            | (go_at_call 23; refine (TS.out _ G8).mono ?_; rintro e9 w18 ⟨rfl, b9⟩; have G10 := Below.then G8 b9))
          have C18 := C9b.next G10
          go_wp2_with fail
          refine (TV.out w18 C18.below).mono ?_
          rintro e w9 ⟨rfl, B9⟩
          go_wp2_with fail
          go_ret
          exact ⟨rfl, C18.below.trans (B9.mono C18.below.size)⟩
end Go.Proofs.YtdehimbfcilhpaaGreatDoor
