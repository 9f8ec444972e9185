/-
  ModelOnce: the walk.
-/
import Derived.Test.YtdehimbfcilhpaaGreatDoorQFx12
import Derived.Test.YtdehimbfcilhpaaGreatDoorQDc12
namespace Go.Proofs.YtdehimbfcilhpaaGreatDoor
open Go.RowKit Go.Lib Go.Shelf

set_option maxRecDepth 100000 in
set_option maxHeartbeats 4000000 in
theorem modelOnce_walk (ha : Option Addr) (hc : Nat) (hs : List (List UInt8)) (na : Option Addr) (nc : Nat) (ns : List (List UInt8)) (ra : Option Addr) (rc : Nat) (rs : List Rv) (fa : Option Addr) (fc : Nat) (zs : List Fv) (W : World) (hL : Laid W) (h : CsB W ha hc hs na nc ns ra rc rs fa fc zs) :
    Calls Tryz.prog 3 #[caseV ha hc hs na nc ns ra rc rs fa fc zs] W fun e w' => e = .returned (.bool true) ∧ Below W.heap.size W w' := by
  have A0 := below_alloc W (.cells #[.slice ha hs.length hc, .slice na ns.length nc, .slice ra rs.length rc, .slice fa zs.length fc] 26)
  have C0 : CsW W W.heap.size ha hc hs na nc ns ra rc rs fa fc zs (W.alloc (.cells #[.slice ha hs.length hc, .slice na ns.length nc, .slice ra rs.length rc, .slice fa zs.length fc] 26)) := ⟨heap_alloc_new W _, A0⟩
  have TLt := hideP (light12_at ha hc hs na nc ns ra rc rs fa fc zs (W.alloc (.cells #[.slice ha hs.length hc, .slice na ns.length nc, .slice ra rs.length rc, .slice fa zs.length fc] 26)) (h.rules.at_.below A0) (fun r hr => (h.rules.each r hr).tx) (h.facts.lies.below A0 (Nat.le_refl _)) (fun z hz => (h.facts.at_ z hz).below A0 (Nat.le_refl _)) (fun z hz => (h.facts.each z hz).tx))
  have TV := hideP (fun w (b : Below W.heap.size W w) => live12_at w (hL.below b))
  have H := hideP h
  have HL := hideP hL
  clear h hL
  go_enter Tryz.func3, Tryz.ntmps3
  go_wp2_with fail
  refine TLt.out.mono ?_
  rintro e w1 ⟨⟨q, rfl, hq⟩, B1⟩
  have C1 := C0.next B1
  clear TLt C0 A0 B1
  cases q with
  | false =>
    clear hq
    go_wp2_with fail
    refine (TV.out w1 C1.below).mono ?_
    rintro e w9 ⟨rfl, B9⟩
    go_wp2_with fail
    go_ret
    exact ⟨rfl, C1.below.trans (B9.mono C1.below.size)⟩
  | true =>
    have LI := hq rfl
    have HLI := hideP LI
    obtain ⟨g0, g1, g2, g3⟩ := C1.cells
    have s1 : W.heap.size < w1.heap.size := heap_lt C1.box
    have A2 := below_alloc w1 (.cells #[.slice ha hs.length hc, .slice na ns.length nc, .int .i64 0, .bool false] 31)
    have N2 := heap_alloc_new w1 (.cells #[.slice ha hs.length hc, .slice na ns.length nc, .int .i64 0, .bool false] 31)
    have C2 := C1.next A2
    obtain ⟨f0, f1, f2, f3⟩ := C2.cells
    have RI := H.out.rin LI.rule LI.most
    have TR := hideP (ronce_at W w1.heap.size ra rc rs ha hc hs na nc ns fa fc zs ⟨0, false⟩ _ ⟨RI.rules, RI.smr, RI.homes, RI.names, fun X hX => (⟨liesRow H.out.facts.lies, H.out.facts.at_⟩ : Fts W fa fc zs).below (C2.below.trans (hX.lower (by omega) C2.below.size)), by have := LI.facts; omega, RI.most⟩ C2.below (by omega) N2 c0_ok)
    clear hq LI N2 RI
    go_wp2_with fail
    refine TR.out.mono ?_
    rintro e w3 ⟨⟨oa, oc, us, cc, rfl, O3, E3, WQ, R, ul⟩, BT⟩
    have C3 := C2.but BT (by omega) (by omega)
    have d3 : w3.cell? ⟨w1.heap.size, 3, none⟩ = some (.bool cc.heavy) := by rw [heap_cell WQ]; rfl
    clear TR f0 f1 f2 f3 g0 g1 g2 g3 A2 C2 BT WQ
    cases hv : cc.heavy with
    | true =>
      rw [hv] at d3
      clear hv R
      go_wp2_with fail
      refine (TV.out w3 C3.below).mono ?_
      rintro e w9 ⟨rfl, B9⟩
      go_wp2_with fail
      go_ret
      exact ⟨rfl, C3.below.trans (B9.mono C3.below.size)⟩
    | false =>
      rw [hv] at d3
      have hv2 : (Ml.onceR ⟨hs, ns⟩ (rs.map Rv.r) (zs.map Fv.f) ⟨0, false⟩).1.heavy = false := by rw [R]; exact hv
      have HU : Hid (us.map Fv.f = Ml.once ⟨hs, ns⟩ (rs.map Rv.r) (zs.map Fv.f)) := by
        have := (Ml.onceR_light hv2).2
        rw [R] at this
        exact this
      have FW : Hid (Ml.Few ⟨hs, ns⟩ (rs.map Rv.r) (zs.map Fv.f)) := Ml.onceR_fewP c0_ok hv2
      have LU := hideP O3.lies
      have EU := hideP E3
      clear hv hv2 R O3 E3
      go_wp2_with fail
      clear d3
      go_loopw [5, 6] (fun vb vk wi => ∃ (i : Nat) (b : Bool), vb = .bool b ∧ vk = .int .i64 (i : Int) ∧ i ≤ us.length ∧ Hid (b = (us.take i).all fun z => hasF (zs.map Fv.f) z.f) ∧ Below w3.heap.size w3 wi) (fun _ vk _ => us.length - (intOf vk).toNat)
      case atStart => exact ⟨0, true, rfl, rfl, Nat.zero_le _, hideP (by simp), Below.refl _ _⟩
      case round =>
        obtain ⟨i, b, rfl, rfl, hil, hb, Bi⟩ := hrel
        have Ci := C3.next Bi
        by_cases hlt : i < us.length
        · have q1 : (i : Int) < (us.length : Int) := by omega
          obtain ⟨P5, O5, rfl⟩ := LU.out.addr (by omega)
          have hst : Hid ((us.take (i + 1)).all (fun z => hasF (zs.map Fv.f) z.f) = ((us.take i).all (fun z => hasF (zs.map Fv.f) z.f) && hasF (zs.map Fv.f) (us[i]'hlt).f)) := by
            show _ = _
            rw [← List.take_append_getElem hlt, List.all_append]
            simp
          have ZL : Hid (∀ X, Below w3.heap.size w3 X → (X.cell? ⟨P5, O5 + i * 4, none⟩ = some (str (us[i]'hlt).at_) ∧ X.cell? ⟨P5, O5 + i * 4 + 1, none⟩ = some (str (us[i]'hlt).by_) ∧ X.cell? ⟨P5, O5 + i * 4 + 2, none⟩ = some (str (us[i]'hlt).pred) ∧ X.cell? ⟨P5, O5 + i * 4 + 3, none⟩ = some (.slice (us[i]'hlt).a (us[i]'hlt).ks.length (us[i]'hlt).cap))) := fun X hx => (LU.out.below hx (Nat.le_refl _)).get i hlt
          have RZ := hideP (EU.out _ (List.getElem_mem hlt))
          generalize (us[i]'hlt) = z at *
          cases b with
          | false =>
            have HB : Hid (false = (us.take (i + 1)).all fun z => hasF (zs.map Fv.f) z.f) := by show _ = _; rw [hst.out, ← hb.out]; rfl
            clear hb hst
            go_wp2_with fail
            go_quiet (fail)
            go_wp2_with fail
            exact ⟨⟨i + 1, false, rfl, by go_num, by omega, HB, Below.then Bi (Grew.drewN wr nq).below⟩, by simp [intOf]; omega⟩
          | true =>
            have HB : Hid (hasF (zs.map Fv.f) z.f = (us.take (i + 1)).all fun z => hasF (zs.map Fv.f) z.f) := by show _ = _; rw [hst.out, ← hb.out]; rfl
            clear hb hst
            have HK : Hid (∀ X, Below wr.heap.size wr X → (X.cell? ⟨W.heap.size, 3, none⟩ = some (.slice fa zs.length fc) ∧ X.cell? ⟨P5, O5 + i * 4, none⟩ = some (str z.at_) ∧ X.cell? ⟨P5, O5 + i * 4 + 1, none⟩ = some (str z.by_) ∧ X.cell? ⟨P5, O5 + i * 4 + 2, none⟩ = some (str z.pred) ∧ X.cell? ⟨P5, O5 + i * 4 + 3, none⟩ = some (.slice z.a z.ks.length z.cap))) := fun X hx => ⟨(Ci.next hx).cells.2.2.2, ZL.out X (Below.then Bi hx)⟩
            have GD := (Below.refl wr.heap.size wr).drew
            have TH := hideP (fun X (hx : Below wr.heap.size wr X) => refhas_at fa fc zs z X (H.out.facts.lies.below (Ci.next hx).below (Nat.le_refl _)) (fun y hy => (H.out.facts.at_ y hy).below (Ci.next hx).below (Nat.le_refl _)) (row_args (RZ.out.safe (Safe.below (Below.then Bi hx))).row))
            generalize hasF (zs.map Fv.f) z.f = hh at *
            go_wp2_with fail
            go_region_held3 (fun X => X.cell? ⟨W.heap.size, 3, none⟩ = some (.slice fa zs.length fc) ∧ X.cell? ⟨P5, O5 + i * 4, none⟩ = some (str z.at_) ∧ X.cell? ⟨P5, O5 + i * 4 + 1, none⟩ = some (str z.by_) ∧ X.cell? ⟨P5, O5 + i * 4 + 2, none⟩ = some (str z.pred) ∧ X.cell? ⟨P5, O5 + i * 4 + 3, none⟩ = some (.slice z.a z.ks.length z.cap)) (first | with_reducible exact HK.out _ GD | with_reducible exact HK.out _ G6) (first
              | (go_at_call 12; refine (TH.out _ GD).mono ?_; rintro e6 w6 ⟨rfl, b6⟩; have G6 := Below.then GD b6.below))
            have T6 := Below.then Bi G6
            clear TH HK GD b6
            go_wp2_with fail
            exact ⟨⟨i + 1, hh, rfl, by go_num, by omega, HB, T6⟩, by simp [intOf]; omega⟩
        · have q1 : ¬ (i : Int) < (us.length : Int) := by omega
          have HB : Hid (b = Ml.closedB ⟨hs, ns⟩ (rs.map Rv.r) (zs.map Fv.f)) := by
            show _ = _
            rw [hb.out, List.take_of_length_le (by omega)]
            unfold Ml.closedB
            rw [← HU.out, List.all_map]
            rfl
          clear hb
          have TC0 := hideP (rcopy5_at fa fc zs wr (liesRow (H.out.facts.lies.below Ci.below (Nat.le_refl _))) (fun z hz => (H.out.facts.at_ z hz).below Ci.below (Nat.le_refl _)) (by have := HLI.out.facts; omega) (fun z hz => by have := (HLI.out.fact z hz).ks; omega))
          have f3 := Ci.cells.2.2.2
          go_wp2_with fail
          refine TC0.out.mono ?_
          rintro e w7 ⟨⟨a7, c7, gs, rfl, O7, E7, hg⟩, B7⟩
          have C7 := Ci.next B7
          have HG := hideP hg
          have LG := hideP O7.lies
          have EG := hideP E7
          have LU7 := hideP (LU.out.below (Below.then Bi B7) (Nat.le_refl _))
          have EU7 := hideP (EU.out.safe (Safe.below (Below.then Bi B7)))
          have gl : Hid (gs.length = zs.length) := by
            have := congrArg List.length hg
            rw [List.length_map, List.length_map] at this
            exact this
          clear TC0 f3 hg O7 E7 Bi B7
          have LIN := hideP ((H.out.lin HL.out HLI.out.rule).below C7.below)
          have SMG : Hid (∀ x ∈ gs.map Fv.f, SmF x) := by
            rw [HG.out]
            intro x hx
            obtain ⟨z, hz, rfl⟩ := List.mem_map.1 hx
            exact (H.out.facts.each z hz).sm
          have gsl : Hid (gs.length ≤ 1000000) := by have := gl.out; have := HLI.out.facts; show _ ≤ _; omega
          have GD := (Below.refl w7.heap.size w7).drew
          have HK : Hid (∀ X, Below w7.heap.size w7 X → (X.cell? ⟨W.heap.size, 0, none⟩ = some (.slice ha hs.length hc) ∧ X.cell? ⟨W.heap.size, 1, none⟩ = some (.slice na ns.length nc) ∧ X.cell? ⟨W.heap.size, 2, none⟩ = some (.slice ra rs.length rc) ∧ X.cell? ⟨W.heap.size, 3, none⟩ = some (.slice fa zs.length fc))) := fun X hx => (C7.next hx).cells
          have TW := hideP (fun X => world_at ha hc hs na nc ns ra rc rs fa fc zs X)
          have TO := hideP (fun X (hx : Below w7.heap.size w7 X) => monce_at ra rc rs ha hc hs na nc ns a7 c7 gs X ((LIN.out.below hx).ain ⟨liesRow (LG.out.below hx (Nat.le_refl _)), fun z hz => row_args ((EG.out.safe (Safe.below hx)) z hz).row⟩ (fun z hz => SMG.out z.f (List.mem_map_of_mem hz)) gsl.out (by rw [HG.out]; exact FW.out)) HLI.out.most)
          have TC := hideP (fun X (hx : Below w7.heap.size w7 X) => by
            have t := mclosed2_at ra rc rs ha hc hs na nc ns a7 c7 gs X ((LIN.out.below hx).cin SMG.out gsl.out (by rw [HG.out]; exact FW.out.sort)) (LG.out.below hx (Nat.le_refl _)) (fun z hz => row_args ((EG.out.safe (Safe.below hx)) z hz).row)
            rw [HG.out, ← HB.out] at t
            exact t)
          have TK2 := hideP (fun X (hx : Below w7.heap.size w7 X) => by
            have t := like_at a7 fa c7 fc gs zs X (LG.out.below hx (Nat.le_refl _)) (H.out.facts.lies.below (C7.next hx).below (Nat.le_refl _)) (fun z hz => row_args ((EG.out.safe (Safe.below hx)) z hz).row) (fun z hz => (H.out.facts.at_ z hz).below (C7.next hx).below (Nat.le_refl _))
            rw [likeB_true HG.out] at t
            exact t)
          have TVL := hideP (fun X (hx : Below w7.heap.size w7 X) => TV.out X (C7.next hx).below)
          clear HB
          go_wp2_with fail
          go_region_held3 (fun X => X.cell? ⟨W.heap.size, 0, none⟩ = some (.slice ha hs.length hc) ∧ X.cell? ⟨W.heap.size, 1, none⟩ = some (.slice na ns.length nc) ∧ X.cell? ⟨W.heap.size, 2, none⟩ = some (.slice ra rs.length rc) ∧ X.cell? ⟨W.heap.size, 3, none⟩ = some (.slice fa zs.length fc)) (first | with_reducible exact HK.out _ GD | with_reducible exact HK.out _ G4 | with_reducible exact HK.out _ G5 | with_reducible exact HK.out _ G6 | with_reducible exact HK.out _ G7 | with_reducible exact HK.out _ G8 | with_reducible exact HK.out _ G9 | with_reducible exact HK.out _ G10) (first
            | (go_at_call 16; refine (TW.out _).mono ?_; rintro e4 w8 ⟨rfl, b4⟩; have G4 := Below.then GD b4)
            | (go_at_call 15; refine (TO.out _ G4).mono ?_; rintro e5 w9 ⟨⟨ys, a5, c5, rfl, OY, AY, hy⟩, b5⟩; have G5 := Below.then G4 b5; have hlk : likeB (ys.map Fv.f) (us.map Fv.f) = true := likeB_true ((hy.trans (by rw [HG.out])).trans HU.out.symm); have TK1 := like_at a5 oa c5 oc ys us w9 OY.lies (LU7.out.below G5 (Nat.le_refl _)) AY (fun z hz => row_args ((EU7.out.safe (Safe.below G5)) z hz).row); rw [hlk] at TK1; have TK1 := hideP TK1; clear hlk hy OY AY)
            | (go_at_call_of 14 (Value.slice oa us.length oc); refine TK1.out.mono ?_; rintro e6 w10 ⟨rfl, b6⟩; have G6 := Below.then G5 b6.below)
            | (go_at_call 16; refine (TW.out _).mono ?_; rintro e7 w11 ⟨rfl, b7⟩; have G7 := Below.then G6 b7)
            | (go_at_call 17; refine (TC.out _ G7).mono ?_; rintro e8 w12 ⟨rfl, b8⟩; have G8 := Below.then G7 b8)
            | (go_at_call_of 14 (Value.slice fa zs.length fc); refine (TK2.out _ G8).mono ?_; rintro e9 w13 ⟨rfl, b9⟩; have G9 := Below.then G8 b9.below)
            | (go_at_call 10; refine (TVL.out _ G9).mono ?_; rintro e10 w14 ⟨rfl, b10⟩; have G10 := Below.then G9 b10))
          go_wp2_with fail
          go_ret
          exact ⟨rfl, (C7.next G10).below⟩
end Go.Proofs.YtdehimbfcilhpaaGreatDoor
