/-
  ModelTwice: the walk.
-/
import Derived.Test.YtdehimbfcilhpaaGreatDoorQSs12
namespace Go.Proofs.YtdehimbfcilhpaaGreatDoor
open Go.RowKit Go.Lib Go.Shelf

set_option maxRecDepth 100000 in
set_option maxHeartbeats 4000000 in
theorem modelTwice_walk (ha : Option Addr) (hc : Nat) (hs : List (List UInt8)) (na : Option Addr) (nc : Nat) (ns : List (List UInt8)) (ra : Option Addr) (rc : Nat) (rs : List Rv) (fa : Option Addr) (fc : Nat) (zs : List Fv) (W : World) (hL : Laid W) (h : CsB W ha hc hs na nc ns ra rc rs fa fc zs) :
    Calls Tryz.prog 7 #[caseV ha hc hs na nc ns ra rc rs fa fc zs] W fun e w' => e = .returned (.bool true) ∧ Below W.heap.size W w' := by
  have iC : (Tryz.prog.info? 26).map (·.size) = some 4 := by kernel_rfl
  have iR : (Tryz.prog.info? 62).map (fun i => (i.zero, i.size, i.bytes)) = some (some (.agg #[.string .empty, .bool false, .int .i64 0, .string .empty, .string .empty, .slice none 0 0, .string .empty, .bool false, .int .i64 0, .string .empty, .slice none 0 0]), rK.k, 160) := by kernel_rfl
  have iF : (Tryz.prog.info? 36).map (fun i => (i.zero, i.size, i.bytes)) = some (some (.agg #[.string .empty, .string .empty, .string .empty, .slice none 0 0]), fK.k, 72) := by kernel_rfl
  have A0 := below_alloc W (.cells #[.slice ha hs.length hc, .slice na ns.length nc, .slice ra rs.length rc, .slice fa zs.length fc] 26)
  have C0 : CsW W W.heap.size ha hc hs na nc ns ra rc rs fa fc zs (W.alloc (.cells #[.slice ha hs.length hc, .slice na ns.length nc, .slice ra rs.length rc, .slice fa zs.length fc] 26)) := ⟨heap_alloc_new W _, A0⟩
  have TLt := hideP (light12_at ha hc hs na nc ns ra rc rs fa fc zs (W.alloc (.cells #[.slice ha hs.length hc, .slice na ns.length nc, .slice ra rs.length rc, .slice fa zs.length fc] 26)) (h.rules.at_.below A0) (fun r hr => (h.rules.each r hr).tx) (h.facts.lies.below A0 (Nat.le_refl _)) (fun z hz => (h.facts.at_ z hz).below A0 (Nat.le_refl _)) (fun z hz => (h.facts.each z hz).tx))
  have TV := hideP (fun w (b : Below W.heap.size W w) => live12_at w (hL.below b))
  have H := hideP h
  have HL := hideP hL
  clear h hL
  go_enter Tryz.func7, Tryz.ntmps7
  go_wp2_with fail
  refine TLt.out.mono ?_
  rintro e w1 ⟨⟨q, rfl, hq⟩, B1⟩
  have C1 := C0.next B1
  clear TLt C0 A0 B1
  cases q with
  | false =>
    clear hq
    go_wp2_with fail
    refine (TV.out w1 C1.below).mono ?_
    rintro e w2 ⟨rfl, B2⟩
    go_wp2_with fail
    go_ret
    exact ⟨rfl, C1.below.trans (B2.mono C1.below.size)⟩
  | true =>
    have LI := hq rfl
    have HLI := hideP LI
    obtain ⟨g0, g1, g2, g3⟩ := C1.cells
    have TR := hideP (least12_at ha hc hs na nc ns ra rc rs fa fc zs w1 ⟨H.out.rules.at_.below C1.below, fun r hr => (H.out.rules.each r hr).smr (LI.rule r hr), H.out.homes.row.below C1.below (Nat.le_refl _), H.out.names.row.below C1.below (Nat.le_refl _), LI.most⟩ (H.out.facts.lies.below C1.below (Nat.le_refl _)) (fun z hz => (H.out.facts.at_ z hz).below C1.below (Nat.le_refl _)))
    clear hq LI
    go_wp2_with fail
    refine TR.out.mono ?_
    rintro e w3 ⟨⟨a, m, us, q3, rfl, L3, E3, HL3⟩, B3⟩
    have C3 := C1.next B3
    clear TR g0 g1 g2 g3
    cases q3 with
    | false =>
      clear HL3
      go_wp2_with fail
      refine (TV.out w3 C3.below).mono ?_
      rintro e w4 ⟨rfl, B4⟩
      go_wp2_with fail
      go_ret
      exact ⟨rfl, C3.below.trans (B4.mono C3.below.size)⟩
    | true =>
      have LF := hideP (HL3 rfl)
      clear HL3
      have GD := (Below.refl w3.heap.size w3).drew
      have HK : Hid (∀ X, Below w3.heap.size w3 X → (X.cell? ⟨W.heap.size, 0, none⟩ = some (.slice ha hs.length hc) ∧ X.cell? ⟨W.heap.size, 1, none⟩ = some (.slice na ns.length nc) ∧ X.cell? ⟨W.heap.size, 2, none⟩ = some (.slice ra rs.length rc) ∧ X.cell? ⟨W.heap.size, 3, none⟩ = some (.slice fa zs.length fc))) := fun X hb => (C3.next hb).cells
      have TW := hideP (fun X => world_at ha hc hs na nc ns ra rc rs fa fc zs X)
      have TM := hideP (fun X (hb : Below w3.heap.size w3 X) => mleast_at ra rc rs ha hc hs na nc ns fa fc zs (some (us.map Fv.f)) X ((H.out.lin HL.out HLI.out.rule).below (C3.next hb).below) (H.out.facts.lies.below (C3.next hb).below (Nat.le_refl _)) (fun z hz => (H.out.facts.at_ z hz).below (C3.next hb).below (Nat.le_refl _)) (fun z hz => (H.out.facts.each z hz).sm) LF.out)
      go_wp2_with fail
      go_region_held3 (fun X => X.cell? ⟨W.heap.size, 0, none⟩ = some (.slice ha hs.length hc) ∧ X.cell? ⟨W.heap.size, 1, none⟩ = some (.slice na ns.length nc) ∧ X.cell? ⟨W.heap.size, 2, none⟩ = some (.slice ra rs.length rc) ∧ X.cell? ⟨W.heap.size, 3, none⟩ = some (.slice fa zs.length fc)) (first | with_reducible exact HK.out _ GD | with_reducible exact HK.out _ G4 | with_reducible exact HK.out _ G5) (first
        | (go_at_call 16; refine (TW.out _).mono ?_; rintro e4 w4 ⟨rfl, b4⟩; have G4 := Below.then GD b4)
        | (go_at_call 19; refine (TM.out _ G4).mono ?_; rintro e5 w5 ⟨⟨ys, a5, c5, rfl, FA5, hy⟩, b5⟩; have G5 := Below.then G4 b5))
      have C5 := C3.next G5
      have HY : Hid (ys.map Fv.f = us.map Fv.f) := hy
      clear TW TM HK GD b4 b5 hy
      have er0 : errOf (some (us.map Fv.f)) = 0 := rfl
      rw [er0]
      clear er0
      have HFA := hideP FA5
      clear FA5 L3 E3 G4 G5
      obtain ⟨g0, g1, g2, g3⟩ := C5.cells
      have N5 := heap_alloc_new w5 (.cells #[.slice none 0 0, .slice none 0 0, .slice none 0 0, .slice none 0 0] 26)
      go_upto_region 8 with (refine wpList_store_all rfl 26 _ _ rfl w5.heap.size 4 _ 26 [.slice ha hs.length hc, .slice na ns.length nc, .slice none 0 0, .slice none 0 0] rfl rfl N5 rfl rfl iC rfl ?_; intro w6 K6 d6; have B6 := below_tok d6)
      clear N5 d6 g0 g1 g2 g3
      have s6 : w5.heap.size < w6.heap.size := heap_lt K6
      have C6 := C5.next B6
      have g2 := C6.cells.2.2.1
      have fewr := H.out.rules.at_.row.few
      have rlen := HLI.out.rules
      go_wp2_with fail
      go_loopw [8] (fun v8 wi => ∃ (j : Nat) (u : Option Addr) (cu : Nat) (lx : List Rv), v8 = .int .i64 ((j : Int) - 1) ∧ j ≤ rs.length ∧ Hid (lx = (rs.drop j).reverse) ∧ wi.heap[w5.heap.size]? = some (.cells #[.slice ha hs.length hc, .slice na ns.length nc, .slice u (List.length lx) cu, .slice none 0 0] 26) ∧ wi.ownsRow w6.heap.size 62 rK.k (.slice u (List.length lx) cu) lx.length (lx.flatMap rK.enc) ∧ Below w5.heap.size w5 wi ∧ w6.heap.size ≤ wi.heap.size) (fun v8 _ => (intOf v8 + 1).toNat)
      case atStart => exact ⟨rs.length, none, 0, [], by go_num, Nat.le_refl _, hideP (by simp), K6, World.ownsRow_nil _ _ _ _, B6, Nat.le_refl _⟩
      case round =>
        obtain ⟨j, u, cu, lx, rfl, hj, hlx, KD, OD, Bi, sz⟩ := hrel
        have Ci := C5.next Bi
        cases j with
        | zero =>
          have hv : ((0 : Nat) : Int) - 1 = -1 := by omega
          rw [hv]
          have LX : Hid (lx = rs.reverse) := by
            show _ = _
            rw [hlx.out, List.drop_zero]
          have ll : lx.length ≤ 120 := by rw [hlx.out, List.length_reverse, List.length_drop]; omega
          obtain ⟨u', c', e', RT, _⟩ := own_row (D := rK) (xs := lx) OD (by omega)
          cases e'
          have f3 := Ci.cells.2.2.2
          have zlen := HLI.out.facts
          have K7 := KD
          have B7 := Bi
          have C7 := Ci
          clear hlx OD hv hj Ci KD Bi sz g2 K6 C6 B6
          generalize wr = w7 at *
          have s7 : w5.heap.size < w7.heap.size := heap_lt K7
          go_wp2_with fail
          go_loopw [9] (fun v9 wi => ∃ (j : Nat) (u2 : Option Addr) (cu2 : Nat) (mx : List Fv), v9 = .int .i64 ((j : Int) - 1) ∧ j ≤ zs.length ∧ Hid (mx = (zs.drop j).reverse.flatMap fun z => [z, z]) ∧ wi.heap[w5.heap.size]? = some (.cells #[.slice ha hs.length hc, .slice na ns.length nc, .slice u (List.length lx) cu, .slice u2 (List.length mx) cu2] 26) ∧ wi.ownsRow w7.heap.size 36 fK.k (.slice u2 (List.length mx) cu2) mx.length (mx.flatMap fK.enc) ∧ Below w5.heap.size w5 wi ∧ w7.heap.size ≤ wi.heap.size ∧ Safe 62 w7 wi) (fun v9 _ => (intOf v9 + 1).toNat)
          case atStart => exact ⟨zs.length, none, 0, [], by go_num, Nat.le_refl _, hideP (by simp), K7, World.ownsRow_nil _ _ _ _, B7, Nat.le_refl _, fun _ _ h => h⟩
          case round =>
            obtain ⟨j, u2, cu2, mx, rfl, hj, hmx, KD, OD, Bi, sz, SF⟩ := hrel
            have Ci := C5.next Bi
            have ml : mx.length ≤ 240 := by
              have e : ∀ l : List Fv, (l.flatMap fun z => [z, z]).length = 2 * l.length := fun l => by
                induction l with
                | nil => rfl
                | cons a t ih => simp only [List.flatMap_cons, List.length_append, ih, List.length_cons, List.length_nil]; omega
              rw [hmx.out, e, List.length_reverse, List.length_drop]
              omega
            cases j with
            | zero =>
              have hv : ((0 : Nat) : Int) - 1 = -1 := by omega
              rw [hv]
              have MX : Hid (mx = zs.reverse.flatMap fun z => [z, z]) := by
                show _ = _
                rw [hmx.out, List.drop_zero]
              obtain ⟨u', c', e', OF⟩ := own_facts (xs := mx) OD (by omega)
              cases e'
              have C8 := Ci
              have K8 := KD
              have BF := Bi
              have RD := hideP (RT.safe SF).row
              have LD := hideP OF.lies
              clear hmx OD hv hj KD Bi sz SF Ci RT OF K7 B7 C7 f3
              generalize wr = w8 at *
              have AR : Hid (∀ x ∈ lx, Rv.Aw W x ∧ RvB x ∧ LtR 120 x) := by
                rw [LX.out]
                intro x hx
                have h := List.mem_reverse.1 hx
                exact ⟨H.out.rules.at_.each x h, H.out.rules.each x h, HLI.out.rule x h⟩
              have AT : Hid (∀ z ∈ mx, Fv.At W z ∧ SmF z.f) := by
                rw [MX.out]
                intro z hz
                obtain ⟨y, hy, hz⟩ := List.mem_flatMap.1 hz
                have h := List.mem_reverse.1 hy
                have e : z = y := by simpa using hz
                subst e
                exact ⟨H.out.facts.at_ z h, (H.out.facts.each z h).sm⟩
              have SMR : Hid (∀ r, r ∈ rs.map Rv.r ↔ r ∈ lx.map Rv.r) := by
                rw [LX.out]
                intro r
                simp
              have SMF : Hid (∀ x, x ∈ zs.map Fv.f ↔ x ∈ mx.map Fv.f) := by
                rw [MX.out]
                intro x
                simp
              have LFD : Hid (Ml.LstF ⟨hs, ns⟩ (lx.map Rv.r) (sortF (mx.map Fv.f)) (some (us.map Fv.f))) := by
                rw [← (sortF_eq_iff (zs.map Fv.f) (mx.map Fv.f)).2 SMF.out]
                exact LF.out.same SMR.out (sortF_SS _)
              have LF2 : Hid (Ml.LstF ⟨hs, ns⟩ (rs.map Rv.r) (sortF (ys.map Fv.f)) (some (us.map Fv.f))) := by
                rw [HY.out]
                exact LF.out.twice (sortF_SS _)
              have SMY : Hid (∀ z ∈ ys, SmF z.f) := fun z hz => lst_small LF.out (H.out.lin HL.out HLI.out.rule).smh (H.out.lin HL.out HLI.out.rule).hl (fun x hx => by
                obtain ⟨y, hy, rfl⟩ := List.mem_map.1 hx
                exact (H.out.facts.each y hy).sm) z.f (by rw [← HY.out]; exact List.mem_map_of_mem hz)
              have HF8 := hideP (HFA.out.below BF)
              have GD := (Below.refl w8.heap.size w8).drew
              have HK : Hid (∀ X, Below w8.heap.size w8 X → (X.cell? ⟨w5.heap.size, 0, none⟩ = some (.slice ha hs.length hc) ∧ X.cell? ⟨w5.heap.size, 1, none⟩ = some (.slice na ns.length nc) ∧ X.cell? ⟨w5.heap.size, 2, none⟩ = some (.slice u lx.length cu) ∧ X.cell? ⟨w5.heap.size, 3, none⟩ = some (.slice u2 mx.length cu2))) := fun X hb => by
                have := below_heap hb K8
                exact ⟨by rw [heap_cell this]; rfl, by rw [heap_cell this]; rfl, by rw [heap_cell this]; rfl, by rw [heap_cell this]; rfl⟩
              have TW := hideP (fun X => world_at ha hc hs na nc ns u cu lx u2 cu2 mx X)
              have LND := hideP (fun X (hb : Below w8.heap.size w8 X) => by
                have L := (H.out.lin HL.out HLI.out.rule).below (C8.next hb).below
                exact (⟨⟨RD.out.below hb (Nat.le_refl _), fun x hx => (AR.out x hx).1.below (C8.next hb).below (Nat.le_refl _)⟩, fun r hr => (AR.out r hr).2.1.smr (AR.out r hr).2.2, fun r hr => by
                  obtain ⟨x, hx, rfl⟩ := List.mem_map.1 hr
                  exact (AR.out x hx).2.1.smh, L.homes, L.hl, L.names, L.tab⟩ : LIn X u cu lx ha hc hs na nc ns))
              have TM := hideP (fun X (hb : Below w8.heap.size w8 X) => mleast_at u cu lx ha hc hs na nc ns u2 cu2 mx (some (us.map Fv.f)) X (LND.out X hb) (LD.out.below hb (Nat.le_refl _)) (fun z hz => (AT.out z hz).1.below (C8.next hb).below (Nat.le_refl _)) (fun z hz => (AT.out z hz).2) LFD.out)
              go_wp2_with fail
              go_region_held3 (fun X => X.cell? ⟨w5.heap.size, 0, none⟩ = some (.slice ha hs.length hc) ∧ X.cell? ⟨w5.heap.size, 1, none⟩ = some (.slice na ns.length nc) ∧ X.cell? ⟨w5.heap.size, 2, none⟩ = some (.slice u lx.length cu) ∧ X.cell? ⟨w5.heap.size, 3, none⟩ = some (.slice u2 mx.length cu2)) (first | with_reducible exact HK.out _ GD | with_reducible exact HK.out _ G4 | with_reducible exact HK.out _ G5) (first
                | (go_at_call 16; refine (TW.out _).mono ?_; rintro e4 w9 ⟨rfl, b4⟩; have G4 := Below.then GD b4)
                | (go_at_call 19; refine (TM.out _ G4).mono ?_; rintro e5 w10 ⟨⟨ys2, a7, c7, rfl, FA7, hy2⟩, b5⟩; have G5 := Below.then G4 b5))
              have C10 := C8.next G5
              have HF10 := hideP (HF8.out.below G5)
              have HF7 := hideP FA7
              have HY2 := hideP hy2
              clear TW TM LND HK GD b4 b5 hy2 FA7 G4 G5 K8 RD LD C8
              have er0 : errOf (some (us.map Fv.f)) = 0 := rfl
              rw [er0]
              have GD := (Below.refl w10.heap.size w10).drew
              have HK : Hid (∀ X, Below w10.heap.size w10 X → (X.cell? ⟨W.heap.size, 0, none⟩ = some (.slice ha hs.length hc) ∧ X.cell? ⟨W.heap.size, 1, none⟩ = some (.slice na ns.length nc) ∧ X.cell? ⟨W.heap.size, 2, none⟩ = some (.slice ra rs.length rc) ∧ X.cell? ⟨W.heap.size, 3, none⟩ = some (.slice fa zs.length fc))) := fun X hb => (C10.next hb).cells
              have TW := hideP (fun X => world_at ha hc hs na nc ns ra rc rs fa fc zs X)
              have TM := hideP (fun X (hb : Below w10.heap.size w10 X) => mleast_at ra rc rs ha hc hs na nc ns a5 c5 ys (some (us.map Fv.f)) X ((H.out.lin HL.out HLI.out.rule).below (C10.next hb).below) (HF10.out.lies.below hb (Nat.le_refl _)) (fun z hz => row_args ((HF10.out.below hb).each z hz).row) SMY.out LF2.out)
              go_wp2_with fail
              go_region_held3 (fun X => X.cell? ⟨W.heap.size, 0, none⟩ = some (.slice ha hs.length hc) ∧ X.cell? ⟨W.heap.size, 1, none⟩ = some (.slice na ns.length nc) ∧ X.cell? ⟨W.heap.size, 2, none⟩ = some (.slice ra rs.length rc) ∧ X.cell? ⟨W.heap.size, 3, none⟩ = some (.slice fa zs.length fc)) (first | with_reducible exact HK.out _ GD | with_reducible exact HK.out _ G4 | with_reducible exact HK.out _ G5) (first
                | (go_at_call 16; refine (TW.out _).mono ?_; rintro e4 w11 ⟨rfl, b4⟩; have G4 := Below.then GD b4)
                | (go_at_call 19; refine (TM.out _ G4).mono ?_; rintro e5 w12 ⟨⟨ys3, a9, c9, rfl, FA9, hy3⟩, b5⟩; have G5 := Below.then G4 b5))
              have C12 := C10.next G5
              try rw [er0]
              have l1 : likeB (ys.map Fv.f) (ys2.map Fv.f) = true := likeB_true (HY.out.trans HY2.out.symm)
              have l2 : likeB (ys.map Fv.f) (ys3.map Fv.f) = true := likeB_true (HY.out.trans hy3.symm)
              have TK1 := like_at a5 a7 c5 c7 ys ys2 w12 (HF10.out.lies.below G5 (Nat.le_refl _)) (HF7.out.lies.below G5 (Nat.le_refl _)) (fun z hz => row_args ((HF10.out.below G5).each z hz).row) (fun z hz => row_args ((HF7.out.below G5).each z hz).row)
              rw [l1] at TK1
              have TK1 := hideP TK1
              have HF12 := hideP (HF10.out.below G5)
              have HF9 := hideP FA9
              clear TW TM HK GD b4 b5 hy3 FA9 G4 er0 l1
              go_wp2_with fail
              refine TK1.out.mono ?_
              rintro e w13 ⟨rfl, b13⟩
              have C13 := C12.next b13.below
              have TK2 := like_at a5 a9 c5 c9 ys ys3 w13 (HF12.out.lies.below b13.below (Nat.le_refl _)) (HF9.out.lies.below b13.below (Nat.le_refl _)) (fun z hz => row_args ((HF12.out.below b13.below).each z hz).row) (fun z hz => row_args ((HF9.out.below b13.below).each z hz).row)
              rw [l2] at TK2
              have TK2 := hideP TK2
              clear l2 TK1
              go_wp2_with fail
              refine TK2.out.mono ?_
              rintro e w14 ⟨rfl, b14⟩
              have C14 := C13.next b14.below
              clear TK2
              go_wp2_with fail
              refine (TV.out w14 C14.below).mono ?_
              rintro e w15 ⟨rfl, B15⟩
              go_wp2_with fail
              go_ret
              exact ⟨rfl, C14.below.trans (B15.mono C14.below.size)⟩
            | succ i =>
              have hv : ((i + 1 : Nat) : Int) - 1 = (i : Int) := by omega
              rw [hv]
              have c3 := Ci.cells.2.2.2
              obtain ⟨P5, O5, rfl⟩ := H.out.facts.lies.addr (by omega)
              have hil : i < zs.length := by omega
              obtain ⟨e0, e1, e2, e3⟩ := (H.out.facts.lies.below Ci.below (Nat.le_refl _)).get i hil
              have hst : Hid (((zs.drop (i + 1)).reverse.flatMap fun z => [z, z]) ++ [zs[i], zs[i]] = (zs.drop i).reverse.flatMap fun z => [z, z]) := by
                show _ = _
                rw [List.drop_eq_getElem_cons hil, List.reverse_cons, List.flatMap_append]
                rfl
              generalize (zs[i]'hil) = z at *
              have d2 : wr.cell? ⟨w5.heap.size, 3, none⟩ = some (.slice u2 mx.length cu2) := by rw [heap_cell KD]; rfl
              have bX : Below wr.heap.size wr (wr.alloc (.cells #[str z.at_, str z.by_, str z.pred, .slice z.a z.ks.length z.cap, str z.at_, str z.by_, str z.pred, .slice z.a z.ks.length z.cap] 36)).drew := (below_alloc wr (.cells #[str z.at_, str z.by_, str z.pred, .slice z.a z.ks.length z.cap, str z.at_, str z.by_, str z.pred, .slice z.a z.ks.length z.cap] 36)).drew
              have OX : (wr.alloc (.cells #[str z.at_, str z.by_, str z.pred, .slice z.a z.ks.length z.cap, str z.at_, str z.by_, str z.pred, .slice z.a z.ks.length z.cap] 36)).drew.ownsRow w7.heap.size 36 fK.k (.slice u2 mx.length cu2) mx.length (mx.flatMap fK.enc) := ownsRow_keep OD (Safe.below bX)
              have RX : Row fK (wr.alloc (.cells #[str z.at_, str z.by_, str z.pred, .slice z.a z.ks.length z.cap, str z.at_, str z.by_, str z.pred, .slice z.a z.ks.length z.cap] 36)).drew (some ⟨wr.heap.size, 0, none⟩) 2 [z, z] := (row_newL fK wr #[str z.at_, str z.by_, str z.pred, .slice z.a z.ks.length z.cap, str z.at_, str z.by_, str z.pred, .slice z.a z.ks.length z.cap] 36 [z, z] (by simp) rfl).below (Below.refl _ _).drew (Nat.le_refl _)
              have zX : w7.heap.size ≤ (wr.alloc (.cells #[str z.at_, str z.by_, str z.pred, .slice z.a z.ks.length z.cap, str z.at_, str z.by_, str z.pred, .slice z.a z.ks.length z.cap] 36)).drew.heap.size := Nat.le_trans sz bX.size
              have dX : (wr.alloc (.cells #[str z.at_, str z.by_, str z.pred, .slice z.a z.ks.length z.cap, str z.at_, str z.by_, str z.pred, .slice z.a z.ks.length z.cap] 36)).cell? ⟨w5.heap.size, 3, none⟩ = some (.slice u2 mx.length cu2) := by rw [heap_cell (below_heap (below_alloc wr _) KD)]; rfl
              have KX := below_heap bX KD
              have mixed : Tryz.prog.follows .mixedOrders = true := by kernel_rfl
              have q0 : (0 : Int) ≤ (i : Int) := by omega
              have q1 : (i : Int) < (zs.length : Int) := by omega
              go_wp2_with fail
              go_region_law (refine step_rec12 fK (by rfl) _ _ 24 36 rfl _ 72 Tryz.underlying24 iF rfl (by decide) w7.heap.size (.slice u2 mx.length cu2) mx [z, z] (some ⟨wr.heap.size, 0, none⟩) 2 2 rfl OX rfl rfl RX zX (by simp only [List.length_cons, List.length_nil]; omega) ?_; intro v8 w8 o8 g8; have b8 := own_below OX g8 zX; have K8 := (b8.block w5.heap.size s7).trans KX; have d8 : w8.cell? ⟨w5.heap.size, 3, none⟩ = some (.slice u2 mx.length cu2) := (by rw [heap_cell K8]; rfl); have z8 : w8.frozen? ⟨w5.heap.size, 3, none⟩ = false := heap_frozen K8 _; have SG : Safe 62 (wr.alloc (.cells #[str z.at_, str z.by_, str z.pred, .slice z.a z.ks.length z.cap, str z.at_, str z.by_, str z.pred, .slice z.a z.ks.length z.cap] 36)).drew w8 := Safe.grown OX g8 (by decide); obtain ⟨a8, c8, e8, _, _⟩ := own_row (D := fK) (xs := mx ++ [z, z]) o8 (by rw [List.length_append]; simp only [List.length_cons, List.length_nil]; omega); subst e8)
              all_goals
                have t8 := (But.refl w5.heap.size w8).set 3 (.slice a8 (mx ++ [z, z]).length c8)
                have K9 := heap_set12 (v := .slice a8 (mx ++ [z, z]).length c8) K8 (o := 3)
                have S9 := But.safeT (ty := 36) t8 K8 (by decide)
                have S8 : Safe 62 w7 (w8.setCell ⟨w5.heap.size, 3, none⟩ (.slice a8 (mx ++ [z, z]).length c8)) := SF.trans ((Safe.below bX).trans (SG.trans (But.safeT (ty := 62) t8 K8 (by decide))))
                have B8 : Below w5.heap.size w5 w8 := (Bi.trans (bX.mono Bi.size)).trans (b8.mono (Nat.le_of_lt s7))
                have B9 := B8.trans (t8.lower (Nat.le_refl _) B8.size)
                have z9 : w7.heap.size ≤ (w8.setCell ⟨w5.heap.size, 3, none⟩ (.slice a8 (mx ++ [z, z]).length c8)).heap.size := Nat.le_trans (Nat.le_trans zX b8.size) t8.size
                have o9 := ownsRow_keep o8 S9
                clear e0 e1 e2 e3 d2 dX d8 z8 OX RX
                go_wp2_with fail
                refine ⟨⟨i, a8, c8, mx ++ [z, z], by go_num, by omega, ?_, by simpa using K9, by simpa using o9, by simpa using B9, by simpa using z9, by simpa using S8⟩, by simp [intOf]⟩
                show _ = _
                rw [hmx.out]
                exact hst.out
        | succ i =>
          have hv : ((i + 1 : Nat) : Int) - 1 = (i : Int) := by omega
          rw [hv]
          have c2 := Ci.cells.2.2.1
          obtain ⟨P5, O5, rfl⟩ := H.out.rules.at_.row.addr (by omega)
          have hil : i < rs.length := by omega
          have r := ((H.out.rules.at_.below Ci.below).row).range i hil
          have hst : Hid ((rs.drop (i + 1)).reverse ++ [rs[i]] = (rs.drop i).reverse) := by
            show _ = _
            rw [List.drop_eq_getElem_cons hil, List.reverse_cons]
          generalize (rs[i]'hil) = x at *
          have e0 : wr.cell? ⟨P5, O5 + i * 11, none⟩ = some (str x.home.v) := r 0 _ rfl
          have e1 : wr.cell? ⟨P5, O5 + i * 11 + 1, none⟩ = some (.bool x.home.k.num) := r 1 _ rfl
          have e2 : wr.cell? ⟨P5, O5 + i * 11 + 2, none⟩ = some (.int .i64 x.home.k.n) := r 2 _ rfl
          have e3 : wr.cell? ⟨P5, O5 + i * 11 + 3, none⟩ = some (str x.home.k.s) := r 3 _ rfl
          have e4 : wr.cell? ⟨P5, O5 + i * 11 + 4, none⟩ = some (str x.pred) := r 4 _ rfl
          have e5 : wr.cell? ⟨P5, O5 + i * 11 + 5, none⟩ = some (.slice x.a x.args.length x.cap) := r 5 _ rfl
          have e6 : wr.cell? ⟨P5, O5 + i * 11 + 6, none⟩ = some (str x.to_.v) := r 6 _ rfl
          have e7 : wr.cell? ⟨P5, O5 + i * 11 + 7, none⟩ = some (.bool x.to_.k.num) := r 7 _ rfl
          have e8' : wr.cell? ⟨P5, O5 + i * 11 + 8, none⟩ = some (.int .i64 x.to_.k.n) := r 8 _ rfl
          have e9 : wr.cell? ⟨P5, O5 + i * 11 + 9, none⟩ = some (str x.to_.k.s) := r 9 _ rfl
          have e10 : wr.cell? ⟨P5, O5 + i * 11 + 10, none⟩ = some (.slice x.ba x.body.length x.bcap) := r 10 _ rfl
          have d2 : wr.cell? ⟨w5.heap.size, 2, none⟩ = some (.slice u lx.length cu) := by rw [heap_cell KD]; rfl
          have bX : Below wr.heap.size wr (wr.alloc (.cells #[str x.home.v, .bool x.home.k.num, .int .i64 x.home.k.n, str x.home.k.s, str x.pred, .slice x.a x.args.length x.cap, str x.to_.v, .bool x.to_.k.num, .int .i64 x.to_.k.n, str x.to_.k.s, .slice x.ba x.body.length x.bcap] 62)).drew := (below_alloc wr (.cells #[str x.home.v, .bool x.home.k.num, .int .i64 x.home.k.n, str x.home.k.s, str x.pred, .slice x.a x.args.length x.cap, str x.to_.v, .bool x.to_.k.num, .int .i64 x.to_.k.n, str x.to_.k.s, .slice x.ba x.body.length x.bcap] 62)).drew
          have OX : (wr.alloc (.cells #[str x.home.v, .bool x.home.k.num, .int .i64 x.home.k.n, str x.home.k.s, str x.pred, .slice x.a x.args.length x.cap, str x.to_.v, .bool x.to_.k.num, .int .i64 x.to_.k.n, str x.to_.k.s, .slice x.ba x.body.length x.bcap] 62)).drew.ownsRow w6.heap.size 62 rK.k (.slice u lx.length cu) lx.length (lx.flatMap rK.enc) := ownsRow_keep OD (Safe.below bX)
          have RX : Row rK (wr.alloc (.cells #[str x.home.v, .bool x.home.k.num, .int .i64 x.home.k.n, str x.home.k.s, str x.pred, .slice x.a x.args.length x.cap, str x.to_.v, .bool x.to_.k.num, .int .i64 x.to_.k.n, str x.to_.k.s, .slice x.ba x.body.length x.bcap] 62)).drew (some ⟨wr.heap.size, 0, none⟩) 1 [x] := (row_new rK wr #[str x.home.v, .bool x.home.k.num, .int .i64 x.home.k.n, str x.home.k.s, str x.pred, .slice x.a x.args.length x.cap, str x.to_.v, .bool x.to_.k.num, .int .i64 x.to_.k.n, str x.to_.k.s, .slice x.ba x.body.length x.bcap] 62 x rfl).below (Below.refl _ _).drew (Nat.le_refl _)
          have zX : w6.heap.size ≤ (wr.alloc (.cells #[str x.home.v, .bool x.home.k.num, .int .i64 x.home.k.n, str x.home.k.s, str x.pred, .slice x.a x.args.length x.cap, str x.to_.v, .bool x.to_.k.num, .int .i64 x.to_.k.n, str x.to_.k.s, .slice x.ba x.body.length x.bcap] 62)).drew.heap.size := Nat.le_trans sz bX.size
          have dX : (wr.alloc (.cells #[str x.home.v, .bool x.home.k.num, .int .i64 x.home.k.n, str x.home.k.s, str x.pred, .slice x.a x.args.length x.cap, str x.to_.v, .bool x.to_.k.num, .int .i64 x.to_.k.n, str x.to_.k.s, .slice x.ba x.body.length x.bcap] 62)).cell? ⟨w5.heap.size, 2, none⟩ = some (.slice u lx.length cu) := by rw [heap_cell (below_heap (below_alloc wr _) KD)]; rfl
          have KX := below_heap bX KD
          have ll : lx.length ≤ 120 := by rw [hlx.out, List.length_reverse, List.length_drop]; omega
          have mixed : Tryz.prog.follows .mixedOrders = true := by kernel_rfl
          have q0 : (0 : Int) ≤ (i : Int) := by omega
          have q1 : (i : Int) < (rs.length : Int) := by omega
          clear r
          go_wp2_with fail
          go_region_law (refine step_rec12 rK (by rfl) _ _ 23 62 rfl _ 160 Tryz.underlying23 iR rfl (by decide) w6.heap.size (.slice u lx.length cu) lx [x] (some ⟨wr.heap.size, 0, none⟩) 1 1 rfl OX rfl rfl RX zX (by simp only [List.length_singleton]; omega) ?_; intro v8 w8 o8 g8; have b8 := own_below OX g8 zX; have K8 := (b8.block w5.heap.size s6).trans KX; have d8 : w8.cell? ⟨w5.heap.size, 2, none⟩ = some (.slice u lx.length cu) := (by rw [heap_cell K8]; rfl); have z8 : w8.frozen? ⟨w5.heap.size, 2, none⟩ = false := heap_frozen K8 _; obtain ⟨a8, c8, e8, _, _⟩ := own_row (D := rK) (xs := lx ++ [x]) o8 (by rw [List.length_append, List.length_singleton]; omega); subst e8)
          all_goals
            have t8 := (But.refl w5.heap.size w8).set 2 (.slice a8 (lx ++ [x]).length c8)
            have K9 := heap_set12 (v := .slice a8 (lx ++ [x]).length c8) K8 (o := 2)
            have S9 := But.safeT (ty := 62) t8 K8 (by decide)
            have B8 : Below w5.heap.size w5 w8 := (Bi.trans (bX.mono Bi.size)).trans (b8.mono (Nat.le_of_lt s6))
            have B9 := B8.trans (t8.lower (Nat.le_refl _) B8.size)
            have z9 : w6.heap.size ≤ (w8.setCell ⟨w5.heap.size, 2, none⟩ (.slice a8 (lx ++ [x]).length c8)).heap.size := Nat.le_trans (Nat.le_trans zX b8.size) t8.size
            have o9 := ownsRow_keep o8 S9
            clear e0 e1 e2 e3 e4 e5 e6 e7 e8' e9 e10 d2 dX d8 z8 OX RX
            go_wp2_with fail
            refine ⟨⟨i, a8, c8, lx ++ [x], by go_num, by omega, ?_, by simpa using K9, by simpa using o9, by simpa using B9, by simpa using z9⟩, by simp [intOf]⟩
            show _ = _
            rw [hlx.out]
            exact hst.out
end Go.Proofs.YtdehimbfcilhpaaGreatDoor
