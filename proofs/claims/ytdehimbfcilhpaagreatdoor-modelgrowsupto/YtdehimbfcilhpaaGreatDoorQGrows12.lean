/-
  ModelGrows: the walk.
-/
import Derived.Test.YtdehimbfcilhpaaGreatDoorQSr12
namespace Go.Proofs.YtdehimbfcilhpaaGreatDoor
open Go.RowKit Go.Lib Go.Shelf

set_option maxRecDepth 100000 in
set_option maxHeartbeats 4000000 in
theorem modelGrows_walk (ha : Option Addr) (hc : Nat) (hs : List (List UInt8)) (na : Option Addr) (nc : Nat) (ns : List (List UInt8)) (ra : Option Addr) (rc : Nat) (rs : List Rv) (fa : Option Addr) (fc : Nat) (zs : List Fv) (ga : Option Addr) (gc : Nat) (xs : List Fv) (ba : Option Addr) (bc : Nat) (ls : List Rv) (W : World) (hL : Laid W) (h : CsB W ha hc hs na nc ns ra rc rs fa fc zs) (h2 : FsB W ga gc xs) (h3 : RsB W ba bc ls) :
    Calls Tryz.prog 6 #[caseV ha hc hs na nc ns ra rc rs fa fc zs, .slice ga xs.length gc, .slice ba ls.length bc] W fun e w' => e = .returned (.bool true) ∧ Below W.heap.size W w' := by
  have A0 := below_alloc W (.cells #[.slice ha hs.length hc, .slice na ns.length nc, .slice ra rs.length rc, .slice fa zs.length fc] 26)
  have C0 : CsW W W.heap.size ha hc hs na nc ns ra rc rs fa fc zs (W.alloc (.cells #[.slice ha hs.length hc, .slice na ns.length nc, .slice ra rs.length rc, .slice fa zs.length fc] 26)) := ⟨heap_alloc_new W _, A0⟩
  have TLt := hideP (light12_at ha hc hs na nc ns ra rc rs fa fc zs (W.alloc (.cells #[.slice ha hs.length hc, .slice na ns.length nc, .slice ra rs.length rc, .slice fa zs.length fc] 26)) (h.rules.at_.below A0) (fun r hr => (h.rules.each r hr).tx) (h.facts.lies.below A0 (Nat.le_refl _)) (fun z hz => (h.facts.at_ z hz).below A0 (Nat.le_refl _)) (fun z hz => (h.facts.each z hz).tx))
  have TV := hideP (fun w (b : Below W.heap.size W w) => live12_at w (hL.below b))
  have iC : (Tryz.prog.info? 26).map (·.size) = some 4 := by kernel_rfl
  have iR : (Tryz.prog.info? 62).map (fun i => (i.zero, i.size, i.bytes)) = some (some (.agg #[.string .empty, .bool false, .int .i64 0, .string .empty, .string .empty, .slice none 0 0, .string .empty, .bool false, .int .i64 0, .string .empty, .slice none 0 0]), rK.k, 160) := by kernel_rfl
  have iF : (Tryz.prog.info? 36).map (fun i => (i.zero, i.size, i.bytes)) = some (some (.agg #[.string .empty, .string .empty, .string .empty, .slice none 0 0]), fK.k, 72) := by kernel_rfl
  have H := hideP h
  have H2 := hideP h2
  have H3 := hideP h3
  have HL := hideP hL
  clear h h2 h3 hL
  go_enter Tryz.func6, Tryz.ntmps6
  go_wp2_with fail
  refine TLt.out.mono ?_
  rintro e w1 ⟨⟨q, rfl, hq⟩, B1⟩
  have C1 := C0.next B1
  clear TLt C0 A0 B1
  cases q with
  | false =>
    clear hq
    go_wp2_with fail
    refine (TV.out w1 C1.below).mono ?_
    rintro e w9 ⟨rfl, B9⟩
    go_wp2_with fail
    go_ret
    exact ⟨rfl, C1.below.trans (B9.mono C1.below.size)⟩
  | true =>
    have LI := hq rfl
    have HLI := hideP LI
    clear hq LI
    have TWt := hideP (weightF_at 60 (by omega) (by omega) ga gc xs w1 (H2.out.lies.below C1.below (Nat.le_refl _)) (fun z hz => (H2.out.at_ z hz).below C1.below (Nat.le_refl _)) (fun z hz => (H2.out.each z hz).tx))
    go_wp2_with fail
    refine TWt.out.mono ?_
    rintro e w2 ⟨⟨r, rfl, hr⟩, b2⟩
    have C2 := C1.next b2.below
    clear TWt b2
    by_cases hr6 : r ≤ 60
    rotate_left
    · have q6 : (60 : Int) < r := by omega
      clear hr
      go_wp2_with fail
      refine (TV.out w2 C2.below).mono ?_
      rintro e w9 ⟨rfl, B9⟩
      go_wp2_with fail
      go_ret
      exact ⟨rfl, C2.below.trans (B9.mono C2.below.size)⟩
    have xl := (hr hr6).1
    have q6 : ¬ (60 : Int) < r := by omega
    have HXL := hideP xl
    clear hr hr6 xl
    have TWr := hideP (rweightM_at 60 (by omega) (by omega) ba bc ls w2 (H3.out.at_.below C2.below).row (H3.out.at_.below C2.below).each (fun z hz => (H3.out.each z hz).tx))
    go_wp2_with fail
    refine TWr.out.mono ?_
    rintro e w3 ⟨⟨s, rfl, hr⟩, b3⟩
    have C3 := C2.next b3.below
    clear TWr b3 C2 C1
    by_cases hr6 : s ≤ 60
    rotate_left
    · have q7 : (60 : Int) < s := by omega
      clear hr
      go_wp2_with fail
      refine (TV.out w3 C3.below).mono ?_
      rintro e w9 ⟨rfl, B9⟩
      go_wp2_with fail
      go_ret
      exact ⟨rfl, C3.below.trans (B9.mono C3.below.size)⟩
    have q7 : ¬ (60 : Int) < s := by omega
    have HRL := hideP (hr hr6)
    clear hr hr6
    obtain ⟨g0, g1, g2, g3⟩ := C3.cells
    have N3 := heap_alloc_new w3 (.cells #[.slice none 0 0, .slice none 0 0, .slice none 0 0, .slice none 0 0] 26)
    go_upto_region 4 with (refine wpList_store_all rfl 26 _ _ rfl w3.heap.size 4 _ 26 [.slice ha hs.length hc, .slice na ns.length nc, .slice ra rs.length rc, .slice fa zs.length fc] rfl rfl N3 rfl rfl iC rfl ?_; intro w4 K4 d4; have B4 := below_tok d4)
    have C4 := C3.next B4
    have s3 : W.heap.size < w3.heap.size := heap_lt C3.box
    have s4 : w3.heap.size < w4.heap.size := heap_lt K4
    clear N3 d4 g0 g1 g2 g3
    have bA : Below w4.heap.size w4 (w4.alloc (.cells #[] 36)).drew := (below_alloc w4 (.cells #[] 36)).drew
    have OA : (w4.alloc (.cells #[] 36)).drew.ownsRow w4.heap.size 36 fK.k (.slice (some ⟨w4.heap.size, 0, none⟩) 0 0) ([] : List Fv).length (([] : List Fv).flatMap fK.enc) := ownsRow_keep (owns_empty12 fK 36 w4) (Safe.below (Below.refl _ _).drew)
    have zA : w4.heap.size ≤ (w4.alloc (.cells #[] 36)).drew.heap.size := bA.size
    have HK : Hid (∀ X, Below w4.heap.size w4 X → X.cell? ⟨W.heap.size, 3, none⟩ = some (.slice fa zs.length fc)) := fun X hb => (C4.next hb).cells.2.2.2
    have HX := hideP (fun X (hb : Below w4.heap.size w4 X) => liesRow (H2.out.lies.below (C4.next hb).below (Nat.le_refl _)))
    have HZ := hideP (fun X (hb : Below w4.heap.size w4 X) => liesRow (H.out.facts.lies.below (C4.next hb).below (Nat.le_refl _)))
    have GD := (Below.refl w4.heap.size w4).drew
    have n1 : xs.length ≤ 60 := by have := HXL.out; omega
    have n2 := HLI.out.facts
    go_region_held3 (fun X => X.cell? ⟨W.heap.size, 3, none⟩ = some (.slice fa zs.length fc)) (first | with_reducible exact HK.out _ GD | with_reducible exact HK.out _ bA | with_reducible exact HK.out _ b5 | with_reducible exact HK.out _ b6 | with_reducible exact HK7 _) (first
      | (refine step_rec12 fK (by rfl) _ _ 24 36 rfl _ 72 Tryz.underlying24 iF rfl (by decide) w4.heap.size (.slice (some ⟨w4.heap.size, 0, none⟩) 0 0) [] xs ga xs.length gc rfl OA rfl rfl (HX.out _ bA) zA (by simp only [List.length_nil]; omega) ?_; intro v5 w5 o5 g5; have b5 : Below w4.heap.size w4 w5 := bA.trans (own_below OA g5 zA); have o5' : w5.ownsRow w4.heap.size 36 fK.k v5 xs.length (xs.flatMap fK.enc) := (by simpa using o5))
      | (refine step_rec12 fK (by rfl) _ _ 24 36 rfl _ 72 Tryz.underlying24 iF rfl (by decide) w4.heap.size v5 xs zs fa zs.length fc rfl o5' rfl rfl (HZ.out _ b5) b5.size (by omega) ?_; intro v6 w6 o6 g6; have b6 : Below w4.heap.size w4 w6 := b5.trans (own_below o5' g6 b5.size); have K6 := below_heap b6 K4; obtain ⟨a6, c6, rfl, OF6⟩ := own_facts o6 (by rw [List.length_append]; omega); generalize hzx : xs ++ zs = zx at *; have c6' : w6.cell? ⟨w3.heap.size, 3, none⟩ = some (.slice fa zs.length fc) := (by rw [heap_cell K6]; rfl); have z6 : w6.frozen? ⟨w3.heap.size, 3, none⟩ = false := heap_frozen K6 _; have HK7 := fun v => ((C4.next b6).but ((But.refl w3.heap.size w6).set 3 v) (Nat.le_of_lt s3) (by omega)).cells.2.2.2))
    have t7 := (But.refl w3.heap.size w6).set 3 (.slice a6 zx.length c6)
    have K7 := heap_set12 (v := .slice a6 zx.length c6) K6 (o := 3)
    have C7 := (C4.next b6).but t7 (Nat.le_of_lt s3) (by omega)
    generalize w6.setCell ⟨w3.heap.size, 3, none⟩ (.slice a6 zx.length c6) = w7 at *
    have K7b : w7.heap[w3.heap.size]? = some (.cells #[.slice ha hs.length hc, .slice na ns.length nc, .slice ra rs.length rc, .slice a6 zx.length c6] 26) := K7
    have s7 : w3.heap.size < w7.heap.size := heap_lt K7b
    clear OA bA zA HK HX HZ GD c6' z6 HK7 o5 o5' g5 g6 o6 K7 K6
    have bA : Below w7.heap.size w7 (w7.alloc (.cells #[] 62)).drew := (below_alloc w7 (.cells #[] 62)).drew
    have OA : (w7.alloc (.cells #[] 62)).drew.ownsRow w7.heap.size 62 rK.k (.slice (some ⟨w7.heap.size, 0, none⟩) 0 0) ([] : List Rv).length (([] : List Rv).flatMap rK.enc) := ownsRow_keep (owns_empty12 rK 62 w7) (Safe.below (Below.refl _ _).drew)
    have zA : w7.heap.size ≤ (w7.alloc (.cells #[] 62)).drew.heap.size := bA.size
    have HK : Hid (∀ X, Below w7.heap.size w7 X → X.cell? ⟨W.heap.size, 2, none⟩ = some (.slice ra rs.length rc)) := fun X hb => (C7.next hb).cells.2.2.1
    have HX := hideP (fun X (hb : Below w7.heap.size w7 X) => (H3.out.at_.below (C7.next hb).below).row)
    have HZ := hideP (fun X (hb : Below w7.heap.size w7 X) => (H.out.rules.at_.below (C7.next hb).below).row)
    have GD := (Below.refl w7.heap.size w7).drew
    have m1 : ls.length ≤ 60 := by have := HRL.out.1; omega
    have m2 := HLI.out.rules
    go_wp2_with fail
    go_region_held3 (fun X => X.cell? ⟨W.heap.size, 2, none⟩ = some (.slice ra rs.length rc)) (first | with_reducible exact HK.out _ GD | with_reducible exact HK.out _ bA | with_reducible exact HK.out _ b8 | with_reducible exact HK.out _ b9 | with_reducible exact HK10 _) (first
      | (refine step_rec12 rK (by rfl) _ _ 23 62 rfl _ 160 Tryz.underlying23 iR rfl (by decide) w7.heap.size (.slice (some ⟨w7.heap.size, 0, none⟩) 0 0) [] ls ba ls.length bc rfl OA rfl rfl (HX.out _ bA) zA (by simp only [List.length_nil]; omega) ?_; intro v8 w8 o8 g8; have b8 : Below w7.heap.size w7 w8 := bA.trans (own_below OA g8 zA); have o8' : w8.ownsRow w7.heap.size 62 rK.k v8 ls.length (ls.flatMap rK.enc) := (by simpa using o8))
      | (refine step_rec12 rK (by rfl) _ _ 23 62 rfl _ 160 Tryz.underlying23 iR rfl (by decide) w7.heap.size v8 ls rs ra rs.length rc rfl o8' rfl rfl (HZ.out _ b8) b8.size (by omega) ?_; intro v9 w9 o9 g9; have b9 : Below w7.heap.size w7 w9 := b8.trans (own_below o8' g9 b8.size); have K9 := below_heap b9 K7b; obtain ⟨a9, c9, rfl, RT9, _⟩ := own_row (D := rK) (xs := ls ++ rs) o9 (by rw [List.length_append]; omega); generalize hlx : ls ++ rs = lx at *; have c9' : w9.cell? ⟨w3.heap.size, 2, none⟩ = some (.slice ra rs.length rc) := (by rw [heap_cell K9]; rfl); have z9 : w9.frozen? ⟨w3.heap.size, 2, none⟩ = false := heap_frozen K9 _; have HK10 := fun v => ((C7.next b9).but ((But.refl w3.heap.size w9).set 2 v) (Nat.le_of_lt s3) (by omega)).cells.2.2.1))
    have t10 := (But.refl w3.heap.size w9).set 2 (.slice a9 lx.length c9)
    have K10 : (w9.setCell ⟨w3.heap.size, 2, none⟩ (.slice a9 lx.length c9)).heap[w3.heap.size]? = some (.cells #[.slice ha hs.length hc, .slice na ns.length nc, .slice a9 lx.length c9, .slice a6 zx.length c6] 26) := heap_set12 (v := .slice a9 lx.length c9) K9 (o := 2)
    have C10 := (C7.next b9).but t10 (Nat.le_of_lt s3) (by omega)
    have R10 := RT9.safe (But.safeT t10 K9 (by decide))
    have L10 := OF6.butLies ((t7.below b9).trans t10) s4
    generalize w9.setCell ⟨w3.heap.size, 2, none⟩ (.slice a9 lx.length c9) = w10 at *
    have HR10 := hideP R10.row
    have HL10 := hideP L10
    have AT : Hid (∀ z ∈ zx, Fv.At W z ∧ SmF z.f) := by
      rw [← hzx]
      exact fun z hz => (List.mem_append.1 hz).elim (fun h => ⟨H2.out.at_ z h, (H2.out.each z h).sm⟩) (fun h => ⟨H.out.facts.at_ z h, (H.out.facts.each z h).sm⟩)
    have SUB : Hid (∀ x ∈ zs.map Fv.f, x ∈ zx.map Fv.f) := by
      rw [← hzx, List.map_append]
      exact fun x hx => List.mem_append_right _ hx
    have SUBR : Hid (∀ x ∈ rs.map Rv.r, x ∈ lx.map Rv.r) := by
      rw [← hlx, List.map_append]
      exact fun x hx => List.mem_append_right _ hx
    have AR : Hid (∀ x ∈ lx, Rv.Aw W x ∧ RvB x ∧ LtR 120 x) := by
      rw [← hlx]
      exact fun x hx => (List.mem_append.1 hx).elim (fun h => ⟨H3.out.at_.each x h, H3.out.each x h, (HRL.out.2 x h).mono (by omega)⟩) (fun h => ⟨H.out.rules.at_.each x h, H.out.rules.each x h, HLI.out.rule x h⟩)
    have lxl : Hid (lx.length * hs.length ≤ 1000000) := by
      have e1 : lx.length ≤ 180 := by rw [← hlx, List.length_append]; omega
      have := Nat.mul_le_mul e1 HLI.out.homes
      show _ ≤ _
      omega
    have D10 := hideP (fun X (hb : Below w10.heap.size w10 X) => (⟨HR10.out.below hb (Nat.le_refl _), fun x hx => (AR.out x hx).1.below (C10.next hb).below (Nat.le_refl _)⟩ : Rws X a9 c9 lx))
    have E10 := hideP (fun X (hb : Below w10.heap.size w10 X) => (HL10.out.below hb (Nat.le_refl _)))
    clear OA bA zA HK HX HZ GD c9' z9 HK10 o8 o8' g8 g9 o9 K9 RT9 R10 L10 t10 t7 b9 b8 b6 b5 OF6 C7 C4 K7b K4 B4 hzx hlx
    obtain ⟨k0, k1, k2, k3⟩ := C10.cells
    have TR := hideP (least12_at ha hc hs na nc ns ra rc rs fa fc zs w10 ⟨H.out.rules.at_.below C10.below, fun r hr => (H.out.rules.each r hr).smr (HLI.out.rule r hr), H.out.homes.row.below C10.below (Nat.le_refl _), H.out.names.row.below C10.below (Nat.le_refl _), HLI.out.most⟩ (H.out.facts.lies.below C10.below (Nat.le_refl _)) (fun z hz => (H.out.facts.at_ z hz).below C10.below (Nat.le_refl _)))
    go_wp2_with fail
    refine TR.out.mono ?_
    rintro e w11 ⟨⟨a, m, us, q8, rfl, L8, E8, HL8⟩, B8⟩
    have C11 := C10.next B8
    have K11 := below_heap B8 K10
    clear k0 k1 k2 k3 TR L8 E8
    have k0 : w11.cell? ⟨w3.heap.size, 0, none⟩ = some (.slice ha hs.length hc) := by rw [heap_cell K11]; rfl
    have k1 : w11.cell? ⟨w3.heap.size, 1, none⟩ = some (.slice na ns.length nc) := by rw [heap_cell K11]; rfl
    have k2 : w11.cell? ⟨w3.heap.size, 2, none⟩ = some (.slice a9 lx.length c9) := by rw [heap_cell K11]; rfl
    have k3 : w11.cell? ⟨w3.heap.size, 3, none⟩ = some (.slice a6 zx.length c6) := by rw [heap_cell K11]; rfl
    have TR2 := hideP (least12_at ha hc hs na nc ns a9 c9 lx a6 c6 zx w11 ⟨D10.out _ B8, fun r hr => (AR.out r hr).2.1.smr (AR.out r hr).2.2, H.out.homes.row.below C11.below (Nat.le_refl _), H.out.names.row.below C11.below (Nat.le_refl _), lxl.out⟩ (E10.out _ B8) (fun z hz => (AT.out z hz).1.below C11.below (Nat.le_refl _)))
    go_wp2_with fail
    refine TR2.out.mono ?_
    rintro e w12 ⟨⟨a2, m2', us2, q9, rfl, L9, E9, HL9⟩, B9⟩
    have C12 := C11.next B9
    have K12 := below_heap B9 K11
    have B12 := Below.then B8 B9
    clear k0 k1 k2 k3 TR2 L9 E9 B8 B9 C11 K11 K10
    cases q8 with
    | false =>
      clear HL8 HL9
      go_wp2_with fail
      refine (TV.out w12 C12.below).mono ?_
      rintro e w9 ⟨rfl, B9⟩
      go_wp2_with fail
      go_ret
      exact ⟨rfl, C12.below.trans (B9.mono C12.below.size)⟩
    | true =>
      cases q9 with
      | false =>
        clear HL8 HL9
        go_wp2_with fail
        refine (TV.out w12 C12.below).mono ?_
        rintro e w9 ⟨rfl, B9⟩
        go_wp2_with fail
        go_ret
        exact ⟨rfl, C12.below.trans (B9.mono C12.below.size)⟩
      | true =>
        have LF := hideP (HL8 rfl)
        have LF2 := hideP (HL9 rfl)
        clear HL8 HL9
        have GD := (Below.refl w12.heap.size w12).drew
        have HK : Hid (∀ X, Below w12.heap.size w12 X → (X.cell? ⟨W.heap.size, 0, none⟩ = some (.slice ha hs.length hc) ∧ X.cell? ⟨W.heap.size, 1, none⟩ = some (.slice na ns.length nc) ∧ X.cell? ⟨W.heap.size, 2, none⟩ = some (.slice ra rs.length rc) ∧ X.cell? ⟨W.heap.size, 3, none⟩ = some (.slice fa zs.length fc))) := fun X hb => (C12.next hb).cells
        have TW := hideP (fun X => world_at ha hc hs na nc ns ra rc rs fa fc zs X)
        have TM := hideP (fun X (hb : Below w12.heap.size w12 X) => mleast_at ra rc rs ha hc hs na nc ns fa fc zs (some (us.map Fv.f)) X ((H.out.lin HL.out HLI.out.rule).below (C12.next hb).below) (H.out.facts.lies.below (C12.next hb).below (Nat.le_refl _)) (fun z hz => (H.out.facts.at_ z hz).below (C12.next hb).below (Nat.le_refl _)) (fun z hz => (H.out.facts.each z hz).sm) LF.out)
        go_wp2_with fail
        go_region_held3 (fun X => X.cell? ⟨W.heap.size, 0, none⟩ = some (.slice ha hs.length hc) ∧ X.cell? ⟨W.heap.size, 1, none⟩ = some (.slice na ns.length nc) ∧ X.cell? ⟨W.heap.size, 2, none⟩ = some (.slice ra rs.length rc) ∧ X.cell? ⟨W.heap.size, 3, none⟩ = some (.slice fa zs.length fc)) (first | with_reducible exact HK.out _ GD | with_reducible exact HK.out _ G4 | with_reducible exact HK.out _ G5) (first
          | (go_at_call 16; refine (TW.out _).mono ?_; rintro e4 w13 ⟨rfl, b4⟩; have G4 := Below.then GD b4)
          | (go_at_call 19; refine (TM.out _ G4).mono ?_; rintro e5 w14 ⟨⟨ys, a5, c5, rfl, FA5, hy⟩, b5⟩; have G5 := Below.then G4 b5))
        have C14 := C12.next G5
        have K14 := below_heap G5 K12
        have B14 := Below.then B12 G5
        have HY : Hid (ys.map Fv.f = us.map Fv.f) := hy
        have HFA := hideP FA5
        clear TW TM HK GD b4 b5 hy FA5 G4 G5 K12 C12 B12
        have er0 : errOf (some (us.map Fv.f)) = 0 := rfl
        rw [er0]
        clear er0
        have GD := (Below.refl w14.heap.size w14).drew
        have HK : Hid (∀ X, Below w14.heap.size w14 X → (X.cell? ⟨w3.heap.size, 0, none⟩ = some (.slice ha hs.length hc) ∧ X.cell? ⟨w3.heap.size, 1, none⟩ = some (.slice na ns.length nc) ∧ X.cell? ⟨w3.heap.size, 2, none⟩ = some (.slice a9 lx.length c9) ∧ X.cell? ⟨w3.heap.size, 3, none⟩ = some (.slice a6 zx.length c6))) := fun X hb => by
          have := below_heap hb K14
          exact ⟨by rw [heap_cell this]; rfl, by rw [heap_cell this]; rfl, by rw [heap_cell this]; rfl, by rw [heap_cell this]; rfl⟩
        have TW := hideP (fun X => world_at ha hc hs na nc ns a9 c9 lx a6 c6 zx X)
        have LD := hideP (fun X (hb : Below w14.heap.size w14 X) => by
          have L := (H.out.lin HL.out HLI.out.rule).below (C14.next hb).below
          exact (⟨D10.out X (Below.then B14 hb), fun r hr => (AR.out r hr).2.1.smr (AR.out r hr).2.2, fun r hr => by
            obtain ⟨x, hx, rfl⟩ := List.mem_map.1 hr
            exact (AR.out x hx).2.1.smh, L.homes, L.hl, L.names, L.tab⟩ : LIn X a9 c9 lx ha hc hs na nc ns))
        have TM := hideP (fun X (hb : Below w14.heap.size w14 X) => mleast_at a9 c9 lx ha hc hs na nc ns a6 c6 zx (some (us2.map Fv.f)) X (LD.out X hb) (E10.out X (Below.then B14 hb)) (fun z hz => (AT.out z hz).1.below (C14.next hb).below (Nat.le_refl _)) (fun z hz => (AT.out z hz).2) LF2.out)
        go_wp2_with fail
        go_region_held3 (fun X => X.cell? ⟨w3.heap.size, 0, none⟩ = some (.slice ha hs.length hc) ∧ X.cell? ⟨w3.heap.size, 1, none⟩ = some (.slice na ns.length nc) ∧ X.cell? ⟨w3.heap.size, 2, none⟩ = some (.slice a9 lx.length c9) ∧ X.cell? ⟨w3.heap.size, 3, none⟩ = some (.slice a6 zx.length c6)) (first | with_reducible exact HK.out _ GD | with_reducible exact HK.out _ G4 | with_reducible exact HK.out _ G5) (first
          | (go_at_call 16; refine (TW.out _).mono ?_; rintro e4 w15 ⟨rfl, b4⟩; have G4 := Below.then GD b4)
          | (go_at_call 19; refine (TM.out _ G4).mono ?_; rintro e5 w16 ⟨⟨ys2, a7, c7, rfl, FA7, hy⟩, b5⟩; have G5 := Below.then G4 b5))
        have C16 := C14.next G5
        have M2 : Hid (minusF (ys.map Fv.f) (ys2.map Fv.f) = []) := by rw [HY.out, hy]; exact fixed_grows LF.out LF2.out SUBR.out SUB.out
        have TN := hideP (minus_at a5 a7 c5 c7 ys ys2 w16 (HFA.out.lies.below G5 (Nat.le_refl _)) FA7.lies (fun z hz => row_args ((HFA.out.below G5).each z hz).row) (fun z hz => row_args (FA7.each z hz).row))
        clear TW TM LD HK GD b4 b5 hy FA7 G4
        have er0 : errOf (some (us2.map Fv.f)) = 0 := rfl
        rw [er0]
        clear er0
        go_wp2_with fail
        refine TN.out.mono ?_
        rintro e w17 ⟨p9, k9, mt, rfl, -, -, hn, b9⟩
        have hn0 := map_nil (hn.trans M2.out)
        clear hn
        subst hn0
        have C17 := C16.next b9
        go_wp2_with fail
        refine (TV.out w17 C17.below).mono ?_
        rintro e w18 ⟨rfl, B18⟩
        go_wp2_with fail
        go_ret
        exact ⟨rfl, C17.below.trans (B18.mono C17.below.size)⟩
end Go.Proofs.YtdehimbfcilhpaaGreatDoor
