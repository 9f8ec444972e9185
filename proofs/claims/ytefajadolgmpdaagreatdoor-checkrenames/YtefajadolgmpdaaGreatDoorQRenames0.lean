/-
  CheckRenames: its walk.
-/
import Derived.Test.YtefajadolgmpdaaGreatDoorQLv0
import Derived.Test.YtefajadolgmpdaaGreatDoorQRb
import Derived.Test.YtefajadolgmpdaaGreatDoorQOp0
import Derived.Test.YtefajadolgmpdaaGreatDoorQWt0
import Derived.Test.YtefajadolgmpdaaGreatDoorQCp0
import Derived.Test.YtefajadolgmpdaaGreatDoorQOt0
import Derived.Deep.DeepCutAuto
namespace Go.Proofs.YtefajadolgmpdaaGreatDoor
open Go.RowKit Go.Lib Go.Shelf

abbrev zz9 : List UInt8 := [90, 122, 57]
theorem ren_rin {f z : List UInt8} {r : Ru} (h : Sh.RIn r) : Sh.RIn (Ck.renR f z r) := by
  obtain ⟨h1, h2, h3, h4⟩ := h
  refine ⟨h1, fun t ht => ?_, h3, fun l hl => ?_⟩
  · obtain ⟨u, hu, rfl⟩ := List.mem_map.1 ht
    exact h2 u hu
  · obtain ⟨u, hu, rfl⟩ := List.mem_map.1 hl
    obtain ⟨g1, g2, g3⟩ := h4 u hu
    refine ⟨g1, fun t ht => ?_, g3⟩
    obtain ⟨v, hv, rfl⟩ := List.mem_map.1 ht
    exact g2 v hv

/-- the rule, head and home renamed, and so many literals -/
def stB (f : List UInt8) (z0 : Rv) (x : Nat) : Rv := { z0 with home := Ck.ren f zz9 z0.home, args := z0.args.map (Ck.ren f zz9), to_ := Ck.ren f zz9 z0.to_, body := pm (lrn f zz9) x z0.body }
/-- and one literal as it stands -/
def stL (f : List UInt8) (z0 : Rv) (x : Nat) (l : Lv) : Rv := { stB f z0 x with body := (pm (lrn f zz9) x z0.body).set x l }
theorem stL_next {f : List UInt8} {z0 : Rv} {x : Nat} (h : x < z0.body.length) : stL f z0 x (lrn f zz9 z0.body[x]) = stB f z0 (x + 1) := by
  unfold stL stB
  simp only [pm_set _ h]
theorem stL_same {f : List UInt8} {z0 : Rv} {x : Nat} (h : x < z0.body.length) : stL f z0 x z0.body[x] = stB f z0 x := by
  unfold stL stB
  congr 1
  have := pm_get (lrn f zz9) h
  conv => lhs; rw [← this]
  rw [List.set_getElem_self]
theorem stB_all {f : List UInt8} {z0 : Rv} {x : Nat} (h : z0.body.length ≤ x) : stB f z0 x = rrn f zz9 z0 := by
  unfold stB rrn
  simp only [pm_all _ h]
theorem stL_set (f : List UInt8) (z0 : Rv) (x : Nat) (l l' : Lv) : { stL f z0 x l with body := (stL f z0 x l).body.set x l' } = stL f z0 x l' := by
  unfold stL
  simp only [List.set_set]
theorem stL_len (f : List UInt8) (z0 : Rv) (x : Nat) (l : Lv) : (stL f z0 x l).body.length = z0.body.length := by
  unfold stL
  simp only [List.length_set, pm_len]
theorem stL_get {f : List UInt8} {z0 : Rv} {x : Nat} {l : Lv} (h : x < (stL f z0 x l).body.length) : (stL f z0 x l).body[x] = l := by
  exact List.getElem_set_self ..
theorem stL_cells {f : List UInt8} {z0 : Rv} {x : Nat} {l : Lv} {W : World} {A O I c : Nat} {zs : List Rv} {L : Nat} (hI : I < zs.length) (h : Mem L W (some ⟨A, O, none⟩) c (zs.set I (stL f z0 x l))) (hx : x < z0.body.length) {bb ob : Nat} (hb : z0.ba = some ⟨bb, ob, none⟩) :
    W.cell? ⟨A, O + I * 11 + 10, none⟩ = some (.slice (some ⟨bb, ob, none⟩) z0.body.length z0.bcap) ∧ RowT lK 54 W (some ⟨bb, ob, none⟩) z0.bcap (stL f z0 x l).body ∧ W.rangeAt bb (ob + x * 10) (lv l) ∧ Lv.At W l := by
  have hI' : I < (zs.set I (stL f z0 x l)).length := by rw [List.length_set]; exact hI
  have h1 := h.row.row.range I hI'
  rw [at_same] at h1
  have hm : stL f z0 x l ∈ zs.set I (stL f z0 x l) := by have := List.getElem_mem hI'; rwa [at_same] at this
  have hA := h.each _ hm
  have hB : RowT lK 54 W z0.ba z0.bcap (stL f z0 x l).body := hA.body
  rw [hb] at hB
  have hx' : x < (stL f z0 x l).body.length := by rw [stL_len]; exact hx
  refine ⟨?_, hB, ?_, ?_⟩
  · have := h1 10 _ rfl
    rw [show O + I * rK.k + 10 = O + I * 11 + 10 from rfl] at this
    rw [this, stL_len]
    show some (Value.slice z0.ba _ _) = _
    rw [hb]; rfl
  · have := hB.row.range x hx'
    rw [stL_get] at this
    exact this
  · have := hA.each _ (List.getElem_mem hx')
    rwa [stL_get] at this

set_option maxRecDepth 100000 in
set_option maxHeartbeats 4000000 in
theorem checkRenames_walk (a : Option Addr) (c : Nat) (xs : List Rv) (i k : Int) (w : World) (hL : Laid w) (hx : Row rK w a c xs) (ax : ∀ x ∈ xs, Rv.Aw w x) (nx : ∀ x ∈ xs, Sh.RIn x.r ∧ TxR x ∧ TxV x.r) (_ : -9223372036854775808 ≤ i) (_ : i ≤ 9223372036854775807) (_ : -9223372036854775808 ≤ k) (_ : k ≤ 9223372036854775807) :
    Calls Tryz.prog 7 #[.slice a xs.length c, .int .i64 i, .int .i64 k] w fun e w' => e = .returned (.bool true) ∧ Below w.heap.size w w' := by
  have LV := hideP live10_at
  have rw0 : Rws w a c xs := ⟨hx, ax⟩
  have hin : ∀ x ∈ xs, Sh.RIn x.r := fun x h => (nx x h).1
  have few := hx.few
  go_enter Tryz.func7, Tryz.ntmps7
  go_wp2_with fail
  refine (rweight_few2 a c xs w hx ax (fun x h => (nx x h).2.1)).mono ?_
  rintro e w1 ⟨⟨r, rfl, hfew⟩, g1⟩
  have B1 : Below w.heap.size w w1 := g1.below
  have HF := hideP hfew
  clear hfew g1
  by_cases hr : r > 200
  · go_wp2_with fail
    refine (LV.out _ (hL.below B1)).mono ?_
    rintro e w2 ⟨rfl, b2⟩
    go_wp2_with fail
    go_ret
    exact ⟨rfl, Below.then B1 b2⟩
  obtain ⟨hn, hfx⟩ := HF.out (by omega)
  clear HF
  by_cases hz : xs.length = 0
  · have q0 : ((xs.length : Int) == 0) = true := by simpa using hz
    go_wp2_with fail
    refine (LV.out _ (hL.below B1)).mono ?_
    rintro e w2 ⟨rfl, b2⟩
    go_wp2_with fail
    go_ret
    exact ⟨rfl, Below.then B1 b2⟩
  have q0 : ((xs.length : Int) == 0) = false := by simpa using hz
  have qn : (xs.length : Int) ≠ 0 := by omega
  have hpos : 0 < xs.length := by omega
  have T1 := hideP (checkProg_at a c xs w1 (hL.below B1) (rw0.below B1) hin)
  obtain ⟨P0, hP0⟩ : ∃ P0, Ck.prog (xs.map Rv.r) = P0 := ⟨_, rfl⟩
  rw [hP0] at T1
  have HP0 := hideP hP0
  clear hP0
  obtain ⟨p1, p2, p3⟩ := P0
  simp only [ansV] at T1
  go_wp2_with fail
  refine T1.out.mono ?_
  rintro e w2 ⟨rfl, b2⟩
  have B2 := Below.then B1 b2
  clear T1 b2 B1 hz
  by_cases h100 : p1 = 100
  · have q1 : (p1 == 100) = true := by simpa using h100
    clear h100
    go_wp2_with fail
    refine (LV.out _ (hL.below B2)).mono ?_
    rintro e w3 ⟨rfl, b3⟩
    go_wp2_with fail
    go_ret
    exact ⟨rfl, Below.then B2 b3⟩
  have q1 : (p1 == 100) = false := by simpa using h100
  have H100 := hideP h100
  clear h100
  by_cases h81 : p1 = 81
  · have q2 : (p1 == 81) = true := by simpa using h81
    clear h81
    go_wp2_with fail
    refine (LV.out _ (hL.below B2)).mono ?_
    rintro e w3 ⟨rfl, b3⟩
    go_wp2_with fail
    go_ret
    exact ⟨rfl, Below.then B2 b3⟩
  have q2 : (p1 == 81) = false := by simpa using h81
  clear h81
  obtain ⟨⟨t1, t2⟩, I, hI, hIl⟩ := tmod_ix i xs.length hpos
  obtain ⟨A1, O1, rfl⟩ := hx.addr hpos
  have RR := hideP (fun W (h : Below w.heap.size w W) => (show W.rangeAt A1 (O1 + I * 11) (rv (xs[I]'hIl)) from (hx.below h (Nat.le_refl _)).range I hIl))
  have aX := ax _ (List.getElem_mem hIl)
  have vX := vok_of (nx _ (List.getElem_mem hIl)).2.2 (hfx _ (List.getElem_mem hIl)).few
  have HX : Hid (∀ zs : List Rv, zs.map Rv.r = xs.map Rv.r → ∀ h : I < zs.length, zs[I].r = (xs[I]'hIl).r) := fun zs hzs h => by
    have h1 : (zs.map Rv.r)[I]'(by rw [List.length_map]; exact h) = (xs.map Rv.r)[I]'(by rw [List.length_map]; exact hIl) := by simp only [hzs]
    rwa [List.getElem_map, List.getElem_map] at h1
  generalize (xs[I]'hIl) = x at *
  have iP : (Tryz.prog.info? 42).map (·.size) = some (rv x).length := Tryz.iR11
  have r2 := RR.out w2 B2
  go_wp2_with (refine wpList_load_mid rfl 42 _ rfl A1 (O1 + I * 11) rfl (rv x) _ r2 Tryz.underlying42 rfl iP ?_)
  refine (rvars_at x w2 (aX.below B2 (Nat.le_refl _)) vX).mono ?_
  rintro e w3 ⟨⟨a3, c3, rfl, R3⟩, b3⟩
  have B3 := Below.then B2 b3
  clear r2 b3
  have hNl : (Ck.vars x.r).length ≤ 100000 := Ck.bnd_all_len vX _
  generalize hN : Ck.vars x.r = N at *
  by_cases h0 : N.length = 0
  · have q3 : ((N.length : Int) == 0) = true := by simpa using h0
    clear h0
    go_wp2_with fail
    refine (LV.out _ (hL.below B3)).mono ?_
    rintro e w4 ⟨rfl, b4⟩
    go_wp2_with fail
    go_ret
    exact ⟨rfl, Below.then B3 b4⟩
  have q3 : ((N.length : Int) == 0) = false := by simpa using h0
  have qN : (N.length : Int) ≠ 0 := by omega
  have hNp : 0 < N.length := by omega
  clear h0
  obtain ⟨⟨t3, t4⟩, J, hJ, hJl⟩ := tmod_ix k N.length hNp
  obtain ⟨A3, O3, rfl⟩ := R3.addr hNp
  have cF := R3.text J hJl
  have hfm := hideP (List.getElem_mem hJl)
  generalize (N[J]'hJl) = f at *
  have TH := hideP (rhas_at w3 _ c3 N zz9 R3)
  go_wp2_with fail
  refine TH.out.mono ?_
  rintro e w4 ⟨rfl, hww⟩
  subst hww
  cases hh : decide (zz9 ∈ N) with
  | true =>
    clear hh
    go_wp2_with fail
    refine (LV.out _ (hL.below B3)).mono ?_
    rintro e w4 ⟨rfl, b4⟩
    go_wp2_with fail
    go_ret
    exact ⟨rfl, Below.then B3 b4⟩
  | false =>
    have HV : Hid (zz9 ∉ N) := hideP (by simpa using hh)
    clear hh TH
    go_wp2_with fail
    refine (rcopy0_at _ c xs w3 (hx.below B3 (Nat.le_refl _)) (fun x h => (ax x h).below B3 (Nat.le_refl _)) (by omega) (fun x h => (hfx x h).few)).mono ?_
    rintro e w5 ⟨a5, c5, zs, rfl, M5, hzs, b5⟩
    have hlen : zs.length = xs.length := by have := congrArg List.length hzs; simpa using this
    have hIz : I < zs.length := by omega
    have hzx := HX.out zs hzs hIz
    obtain ⟨A5, O5, rfl⟩ := M5.row.row.addr (by omega)
    have hlf : zs.length ≤ 300 := by omega
    have B5 := Below.then B3 b5
    have B5a : w.heap.size ≤ w3.heap.size := B3.size
    have HR : Hid (∀ own : Bool, (own = false → (∀ t ∈ (zs[I]'hIz).args, t.v ≠ zz9) ∧ (zs[I]'hIz).to_.v ≠ zz9) → own = false → Ck.prog ((zs.set I (rrn f zz9 (zs[I]'hIz))).map Rv.r) = (p1, p2, p3)) := fun own h ho => by
      rw [← HP0.out]
      obtain ⟨h1, h2⟩ := h ho
      exact ren_ans hIz hzs (by rw [hzx, hN]; exact hfm.out) (by rw [hzx, hN]; exact HV.out) h1 h2 (by rw [HP0.out]; exact H100.out)
    have HI2 : Hid (∀ y ∈ zs.set I (rrn f zz9 (zs[I]'hIz)), Sh.RIn y.r) := fun y hy => by
      have hz : ∀ z ∈ zs, Sh.RIn z.r := fun z hz => by
        have : z.r ∈ xs.map Rv.r := by rw [← hzs]; exact List.mem_map_of_mem hz
        obtain ⟨x, hx, he⟩ := List.mem_map.1 this
        rw [← he]; exact hin x hx
      rcases List.mem_or_eq_of_mem_set hy with h | h
      · exact hz y h
      · rw [h, rrn_r]; exact ren_rin (hz _ (List.getElem_mem hIz))
    have hf : f ≠ [] := by
      have := hfm.out
      rw [← hN] at this
      exact vars_ne f this
    have HRN := hideP (fun t W => renamed_at t f zz9 W hf)
    have M6 : Mem w3.heap.size w5 (some ⟨A5, O5, none⟩) c5 (zs.set I (zs[I]'hIz)) := by rw [List.set_getElem_self]; exact M5
    have aZ := M6.each _ (by rw [List.set_getElem_self]; exact List.getElem_mem hIz : (zs[I]'hIz) ∈ zs.set I (zs[I]'hIz))
    have fA := aZ.args.row.few
    have fB := aZ.body.row.few
    have fL : Hid (∀ l ∈ (zs[I]'hIz).body, l.args.length ≤ 4398046510976) := fun l hl => Row.few (RowT.row (show RowT tK 38 _ _ _ _ from aZ.each l hl))
    clear aZ
    have qI : (I : Int) < (zs.length : Int) := by omega
    generalize (zs[I]'hIz) = z0 at *
    clear hzx HX M5 hzs HV H100 HP0 hfm hN R3 cF hf q0 q1 q2 q3 qn qN t1 t2 t3 t4 hI hJ hJl hNp hNl vX aX iP RR hfx hn nx rw0 hin ax hr hpos
    go_wp2_with fail
    go_loopw [14, 15] (fun v14 v15 wr => ∃ (own : Bool) (j : Nat), v14 = .bool own ∧ v15 = .int .i64 (j : Int) ∧ j ≤ z0.args.length ∧ Hid (own = false → ∀ t ∈ z0.args.take j, t.v ≠ zz9) ∧ Mem w3.heap.size wr (some ⟨A5, O5, none⟩) c5 (zs.set I { z0 with args := pm (Ck.ren f zz9) j z0.args }) ∧ Below w.heap.size w wr) (fun _ v15 _ => z0.args.length - (RowKit.intOf v15).toNat)
    case atStart => exact ⟨false, 0, rfl, rfl, Nat.zero_le _, fun _ t h => by simp at h, by rw [pm_zero]; exact M6, B5⟩
    case round =>
      obtain ⟨own, j, rfl, rfl, hj, HO, M, B⟩ := hrel
      have hIs : I < (zs.set I { z0 with args := pm (Ck.ren f zz9) j z0.args }).length := by rw [List.length_set]; exact hIz
      have HROW := hideP (fun W (h : Mem w3.heap.size W (some ⟨A5, O5, none⟩) c5 (zs.set I { z0 with args := pm (Ck.ren f zz9) j z0.args })) => (show W.rangeAt A5 (O5 + I * 11) (rv { z0 with args := pm (Ck.ren f zz9) j z0.args }) by
        have := h.row.row.range I hIs
        rw [at_same] at this
        exact this))
      by_cases hlt : j < z0.args.length
      · have q4 : (j : Int) < (z0.args.length : Int) := by omega
        have hA := (M.each _ (by have := List.getElem_mem hIs; rwa [at_same] at this)).args
        simp only at hA
        obtain ⟨b, o, ha⟩ := hA.row.addr (by rw [pm_len]; omega)
        rw [ha] at hA
        have CH := hideP (fun (W : World) (h : Mem w3.heap.size W (some ⟨A5, O5, none⟩) c5 (zs.set I { z0 with args := pm (Ck.ren f zz9) j z0.args })) => (show W.cell? ⟨A5, O5 + I * 11 + 5, none⟩ = some (.slice (some ⟨b, o, none⟩) z0.args.length z0.cap) by
          have := HROW.out W h 5 _ rfl
          simp only [pm_len] at this
          rw [this]; simp [ha]))
        have ce := hA.row.range j (by rw [pm_len]; exact hlt)
        rw [pm_get _ hlt] at ce
        have TN : Hid (∀ own' : Bool, (own' = false → own = false ∧ (z0.args[j]'hlt).v ≠ zz9) → own' = false → ∀ t ∈ z0.args.take (j + 1), t.v ≠ zz9) := fun own' h ho t ht => by
          rw [List.take_succ_eq_append_getElem hlt] at ht
          rcases List.mem_append.1 ht with ht | ht
          · exact HO.out (h ho).1 t ht
          · rw [List.mem_singleton] at ht; subst ht; exact (h ho).2
        have ST : Hid ((pm (Ck.ren f zz9) j z0.args).set j (Ck.ren f zz9 (z0.args[j]'hlt)) = pm (Ck.ren f zz9) (j + 1) z0.args) := pm_set _ hlt
        generalize (z0.args[j]'hlt) = t at *
        have ch := CH.out wr M
        have c0 : wr.cell? ⟨b, o + j * 4, none⟩ = some (str t.v) := ce 0 _ rfl
        have HW := hideP (fun (W : World) (h : Below wr.heap.size wr W) => (show Mem w3.heap.size (W.setCells b (o + j * 4) (tv (Ck.ren f zz9 t))) (some ⟨A5, O5, none⟩) c5 (zs.set I { z0 with args := pm (Ck.ren f zz9) (j + 1) z0.args }) ∧ Below w.heap.size w (W.setCells b (o + j * 4) (tv (Ck.ren f zz9 t))) by
          have h1 := (M.below h).arg1 (k := j) (t := Ck.ren f zz9 t) hIz ha (by simp only [pm_len]; exact hlt)
          simp only [ST.out] at h1
          exact ⟨h1.1, (Below.then B h).trans (h1.2.mono (Nat.le_trans B5a (Nat.le_refl _)))⟩))
        have CE := hideP (fun (W : World) (h : Below wr.heap.size wr W) => (show W.rangeAt b (o + j * 4) (tv t) from rangeAt_next ce h))
        have CT := hideP (fun (W : World) (h : Below wr.heap.size wr W) => (show W.there b (o + j * 4) 4 by
          have := RowT.there (D := tK) (d := 0) (m := 4) (k := j) ((show RowT tK 38 wr (some ⟨b, o, none⟩) _ _ from hA).safe (Safe.below h)) (by rw [pm_len]; exact hlt) (by decide)
          exact this))
        clear HROW ST
        have hbA : b ≠ A5 := fun e => by
          obtain ⟨C, ht⟩ := hA.tag _ rfl
          obtain ⟨C', ht'⟩ := M.row.tag _ rfl
          simp only at ht ht'
          rw [e, ht'] at ht; cases ht
        clear hA
        obtain ⟨v, ⟨nm, n, s⟩⟩ := t
        simp only at c0 TN
        have TR := hideP (fun W => HRN.out ⟨v, ⟨nm, n, s⟩⟩ W)
        generalize Ck.ren f zz9 ⟨v, ⟨nm, n, s⟩⟩ = t' at *
        have q5 : z0.args.length ≤ 4398046510976 := fA
        go_upto_region 19 with fail
        go_cut [14] (fun u wc => ∃ own' : Bool, u = .bool own' ∧ Hid (own' = false → own = false ∧ v ≠ zz9) ∧ wr = wc)
        case first =>
          cases own with
          | true =>
            go_wp2_with fail
            go_meet
            exact ⟨true, rfl, (fun h => by cases h), rfl⟩
          | false =>
            by_cases hv : v = zz9
            · have qv : (v == zz9) = true := by simpa using hv
              clear hv
              go_wp2_with fail
              go_meet
              exact ⟨true, rfl, (fun h => by cases h), rfl⟩
            · have qv : (v == zz9) = false := by simpa using hv
              have HV2 := hideP hv
              clear hv
              go_wp2_with fail
              go_meet
              exact ⟨false, rfl, (fun _ => ⟨by trivial, HV2.out⟩), rfl⟩
        obtain ⟨own', rfl, HO2, hww⟩ := hcut
        subst hww
        have TN2 := hideP (TN.out own' HO2.out)
        clear TN HO HO2
        rename_i K hK
        apply hK
        clear hK
        have gD := (Below.refl wr.heap.size wr).drew
        have chD := CH.out _ (M.below gD)
        have hu := Tryz.underlying38
        have iT : (Tryz.prog.info? 38).map (·.size) = some 4 := by kernel_rfl
        have ceD := CE.out _ gD
        go_wp2_with fail
        refine wp_region_held_drew (S := fun W => W.cell? ⟨A5, O5 + I * 11 + 5, none⟩ = some (.slice (some ⟨b, o, none⟩) z0.args.length z0.cap)) (by kernel_rfl) chD (fun hHeld => ?_)
        refine wpAnyH_take (i := 0) (v := .pointer (some ⟨A5, O5 + I * 11, none⟩)) rfl (by kernel_rfl) (by kernel_rfl) (by kernel_rfl) (fun _ _ _ h => h) (Or.inl ⟨by kernel_rfl, fun w hSw => by kernel_rfl⟩) hHeld ?_
        refine wpAnyH_take (i := 1) (v := .pointer (some ⟨A5, O5 + I * 11, none⟩)) rfl (by kernel_rfl) (by kernel_rfl) (by kernel_rfl) (fun _ _ _ h => h) (Or.inl ⟨by kernel_rfl, fun w hSw => by kernel_rfl⟩) hHeld ?_
        refine wpAnyH_take (i := 2) (v := .pointer (some ⟨A5, O5 + I * 11 + 5, none⟩)) rfl (by kernel_rfl) (by kernel_rfl) (by kernel_rfl) (fun _ _ _ h => h) (Or.inl ⟨by kernel_rfl, fun w hSw => by kernel_rfl⟩) hHeld ?_
        refine wpAnyH_take (i := 3) (v := .slice (some ⟨b, o, none⟩) z0.args.length z0.cap) rfl (by kernel_rfl) (by kernel_rfl) (by kernel_rfl) (fun _ _ _ h => h) (yieldsIf_load_cel (by kernel_rfl) 39 _ rfl A5 (O5 + I * 11 + 5) (.slice (some ⟨b, o, none⟩) z0.args.length z0.cap) (by kernel_rfl) Tryz.isAgg39 (fun _ h => h)) hHeld ?_
        refine wpAnyH_take (i := 4) (v := .int .i64 (j : Int)) rfl (by kernel_rfl) (by kernel_rfl) (by kernel_rfl) (fun _ _ _ h => h) (Or.inl ⟨by kernel_rfl, fun w hSw => by kernel_rfl⟩) hHeld ?_
        refine wpAnyH_take (i := 5) (v := .pointer (some ⟨A5, O5 + I * 11, none⟩)) rfl (by kernel_rfl) (by kernel_rfl) (by kernel_rfl) (fun _ _ _ h => h) (Or.inl ⟨by kernel_rfl, fun w hSw => by kernel_rfl⟩) hHeld ?_
        refine wpAnyH_take (i := 6) (v := .pointer (some ⟨A5, O5 + I * 11, none⟩)) rfl (by kernel_rfl) (by kernel_rfl) (by kernel_rfl) (fun _ _ _ h => h) (Or.inl ⟨by kernel_rfl, fun w hSw => by kernel_rfl⟩) hHeld ?_
        refine wpAnyH_take (i := 7) (v := .pointer (some ⟨A5, O5 + I * 11 + 5, none⟩)) rfl (by kernel_rfl) (by kernel_rfl) (by kernel_rfl) (fun _ _ _ h => h) (Or.inl ⟨by kernel_rfl, fun w hSw => by kernel_rfl⟩) hHeld ?_
        refine wpAnyH_take (i := 8) (v := .slice (some ⟨b, o, none⟩) z0.args.length z0.cap) rfl (by kernel_rfl) (by kernel_rfl) (by kernel_rfl) (fun _ _ _ h => h) (yieldsIf_load_cel (by kernel_rfl) 39 _ rfl A5 (O5 + I * 11 + 5) (.slice (some ⟨b, o, none⟩) z0.args.length z0.cap) (by kernel_rfl) Tryz.isAgg39 (fun _ h => h)) hHeld ?_
        refine wpAnyH_take (i := 9) (v := .int .i64 (j : Int)) rfl (by kernel_rfl) (by kernel_rfl) (by kernel_rfl) (fun _ _ _ h => h) (Or.inl ⟨by kernel_rfl, fun w hSw => by kernel_rfl⟩) hHeld ?_
        refine wpAnyH_take (i := 10) (v := .pointer (some ⟨b, o + j * 4, none⟩)) rfl (by kernel_rfl) (by kernel_rfl) (by kernel_rfl) (fun _ _ _ h => h) (Or.inl ⟨by kernel_rfl, fun w hSw => by go_simp⟩) hHeld ?_
        refine wpAnyH_take (i := 12) (v := str f) rfl (by kernel_rfl) (by kernel_rfl) (by kernel_rfl) (fun _ _ _ h => h) (Or.inl ⟨by kernel_rfl, fun w hSw => by kernel_rfl⟩) hHeld ?_
        refine wpAnyH_one 11 (by kernel_rfl) ?_
        refine wpOp_load_mid rfl rfl 38 _ rfl b (o + j * 4) (by kernel_rfl) (tv ⟨v, ⟨nm, n, s⟩⟩) _ ceD hu rfl iT ⟨hHeld, ?_⟩
        refine wpAnyH_one 13 (by kernel_rfl) ?_
        refine wpOp_enter rfl rfl (f := 22) (args := #[tval ⟨v, ⟨nm, n, s⟩⟩, str f, str zz9]) (by kernel_rfl) (TR.out wr.drew) ?_
        intro w6 b6
        have g6 := Below.then gD b6
        have hHeld := CH.out _ (M.below g6)
        refine ⟨hHeld, ?_⟩
        refine wpAnyH_take (i := 14) (v := .pointer (some ⟨b, o + j * 4, none⟩)) rfl (by kernel_rfl) (by kernel_rfl) (by kernel_rfl) (fun _ _ _ h => h) (Or.inl ⟨by kernel_rfl, fun w hSw => by go_simp⟩) hHeld ?_
        have ch7 : (w6.setCells b (o + j * 4) (tv t')).cell? ⟨A5, O5 + I * 11 + 5, none⟩ = some (.slice (some ⟨b, o, none⟩) z0.args.length z0.cap) := (cell_setCells_other b _ _ _ _ (fun _ h => absurd h.symm hbA)).trans hHeld
        refine wpAnyH_one 15 (by kernel_rfl) ?_
        refine wpOp_store_mid rfl rfl 38 _ _ rfl b (o + j * 4) (tv t') (by kernel_rfl) (by kernel_rfl) (CT.out _ g6) iT (tv_one t') ⟨ch7, ?_⟩
        obtain ⟨M7, B7⟩ := HW.out w6 g6
        generalize w6.setCells b (o + j * 4) (tv t') = w7 at *
        refine wpAnyH_done (by kernel_rfl) ?_ _
        simp only [Act.put, List.getElem_toArray, List.getElem_cons_succ, List.getElem_cons_zero, List.setIfInBounds_toArray, List.set_cons_zero, List.set_cons_succ]
        go_wp2_with fail
        exact ⟨⟨own', j + 1, rfl, by go_num, by omega, TN2, M7, B7⟩, by simp [RowKit.intOf]; omega⟩
      · have q4 : ¬ (j : Int) < (z0.args.length : Int) := by omega
        rw [pm_all _ (by omega)] at M
        rw [List.take_of_length_le (by omega)] at HO
        clear HROW hIs
        have hIs : I < (zs.set I { z0 with args := z0.args.map (Ck.ren f zz9) }).length := by rw [List.length_set]; exact hIz
        have hu := Tryz.underlying38
        have iT : (Tryz.prog.info? 38).map (·.size) = some 4 := by kernel_rfl
        have h1 := M.row.row.range I hIs
        rw [at_same] at h1
        have h5 : wr.cell? ⟨A5, O5 + I * 11 + 5, none⟩ = some (.slice z0.a z0.args.length z0.cap) := by
          have := h1 5 _ rfl
          rw [show O5 + I * rK.k + 5 = O5 + I * 11 + 5 from rfl] at this
          rw [this]
          simp
        have h6 : wr.cell? ⟨A5, O5 + I * 11 + 6, none⟩ = some (str z0.to_.v) := h1 6 _ rfl
        have hH : wr.rangeAt A5 (O5 + I * 11) (tv z0.home) := fun q u hu => h1 q u (by
          have hq : q < 4 := (List.getElem?_eq_some_iff.1 hu).1
          match q, hq with
          | 0, _ => exact hu
          | 1, _ => exact hu
          | 2, _ => exact hu
          | 3, _ => exact hu)
        clear h1
        generalize hvt : z0.to_.v = vt at *
        go_upto_region 21 with fail
        go_cut [14] (fun u wc => ∃ own' : Bool, u = .bool own' ∧ Hid (own' = false → own = false ∧ vt ≠ zz9) ∧ wr = wc)
        case first =>
          cases own with
          | true =>
            go_wp2_with fail
            go_meet
            exact ⟨true, rfl, (fun h => by cases h), rfl⟩
          | false =>
            by_cases hv : vt = zz9
            · have qv : (vt == zz9) = true := by simpa using hv
              clear hv
              go_wp2_with fail
              go_meet
              exact ⟨true, rfl, (fun h => by cases h), rfl⟩
            · have qv : (vt == zz9) = false := by simpa using hv
              have HV2 := hideP hv
              clear hv
              go_wp2_with fail
              go_meet
              exact ⟨false, rfl, (fun _ => ⟨by trivial, HV2.out⟩), rfl⟩
        obtain ⟨own', rfl, HO2, hww⟩ := hcut
        subst hww
        have HRR : Hid (own' = false → Ck.prog ((zs.set I (rrn f zz9 z0)).map Rv.r) = (p1, p2, p3)) := fun h => HR.out own' (fun h => ⟨HO.out (HO2.out h).1, (HO2.out h).2⟩) h
        clear HO HO2 HR hvt h5 h6
        rename_i K hK
        apply hK
        clear hK
        go_wp2_with (refine wpList_load_mid rfl 38 _ rfl A5 (O5 + I * 11) rfl (tv z0.home) _ hH hu rfl iT ?_)
        refine (HRN.out z0.home wr).mono ?_
        rintro e w6 ⟨rfl, b6⟩
        have M6 := M.below b6
        have ct : w6.there A5 (O5 + I * 11) 4 := RowT.there (D := rK) (d := 0) (m := 4) (k := I) M6.row hIs (by decide)
        have MH : Mem w3.heap.size (w6.setCells A5 (O5 + I * 11) (tv (Ck.ren f zz9 z0.home))) (some ⟨A5, O5, none⟩) c5 (zs.set I { z0 with home := Ck.ren f zz9 z0.home, args := z0.args.map (Ck.ren f zz9) }) ∧ Below w3.heap.size w6 (w6.setCells A5 (O5 + I * 11) (tv (Ck.ren f zz9 z0.home))) := by
          refine M6.head1 (d := 0) (V := tv (Ck.ren f zz9 z0.home)) hIz (of_decide_eq_true rfl) ?_ ?_ ⟨rfl, rfl, rfl, rfl, rfl, rfl⟩
          · intro q h1 h2
            have h2' : q < 4 := h2
            match q, h2' with
            | 0, _ => rfl
            | 1, _ => rfl
            | 2, _ => rfl
            | 3, _ => rfl
          · intro q h1
            have h1' : 4 ≤ q := by
              rcases h1 with h1 | h1
              · omega
              · exact h1
            obtain ⟨q', rfl⟩ : ∃ q', q = q' + 4 := ⟨q - 4, by omega⟩
            rfl
        have B7 := (Below.then B b6).trans (MH.2.mono B5a)
        go_upto_region 23 with (refine wpList_store_named rfl 38 _ _ rfl A5 (O5 + I * 11) (tv (Ck.ren f zz9 z0.home)) rfl rfl ct iT (tv_one _) ?_; intro w7 hw7)
        have M7 := MH.1
        rw [hw7] at M7 B7
        have hIs7 : I < (zs.set I { z0 with home := Ck.ren f zz9 z0.home, args := z0.args.map (Ck.ren f zz9) }).length := by rw [List.length_set]; exact hIz
        have hT : w7.rangeAt A5 (O5 + I * 11 + 6) (tv z0.to_) := fun q u hu => by
          have h1 := M7.row.row.range I hIs7
          rw [at_same] at h1
          have hq : q < 4 := (List.getElem?_eq_some_iff.1 hu).1
          rw [Nat.add_assoc]
          refine h1 (6 + q) u ?_
          match q, hq with
          | 0, _ => exact hu
          | 1, _ => exact hu
          | 2, _ => exact hu
          | 3, _ => exact hu
        clear M MH M6 ct hw7 hH B b6 hIs
        go_wp2_with (refine wpList_load_mid rfl 38 _ rfl A5 (O5 + I * 11 + 6) rfl (tv z0.to_) _ hT hu rfl iT ?_)
        refine (HRN.out z0.to_ w7).mono ?_
        rintro e w8 ⟨rfl, b8⟩
        have M8 := M7.below b8
        have ct : w8.there A5 (O5 + I * 11 + 6) 4 := RowT.there (D := rK) (d := 6) (m := 4) (k := I) M8.row hIs7 (by decide)
        have MT : Mem w3.heap.size (w8.setCells A5 (O5 + I * 11 + 6) (tv (Ck.ren f zz9 z0.to_))) (some ⟨A5, O5, none⟩) c5 (zs.set I (stB f z0 0)) ∧ Below w3.heap.size w8 (w8.setCells A5 (O5 + I * 11 + 6) (tv (Ck.ren f zz9 z0.to_))) := by
          refine M8.head1 (d := 6) (V := tv (Ck.ren f zz9 z0.to_)) hIz (of_decide_eq_true rfl) ?_ ?_ ⟨rfl, rfl, rfl, rfl, rfl, rfl⟩
          · intro q h1 h2
            have h2' : q < 10 := h2
            match q, h1, h2' with
            | 6, _, _ => rfl
            | 7, _, _ => rfl
            | 8, _, _ => rfl
            | 9, _, _ => rfl
          · intro q h1
            rcases h1 with h1 | h1
            · match q, h1 with
              | 0, _ => rfl
              | 1, _ => rfl
              | 2, _ => rfl
              | 3, _ => rfl
              | 4, _ => rfl
              | 5, _ => rfl
            · have h1' : 10 ≤ q := h1
              obtain ⟨q', rfl⟩ : ∃ q', q = q' + 10 := ⟨q - 10, by omega⟩
              rfl
        have B9 := (Below.then B7 b8).trans (MT.2.mono B5a)
        go_upto_region 24 with (refine wpList_store_named rfl 38 _ _ rfl A5 (O5 + I * 11 + 6) (tv (Ck.ren f zz9 z0.to_)) rfl rfl ct iT (tv_one _) ?_; intro w9 hw9)
        have M9 := MT.1
        rw [hw9] at M9 B9
        clear M7 MT M8 ct hw9 hT B7 b8 hIs7
        go_wp2_with fail
        go_loopw [16, 17] (fun v16 _ wr => ∃ x : Nat, v16 = .int .i64 (x : Int) ∧ x ≤ z0.body.length ∧ Mem w3.heap.size wr (some ⟨A5, O5, none⟩) c5 (zs.set I (stB f z0 x)) ∧ Below w.heap.size w wr) (fun v16 _ _ => z0.body.length - (RowKit.intOf v16).toNat)
        case atStart => exact ⟨0, rfl, Nat.zero_le _, M9, B9⟩
        case round =>
          obtain ⟨x, rfl, hx2, M, B⟩ := hrel
          by_cases hlt : x < z0.body.length
          · have q5 : (x : Int) < (z0.body.length : Int) := by omega
            have fLx := fL.out _ (List.getElem_mem hlt)
            have SN := hideP (stL_next (f := f) (z0 := z0) hlt)
            rw [← stL_same hlt] at M
            have hm0 : stL f z0 x (z0.body[x]'hlt) ∈ zs.set I (stL f z0 x (z0.body[x]'hlt)) := by
              have hI' : I < (zs.set I (stL f z0 x (z0.body[x]'hlt))).length := by rw [List.length_set]; exact hIz
              have := List.getElem_mem hI'
              rwa [at_same] at this
            obtain ⟨bb, ob, hbb⟩ : ∃ bb ob, z0.ba = some ⟨bb, ob, none⟩ := Row.addr (show Row lK wr z0.ba z0.bcap _ from ((M.each _ hm0).body).row) (by rw [stL_len]; omega)
            clear hm0
            generalize (z0.body[x]'hlt) = l at *
            have c10 := (stL_cells hIz M hlt hbb).1
            go_upto_region 27 with fail
            clear c10
            have gD := (Below.refl wr.heap.size wr).drew
            have MD := M.below gD
            have chD := (stL_cells hIz MD hlt hbb).1
            have ceD : wr.drew.rangeAt bb (ob + x * 10) (tv l.by_) := (lit_in (stL_cells hIz MD hlt hbb).2.2.1).1
            go_wp2_with fail
            refine wp_region_held_drew (S := fun W => W.cell? ⟨A5, O5 + I * 11 + 10, none⟩ = some (.slice (some ⟨bb, ob, none⟩) z0.body.length z0.bcap)) (by kernel_rfl) chD (fun hHeld => ?_)
            refine wpAnyH_take (i := 0) (v := .pointer (some ⟨A5, O5 + I * 11, none⟩)) rfl (by kernel_rfl) (by kernel_rfl) (by kernel_rfl) (fun _ _ _ h => h) (Or.inl ⟨by kernel_rfl, fun w hSw => by kernel_rfl⟩) hHeld ?_
            refine wpAnyH_take (i := 1) (v := .pointer (some ⟨A5, O5 + I * 11, none⟩)) rfl (by kernel_rfl) (by kernel_rfl) (by kernel_rfl) (fun _ _ _ h => h) (Or.inl ⟨by kernel_rfl, fun w hSw => by kernel_rfl⟩) hHeld ?_
            refine wpAnyH_take (i := 2) (v := .pointer (some ⟨A5, O5 + I * 11 + 10, none⟩)) rfl (by kernel_rfl) (by kernel_rfl) (by kernel_rfl) (fun _ _ _ h => h) (Or.inl ⟨by kernel_rfl, fun w hSw => by kernel_rfl⟩) hHeld ?_
            refine wpAnyH_take (i := 3) (v := .slice (some ⟨bb, ob, none⟩) z0.body.length z0.bcap) rfl (by kernel_rfl) (by kernel_rfl) (by kernel_rfl) (fun _ _ _ h => h) (yieldsIf_load_cel (by kernel_rfl) 40 _ rfl A5 (O5 + I * 11 + 10) (.slice (some ⟨bb, ob, none⟩) z0.body.length z0.bcap) (by kernel_rfl) Tryz.isAgg40 (fun _ h => h)) hHeld ?_
            refine wpAnyH_take (i := 4) (v := .int .i64 (x : Int)) rfl (by kernel_rfl) (by kernel_rfl) (by kernel_rfl) (fun _ _ _ h => h) (Or.inl ⟨by kernel_rfl, fun w hSw => by kernel_rfl⟩) hHeld ?_
            refine wpAnyH_take (i := 5) (v := .pointer (some ⟨A5, O5 + I * 11, none⟩)) rfl (by kernel_rfl) (by kernel_rfl) (by kernel_rfl) (fun _ _ _ h => h) (Or.inl ⟨by kernel_rfl, fun w hSw => by kernel_rfl⟩) hHeld ?_
            refine wpAnyH_take (i := 6) (v := .pointer (some ⟨A5, O5 + I * 11, none⟩)) rfl (by kernel_rfl) (by kernel_rfl) (by kernel_rfl) (fun _ _ _ h => h) (Or.inl ⟨by kernel_rfl, fun w hSw => by kernel_rfl⟩) hHeld ?_
            refine wpAnyH_take (i := 7) (v := .pointer (some ⟨A5, O5 + I * 11 + 10, none⟩)) rfl (by kernel_rfl) (by kernel_rfl) (by kernel_rfl) (fun _ _ _ h => h) (Or.inl ⟨by kernel_rfl, fun w hSw => by kernel_rfl⟩) hHeld ?_
            refine wpAnyH_take (i := 8) (v := .slice (some ⟨bb, ob, none⟩) z0.body.length z0.bcap) rfl (by kernel_rfl) (by kernel_rfl) (by kernel_rfl) (fun _ _ _ h => h) (yieldsIf_load_cel (by kernel_rfl) 40 _ rfl A5 (O5 + I * 11 + 10) (.slice (some ⟨bb, ob, none⟩) z0.body.length z0.bcap) (by kernel_rfl) Tryz.isAgg40 (fun _ h => h)) hHeld ?_
            refine wpAnyH_take (i := 9) (v := .int .i64 (x : Int)) rfl (by kernel_rfl) (by kernel_rfl) (by kernel_rfl) (fun _ _ _ h => h) (Or.inl ⟨by kernel_rfl, fun w hSw => by kernel_rfl⟩) hHeld ?_
            refine wpAnyH_take (i := 10) (v := .pointer (some ⟨bb, ob + x * 10, none⟩)) rfl (by kernel_rfl) (by kernel_rfl) (by kernel_rfl) (fun _ _ _ h => h) (Or.inl ⟨by kernel_rfl, fun w hSw => by go_simp⟩) hHeld ?_
            refine wpAnyH_take (i := 11) (v := .pointer (some ⟨bb, ob + x * 10, none⟩)) rfl (by kernel_rfl) (by kernel_rfl) (by kernel_rfl) (fun _ _ _ h => h) (Or.inl ⟨by kernel_rfl, fun w hSw => by kernel_rfl⟩) hHeld ?_
            refine wpAnyH_take (i := 13) (v := str f) rfl (by kernel_rfl) (by kernel_rfl) (by kernel_rfl) (fun _ _ _ h => h) (Or.inl ⟨by kernel_rfl, fun w hSw => by kernel_rfl⟩) hHeld ?_
            refine wpAnyH_one 12 (by kernel_rfl) ?_
            refine wpOp_load_mid rfl rfl 38 _ rfl bb (ob + x * 10) (by kernel_rfl) (tv l.by_) _ ceD hu rfl iT ⟨hHeld, ?_⟩
            refine wpAnyH_one 14 (by kernel_rfl) ?_
            refine wpOp_enter rfl rfl (f := 22) (args := #[tval l.by_, str f, str zz9]) (by kernel_rfl) (HRN.out l.by_ wr.drew) ?_
            intro w6 b6
            have g6 := Below.then gD b6
            have M6 := M.below g6
            obtain ⟨hHeld, hB6, r6, _⟩ := stL_cells hIz M6 hlt hbb
            refine ⟨hHeld, ?_⟩
            refine wpAnyH_take (i := 15) (v := .pointer (some ⟨bb, ob + x * 10, none⟩)) rfl (by kernel_rfl) (by kernel_rfl) (by kernel_rfl) (fun _ _ _ h => h) (Or.inl ⟨by kernel_rfl, fun w hSw => by go_simp⟩) hHeld ?_
            refine wpAnyH_take (i := 16) (v := .pointer (some ⟨bb, ob + x * 10, none⟩)) rfl (by kernel_rfl) (by kernel_rfl) (by kernel_rfl) (fun _ _ _ h => h) (Or.inl ⟨by kernel_rfl, fun w hSw => by kernel_rfl⟩) hHeld ?_
            have ct : w6.there bb (ob + x * 10) 4 := RowT.there (D := lK) (d := 0) (m := 4) (k := x) hB6 (by rw [stL_len]; exact hlt) (by decide)
            have MB : Mem w3.heap.size (w6.setCells bb (ob + x * 10) (tv (Ck.ren f zz9 l.by_))) (some ⟨A5, O5, none⟩) c5 (zs.set I (stL f z0 x { l with by_ := Ck.ren f zz9 l.by_ })) ∧ Below w3.heap.size w6 (w6.setCells bb (ob + x * 10) (tv (Ck.ren f zz9 l.by_))) := by
              have := M6.lit1 (d := 0) (k := x) (V := tv (Ck.ren f zz9 l.by_)) (l := { l with by_ := Ck.ren f zz9 l.by_ }) hIz hbb (by rw [stL_len]; exact hlt) (of_decide_eq_true rfl) ?_ ?_ (by rw [stL_get]; exact ⟨rfl, rfl, rfl⟩)
              · rw [stL_set] at this; exact this
              · intro q h1 h2
                have h2' : q < 4 := h2
                match q, h2' with
                | 0, _ => rfl
                | 1, _ => rfl
                | 2, _ => rfl
                | 3, _ => rfl
              · intro q h1
                have h1' : 4 ≤ q := by rcases h1 with h1 | h1
                                       · omega
                                       · exact h1
                rw [stL_get]
                obtain ⟨q', rfl⟩ : ∃ q', q = q' + 4 := ⟨q - 4, by omega⟩
                rfl
            have B7 := (Below.then B g6).trans (MB.2.mono B5a)
            have ch7 := (stL_cells hIz MB.1 hlt hbb).1
            refine wpAnyH_one 17 (by kernel_rfl) ?_
            refine wpOp_store_mid rfl rfl 38 _ _ rfl bb (ob + x * 10) (tv (Ck.ren f zz9 l.by_)) (by kernel_rfl) (by kernel_rfl) ct iT (tv_one _) ⟨ch7, ?_⟩
            have M7 := MB.1
            generalize w6.setCells bb (ob + x * 10) (tv (Ck.ren f zz9 l.by_)) = w7 at *
            refine wpAnyH_done (by kernel_rfl) ?_ _
            simp only [Act.put, List.getElem_toArray, List.getElem_cons_succ, List.getElem_cons_zero, List.setIfInBounds_toArray, List.set_cons_zero, List.set_cons_succ]
            clear M MD M6 B MB hHeld hB6 r6 ct ceD chD ch7 gD g6 b6
            have M := M7
            have B := B7
            clear M7 B7
            go_upto_region 28 with fail
            have gD := (Below.refl w7.heap.size w7).drew
            have MD := M.below gD
            have chD := (stL_cells hIz MD hlt hbb).1
            have ceD : w7.drew.rangeAt bb (ob + x * 10 + 6) (tv l.at_) := (lit_in (stL_cells hIz MD hlt hbb).2.2.1).2.1
            go_wp2_with fail
            refine wp_region_held_drew (S := fun W => W.cell? ⟨A5, O5 + I * 11 + 10, none⟩ = some (.slice (some ⟨bb, ob, none⟩) z0.body.length z0.bcap)) (by kernel_rfl) chD (fun hHeld => ?_)
            refine wpAnyH_take (i := 0) (v := .pointer (some ⟨A5, O5 + I * 11, none⟩)) rfl (by kernel_rfl) (by kernel_rfl) (by kernel_rfl) (fun _ _ _ h => h) (Or.inl ⟨by kernel_rfl, fun w hSw => by kernel_rfl⟩) hHeld ?_
            refine wpAnyH_take (i := 1) (v := .pointer (some ⟨A5, O5 + I * 11, none⟩)) rfl (by kernel_rfl) (by kernel_rfl) (by kernel_rfl) (fun _ _ _ h => h) (Or.inl ⟨by kernel_rfl, fun w hSw => by kernel_rfl⟩) hHeld ?_
            refine wpAnyH_take (i := 2) (v := .pointer (some ⟨A5, O5 + I * 11 + 10, none⟩)) rfl (by kernel_rfl) (by kernel_rfl) (by kernel_rfl) (fun _ _ _ h => h) (Or.inl ⟨by kernel_rfl, fun w hSw => by kernel_rfl⟩) hHeld ?_
            refine wpAnyH_take (i := 3) (v := .slice (some ⟨bb, ob, none⟩) z0.body.length z0.bcap) rfl (by kernel_rfl) (by kernel_rfl) (by kernel_rfl) (fun _ _ _ h => h) (yieldsIf_load_cel (by kernel_rfl) 40 _ rfl A5 (O5 + I * 11 + 10) (.slice (some ⟨bb, ob, none⟩) z0.body.length z0.bcap) (by kernel_rfl) Tryz.isAgg40 (fun _ h => h)) hHeld ?_
            refine wpAnyH_take (i := 4) (v := .int .i64 (x : Int)) rfl (by kernel_rfl) (by kernel_rfl) (by kernel_rfl) (fun _ _ _ h => h) (Or.inl ⟨by kernel_rfl, fun w hSw => by kernel_rfl⟩) hHeld ?_
            refine wpAnyH_take (i := 5) (v := .pointer (some ⟨A5, O5 + I * 11, none⟩)) rfl (by kernel_rfl) (by kernel_rfl) (by kernel_rfl) (fun _ _ _ h => h) (Or.inl ⟨by kernel_rfl, fun w hSw => by kernel_rfl⟩) hHeld ?_
            refine wpAnyH_take (i := 6) (v := .pointer (some ⟨A5, O5 + I * 11, none⟩)) rfl (by kernel_rfl) (by kernel_rfl) (by kernel_rfl) (fun _ _ _ h => h) (Or.inl ⟨by kernel_rfl, fun w hSw => by kernel_rfl⟩) hHeld ?_
            refine wpAnyH_take (i := 7) (v := .pointer (some ⟨A5, O5 + I * 11 + 10, none⟩)) rfl (by kernel_rfl) (by kernel_rfl) (by kernel_rfl) (fun _ _ _ h => h) (Or.inl ⟨by kernel_rfl, fun w hSw => by kernel_rfl⟩) hHeld ?_
            refine wpAnyH_take (i := 8) (v := .slice (some ⟨bb, ob, none⟩) z0.body.length z0.bcap) rfl (by kernel_rfl) (by kernel_rfl) (by kernel_rfl) (fun _ _ _ h => h) (yieldsIf_load_cel (by kernel_rfl) 40 _ rfl A5 (O5 + I * 11 + 10) (.slice (some ⟨bb, ob, none⟩) z0.body.length z0.bcap) (by kernel_rfl) Tryz.isAgg40 (fun _ h => h)) hHeld ?_
            refine wpAnyH_take (i := 9) (v := .int .i64 (x : Int)) rfl (by kernel_rfl) (by kernel_rfl) (by kernel_rfl) (fun _ _ _ h => h) (Or.inl ⟨by kernel_rfl, fun w hSw => by kernel_rfl⟩) hHeld ?_
            refine wpAnyH_take (i := 10) (v := .pointer (some ⟨bb, ob + x * 10, none⟩)) rfl (by kernel_rfl) (by kernel_rfl) (by kernel_rfl) (fun _ _ _ h => h) (Or.inl ⟨by kernel_rfl, fun w hSw => by go_simp⟩) hHeld ?_
            refine wpAnyH_take (i := 11) (v := .pointer (some ⟨bb, ob + x * 10 + 6, none⟩)) rfl (by kernel_rfl) (by kernel_rfl) (by kernel_rfl) (fun _ _ _ h => h) (Or.inl ⟨by kernel_rfl, fun w hSw => by kernel_rfl⟩) hHeld ?_
            refine wpAnyH_take (i := 13) (v := str f) rfl (by kernel_rfl) (by kernel_rfl) (by kernel_rfl) (fun _ _ _ h => h) (Or.inl ⟨by kernel_rfl, fun w hSw => by kernel_rfl⟩) hHeld ?_
            refine wpAnyH_one 12 (by kernel_rfl) ?_
            refine wpOp_load_mid rfl rfl 38 _ rfl bb (ob + x * 10 + 6) (by kernel_rfl) (tv l.at_) _ ceD hu rfl iT ⟨hHeld, ?_⟩
            refine wpAnyH_one 14 (by kernel_rfl) ?_
            refine wpOp_enter rfl rfl (f := 22) (args := #[tval l.at_, str f, str zz9]) (by kernel_rfl) (HRN.out l.at_ w7.drew) ?_
            intro w6 b6
            have g6 := Below.then gD b6
            have M6 := M.below g6
            obtain ⟨hHeld, hB6, r6, _⟩ := stL_cells hIz M6 hlt hbb
            refine ⟨hHeld, ?_⟩
            refine wpAnyH_take (i := 15) (v := .pointer (some ⟨bb, ob + x * 10, none⟩)) rfl (by kernel_rfl) (by kernel_rfl) (by kernel_rfl) (fun _ _ _ h => h) (Or.inl ⟨by kernel_rfl, fun w hSw => by go_simp⟩) hHeld ?_
            refine wpAnyH_take (i := 16) (v := .pointer (some ⟨bb, ob + x * 10 + 6, none⟩)) rfl (by kernel_rfl) (by kernel_rfl) (by kernel_rfl) (fun _ _ _ h => h) (Or.inl ⟨by kernel_rfl, fun w hSw => by kernel_rfl⟩) hHeld ?_
            have ct : w6.there bb (ob + x * 10 + 6) 4 := RowT.there (D := lK) (d := 6) (m := 4) (k := x) hB6 (by rw [stL_len]; exact hlt) (by decide)
            have MB : Mem w3.heap.size (w6.setCells bb (ob + x * 10 + 6) (tv (Ck.ren f zz9 l.at_))) (some ⟨A5, O5, none⟩) c5 (zs.set I (stL f z0 x { l with by_ := Ck.ren f zz9 l.by_, at_ := Ck.ren f zz9 l.at_ })) ∧ Below w3.heap.size w6 (w6.setCells bb (ob + x * 10 + 6) (tv (Ck.ren f zz9 l.at_))) := by
              have := M6.lit1 (d := 6) (k := x) (V := tv (Ck.ren f zz9 l.at_)) (l := { l with by_ := Ck.ren f zz9 l.by_, at_ := Ck.ren f zz9 l.at_ }) hIz hbb (by rw [stL_len]; exact hlt) (of_decide_eq_true rfl) ?_ ?_ (by rw [stL_get]; exact ⟨rfl, rfl, rfl⟩)
              · rw [stL_set] at this; exact this
              · intro q h1 h2
                have h2' : q < 10 := h2
                match q, h1, h2' with
                | 6, _, _ => rfl
                | 7, _, _ => rfl
                | 8, _, _ => rfl
                | 9, _, _ => rfl
              · intro q h1
                rw [stL_get]
                rcases h1 with h1 | h1
                · match q, h1 with
                  | 0, _ => rfl
                  | 1, _ => rfl
                  | 2, _ => rfl
                  | 3, _ => rfl
                  | 4, _ => rfl
                  | 5, _ => rfl
                · have h1' : 10 ≤ q := h1
                  rw [List.getElem?_eq_none (by simpa [lv] using h1'), List.getElem?_eq_none (by simpa [lv] using h1')]
            have B7 := (Below.then B g6).trans (MB.2.mono B5a)
            have ch7 := (stL_cells hIz MB.1 hlt hbb).1
            refine wpAnyH_one 17 (by kernel_rfl) ?_
            refine wpOp_store_mid rfl rfl 38 _ _ rfl bb (ob + x * 10 + 6) (tv (Ck.ren f zz9 l.at_)) (by kernel_rfl) (by kernel_rfl) ct iT (tv_one _) ⟨ch7, ?_⟩
            have M7 := MB.1
            generalize w6.setCells bb (ob + x * 10 + 6) (tv (Ck.ren f zz9 l.at_)) = w8 at *
            refine wpAnyH_done (by kernel_rfl) ?_ _
            simp only [Act.put, List.getElem_toArray, List.getElem_cons_succ, List.getElem_cons_zero, List.setIfInBounds_toArray, List.set_cons_zero, List.set_cons_succ]
            clear M MD M6 B MB hHeld hB6 r6 ct ceD chD ch7 gD g6 b6
            have M := M7
            have B := B7
            clear M7 B7
            have M0 : Mem w3.heap.size w8 (some ⟨A5, O5, none⟩) c5 (zs.set I (stL f z0 x { l with by_ := Ck.ren f zz9 l.by_, at_ := Ck.ren f zz9 l.at_, args := pm (Ck.ren f zz9) 0 l.args })) := by rw [pm_zero]; exact M
            clear M
            go_wp2_with fail
            go_loopw [17] (fun v17 wr => ∃ y : Nat, v17 = .int .i64 (y : Int) ∧ y ≤ l.args.length ∧ Mem w3.heap.size wr (some ⟨A5, O5, none⟩) c5 (zs.set I (stL f z0 x { l with by_ := Ck.ren f zz9 l.by_, at_ := Ck.ren f zz9 l.at_, args := pm (Ck.ren f zz9) y l.args })) ∧ Below w.heap.size w wr) (fun v17 _ => l.args.length - (RowKit.intOf v17).toNat)
            case atStart => exact ⟨0, rfl, Nat.zero_le _, M0, B⟩
            case round =>
              obtain ⟨y, rfl, hy, M, B⟩ := hrel
              have c10 := (stL_cells hIz M hlt hbb).1
              have cA5 : wr.cell? ⟨bb, ob + x * 10 + 5, none⟩ = some (.slice l.a l.args.length l.cap) := by
                have := (stL_cells hIz M hlt hbb).2.2.1 5 _ rfl
                rw [this]
                simp [pm_len]
              by_cases hyl : y < l.args.length
              · have q6 : (y : Int) < (l.args.length : Int) := by omega
                have hAt := (stL_cells hIz M hlt hbb).2.2.2
                have hAr : RowT tK 38 wr l.a l.cap (pm (Ck.ren f zz9) y l.args) := hAt
                obtain ⟨bl, ol, hbl⟩ := hAr.row.addr (by rw [pm_len]; omega)
                clear hAr hAt
                have KK := hideP (fun (W : World) (hM : Mem w3.heap.size W (some ⟨A5, O5, none⟩) c5 (zs.set I (stL f z0 x { l with by_ := Ck.ren f zz9 l.by_, at_ := Ck.ren f zz9 l.at_, args := pm (Ck.ren f zz9) y l.args }))) => (show (W.cell? ⟨A5, O5 + I * 11 + 10, none⟩ = some (.slice (some ⟨bb, ob, none⟩) z0.body.length z0.bcap) ∧ W.cell? ⟨bb, ob + x * 10 + 5, none⟩ = some (.slice (some ⟨bl, ol, none⟩) l.args.length l.cap)) ∧ RowT tK 38 W (some ⟨bl, ol, none⟩) l.cap (pm (Ck.ren f zz9) y l.args) by
                  obtain ⟨h1, h2, h3, h4⟩ := stL_cells hIz hM hlt hbb
                  have h5 := h3 5 _ rfl
                  have h6 : RowT tK 38 W l.a l.cap (pm (Ck.ren f zz9) y l.args) := h4
                  rw [hbl] at h6
                  refine ⟨⟨h1, ?_⟩, h6⟩
                  rw [h5]
                  simp [pm_len, hbl]))
                have hbl' := hbl
                clear cA5 c10
                have cA5 := (KK.out wr M).1.2
                have c10 := (KK.out wr M).1.1
                go_upto_region 32 with fail
                clear cA5 c10
                have gD := (Below.refl wr.heap.size wr).drew
                have MD := M.below gD
                obtain ⟨chD, hAD⟩ := KK.out _ MD
                have ceD := hAD.row.range y (by rw [pm_len]; exact hyl)
                rw [pm_get _ hyl] at ceD
                have ceD' : wr.drew.rangeAt bl (ol + y * 4) (tv (l.args[y]'hyl)) := ceD
                have ST : Hid ((pm (Ck.ren f zz9) y l.args).set y (Ck.ren f zz9 (l.args[y]'hyl)) = pm (Ck.ren f zz9) (y + 1) l.args) := pm_set _ hyl
                clear ceD hAD
                generalize (l.args[y]'hyl) = t at *
                go_wp2_with fail
                refine wp_region_held_drew (S := fun W => W.cell? ⟨A5, O5 + I * 11 + 10, none⟩ = some (.slice (some ⟨bb, ob, none⟩) z0.body.length z0.bcap) ∧ W.cell? ⟨bb, ob + x * 10 + 5, none⟩ = some (.slice (some ⟨bl, ol, none⟩) l.args.length l.cap)) (by kernel_rfl) chD (fun hHeld => ?_)
                refine wpAnyH_take (i := 0) (v := .pointer (some ⟨A5, O5 + I * 11, none⟩)) rfl (by kernel_rfl) (by kernel_rfl) (by kernel_rfl) (fun _ _ _ h => h) (Or.inl ⟨by kernel_rfl, fun w hSw => by kernel_rfl⟩) hHeld ?_
                refine wpAnyH_take (i := 1) (v := .pointer (some ⟨A5, O5 + I * 11, none⟩)) rfl (by kernel_rfl) (by kernel_rfl) (by kernel_rfl) (fun _ _ _ h => h) (Or.inl ⟨by kernel_rfl, fun w hSw => by kernel_rfl⟩) hHeld ?_
                refine wpAnyH_take (i := 2) (v := .pointer (some ⟨A5, O5 + I * 11 + 10, none⟩)) rfl (by kernel_rfl) (by kernel_rfl) (by kernel_rfl) (fun _ _ _ h => h) (Or.inl ⟨by kernel_rfl, fun w hSw => by kernel_rfl⟩) hHeld ?_
                refine wpAnyH_take (i := 3) (v := .slice (some ⟨bb, ob, none⟩) z0.body.length z0.bcap) rfl (by kernel_rfl) (by kernel_rfl) (by kernel_rfl) (fun _ _ _ h => h) (yieldsIf_load_cel (by kernel_rfl) 40 _ rfl A5 (O5 + I * 11 + 10) (.slice (some ⟨bb, ob, none⟩) z0.body.length z0.bcap) (by kernel_rfl) Tryz.isAgg40 (fun _ h => h.1)) hHeld ?_
                refine wpAnyH_take (i := 4) (v := .int .i64 (x : Int)) rfl (by kernel_rfl) (by kernel_rfl) (by kernel_rfl) (fun _ _ _ h => h) (Or.inl ⟨by kernel_rfl, fun w hSw => by kernel_rfl⟩) hHeld ?_
                refine wpAnyH_take (i := 5) (v := .pointer (some ⟨bb, ob + x * 10, none⟩)) rfl (by kernel_rfl) (by kernel_rfl) (by kernel_rfl) (fun _ _ _ h => h) (Or.inl ⟨by kernel_rfl, fun w hSw => by go_simp⟩) hHeld ?_
                refine wpAnyH_take (i := 6) (v := .pointer (some ⟨bb, ob + x * 10 + 5, none⟩)) rfl (by kernel_rfl) (by kernel_rfl) (by kernel_rfl) (fun _ _ _ h => h) (Or.inl ⟨by kernel_rfl, fun w hSw => by kernel_rfl⟩) hHeld ?_
                refine wpAnyH_take (i := 7) (v := .slice (some ⟨bl, ol, none⟩) l.args.length l.cap) rfl (by kernel_rfl) (by kernel_rfl) (by kernel_rfl) (fun _ _ _ h => h) (yieldsIf_load_cel (by kernel_rfl) 39 _ rfl bb (ob + x * 10 + 5) (.slice (some ⟨bl, ol, none⟩) l.args.length l.cap) (by kernel_rfl) Tryz.isAgg39 (fun _ h => h.2)) hHeld ?_
                refine wpAnyH_take (i := 8) (v := .int .i64 (y : Int)) rfl (by kernel_rfl) (by kernel_rfl) (by kernel_rfl) (fun _ _ _ h => h) (Or.inl ⟨by kernel_rfl, fun w hSw => by kernel_rfl⟩) hHeld ?_
                refine wpAnyH_take (i := 9) (v := .pointer (some ⟨A5, O5 + I * 11, none⟩)) rfl (by kernel_rfl) (by kernel_rfl) (by kernel_rfl) (fun _ _ _ h => h) (Or.inl ⟨by kernel_rfl, fun w hSw => by kernel_rfl⟩) hHeld ?_
                refine wpAnyH_take (i := 10) (v := .pointer (some ⟨A5, O5 + I * 11, none⟩)) rfl (by kernel_rfl) (by kernel_rfl) (by kernel_rfl) (fun _ _ _ h => h) (Or.inl ⟨by kernel_rfl, fun w hSw => by kernel_rfl⟩) hHeld ?_
                refine wpAnyH_take (i := 11) (v := .pointer (some ⟨A5, O5 + I * 11 + 10, none⟩)) rfl (by kernel_rfl) (by kernel_rfl) (by kernel_rfl) (fun _ _ _ h => h) (Or.inl ⟨by kernel_rfl, fun w hSw => by kernel_rfl⟩) hHeld ?_
                refine wpAnyH_take (i := 12) (v := .slice (some ⟨bb, ob, none⟩) z0.body.length z0.bcap) rfl (by kernel_rfl) (by kernel_rfl) (by kernel_rfl) (fun _ _ _ h => h) (yieldsIf_load_cel (by kernel_rfl) 40 _ rfl A5 (O5 + I * 11 + 10) (.slice (some ⟨bb, ob, none⟩) z0.body.length z0.bcap) (by kernel_rfl) Tryz.isAgg40 (fun _ h => h.1)) hHeld ?_
                refine wpAnyH_take (i := 13) (v := .int .i64 (x : Int)) rfl (by kernel_rfl) (by kernel_rfl) (by kernel_rfl) (fun _ _ _ h => h) (Or.inl ⟨by kernel_rfl, fun w hSw => by kernel_rfl⟩) hHeld ?_
                refine wpAnyH_take (i := 14) (v := .pointer (some ⟨bb, ob + x * 10, none⟩)) rfl (by kernel_rfl) (by kernel_rfl) (by kernel_rfl) (fun _ _ _ h => h) (Or.inl ⟨by kernel_rfl, fun w hSw => by go_simp⟩) hHeld ?_
                refine wpAnyH_take (i := 15) (v := .pointer (some ⟨bb, ob + x * 10 + 5, none⟩)) rfl (by kernel_rfl) (by kernel_rfl) (by kernel_rfl) (fun _ _ _ h => h) (Or.inl ⟨by kernel_rfl, fun w hSw => by kernel_rfl⟩) hHeld ?_
                refine wpAnyH_take (i := 16) (v := .slice (some ⟨bl, ol, none⟩) l.args.length l.cap) rfl (by kernel_rfl) (by kernel_rfl) (by kernel_rfl) (fun _ _ _ h => h) (yieldsIf_load_cel (by kernel_rfl) 39 _ rfl bb (ob + x * 10 + 5) (.slice (some ⟨bl, ol, none⟩) l.args.length l.cap) (by kernel_rfl) Tryz.isAgg39 (fun _ h => h.2)) hHeld ?_
                refine wpAnyH_take (i := 17) (v := .int .i64 (y : Int)) rfl (by kernel_rfl) (by kernel_rfl) (by kernel_rfl) (fun _ _ _ h => h) (Or.inl ⟨by kernel_rfl, fun w hSw => by kernel_rfl⟩) hHeld ?_
                refine wpAnyH_take (i := 18) (v := .pointer (some ⟨bl, ol + y * 4, none⟩)) rfl (by kernel_rfl) (by kernel_rfl) (by kernel_rfl) (fun _ _ _ h => h) (Or.inl ⟨by kernel_rfl, fun w hSw => by go_simp⟩) hHeld ?_
                refine wpAnyH_take (i := 20) (v := str f) rfl (by kernel_rfl) (by kernel_rfl) (by kernel_rfl) (fun _ _ _ h => h) (Or.inl ⟨by kernel_rfl, fun w hSw => by kernel_rfl⟩) hHeld ?_
                refine wpAnyH_one 19 (by kernel_rfl) ?_
                refine wpOp_load_mid rfl rfl 38 _ rfl bl (ol + y * 4) (by kernel_rfl) (tv t) _ ceD' hu rfl iT ⟨hHeld, ?_⟩
                refine wpAnyH_one 21 (by kernel_rfl) ?_
                refine wpOp_enter rfl rfl (f := 22) (args := #[tval t, str f, str zz9]) (by kernel_rfl) (HRN.out t wr.drew) ?_
                intro w6 b6
                have g6 := Below.then gD b6
                have M6 := M.below g6
                obtain ⟨hHeld, hA6⟩ := KK.out _ M6
                refine ⟨hHeld, ?_⟩
                refine wpAnyH_take (i := 22) (v := .pointer (some ⟨bl, ol + y * 4, none⟩)) rfl (by kernel_rfl) (by kernel_rfl) (by kernel_rfl) (fun _ _ _ h => h) (Or.inl ⟨by kernel_rfl, fun w hSw => by go_simp⟩) hHeld ?_
                have ct : w6.there bl (ol + y * 4) 4 := RowT.there (D := tK) (d := 0) (m := 4) (k := y) hA6 (by rw [pm_len]; exact hyl) (by decide)
                have MB : Mem w3.heap.size (w6.setCells bl (ol + y * 4) (tv (Ck.ren f zz9 t))) (some ⟨A5, O5, none⟩) c5 (zs.set I (stL f z0 x { l with by_ := Ck.ren f zz9 l.by_, at_ := Ck.ren f zz9 l.at_, args := pm (Ck.ren f zz9) (y + 1) l.args })) ∧ Below w3.heap.size w6 (w6.setCells bl (ol + y * 4) (tv (Ck.ren f zz9 t))) := by
                  have hxl : x < (stL f z0 x { l with by_ := Ck.ren f zz9 l.by_, at_ := Ck.ren f zz9 l.at_, args := pm (Ck.ren f zz9) y l.args }).body.length := by rw [stL_len]; exact hlt
                  have := M6.larg1 (k := x) (j := y) (t := Ck.ren f zz9 t) (b := bl) (o := ol) hIz hxl (by rw [stL_get]; exact hbl) (by rw [stL_get]; simp only [pm_len]; exact hyl)
                  simp only [stL_get hxl, ST.out] at this
                  rw [stL_set] at this
                  exact this
                have B7 := (Below.then B g6).trans (MB.2.mono B5a)
                have ch7 : ∀ W : World, W = w6.setCells bl (ol + y * 4) (tv (Ck.ren f zz9 t)) → W.cell? ⟨A5, O5 + I * 11 + 10, none⟩ = some (.slice (some ⟨bb, ob, none⟩) z0.body.length z0.bcap) ∧ W.cell? ⟨bb, ob + x * 10 + 5, none⟩ = some (.slice (some ⟨bl, ol, none⟩) l.args.length l.cap) := fun W hW => by
                  subst hW
                  obtain ⟨h1, h2, h3, h4⟩ := stL_cells hIz MB.1 hlt hbb
                  refine ⟨h1, ?_⟩
                  have h5 := h3 5 _ rfl
                  rw [h5]
                  simp [pm_len, hbl]
                refine wpAnyH_one 23 (by kernel_rfl) ?_
                refine wpOp_store_mid rfl rfl 38 _ _ rfl bl (ol + y * 4) (tv (Ck.ren f zz9 t)) (by kernel_rfl) (by kernel_rfl) ct iT (tv_one _) ⟨ch7 _ rfl, ?_⟩
                have M7 := MB.1
                generalize w6.setCells bl (ol + y * 4) (tv (Ck.ren f zz9 t)) = w9 at *
                refine wpAnyH_done (by kernel_rfl) ?_ _
                simp only [Act.put, List.getElem_toArray, List.getElem_cons_succ, List.getElem_cons_zero, List.setIfInBounds_toArray, List.set_cons_zero, List.set_cons_succ]
                clear hHeld hA6 ct ch7 MB ceD' chD
                go_wp2_with fail
                exact ⟨⟨y + 1, by go_num, by omega, M7, B7⟩, by simp [RowKit.intOf]; omega⟩
              · have q6 : ¬ (y : Int) < (l.args.length : Int) := by omega
                rw [pm_all _ (by omega)] at M
                have M8 : Mem w3.heap.size wr (some ⟨A5, O5, none⟩) c5 (zs.set I (stL f z0 x (lrn f zz9 l))) := M
                rw [SN.out] at M8
                go_wp2_with fail
                exact ⟨⟨x + 1, by go_num, by omega, M8, B⟩, by simp [RowKit.intOf]; omega⟩
          · have q5 : ¬ (x : Int) < (z0.body.length : Int) := by omega
            rw [stB_all (by omega)] at M
            have hI' : I < (zs.set I (rrn f zz9 z0)).length := by rw [List.length_set]; exact hIz
            have c10 : wr.cell? ⟨A5, O5 + I * 11 + 10, none⟩ = some (.slice z0.ba z0.body.length z0.bcap) := by
              have h1 := M.row.row.range I hI'
              rw [at_same] at h1
              have := h1 10 _ rfl
              rw [show O5 + I * rK.k + 10 = O5 + I * 11 + 10 from rfl] at this
              rw [this]
              simp [rrn]
            have T9 := hideP (checkProg_at (some ⟨A5, O5, none⟩) c5 (zs.set I (rrn f zz9 z0)) wr (hL.below B) ⟨M.row.row, fun z hz => (M.each z hz).aw⟩ HI2.out)
            rw [List.length_set, hlen] at T9
            cases own' with
            | true =>
              generalize Ck.prog ((zs.set I (rrn f zz9 z0)).map Rv.r) = P9 at T9
              obtain ⟨s1, s2, s3⟩ := P9
              simp only [ansV] at T9
              go_wp2_with fail
              refine T9.out.mono ?_
              rintro e w6 ⟨rfl, b6⟩
              have B6 := Below.then B b6
              go_wp2_with fail
              refine (LV.out w6 (hL.below B6)).mono ?_
              rintro e w7 ⟨rfl, b7⟩
              go_wp2_with fail
              go_ret
              exact ⟨rfl, Below.then B6 b7⟩
            | false =>
              rw [HRR.out rfl] at T9
              simp only [ansV] at T9
              go_wp2_with fail
              refine T9.out.mono ?_
              rintro e w6 ⟨rfl, b6⟩
              have B6 := Below.then B b6
              go_wp2_with fail
              refine (LV.out w6 (hL.below B6)).mono ?_
              rintro e w7 ⟨rfl, b7⟩
              go_wp2_with fail
              go_ret
              exact ⟨rfl, Below.then B6 b7⟩
end Go.Proofs.YtefajadolgmpdaaGreatDoor
