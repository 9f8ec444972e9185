/-
  LocalSingle: its walk.
-/
import Derived.Test.YtpdmmmdkpipmkaaGreatDoorQFresh13
import Derived.Test.YtpdmmmdkpipmkaaGreatDoorQRm13
import Derived.Test.YtpdmmmdkpipmkaaGreatDoorQLs9
import Derived.Deep.RegionHeld3
namespace Go.Proofs.YtpdmmmdkpipmkaaGreatDoor
open Go.RowKit Go.Lib Go.Shelf

theorem cnt_take {r : Ru} {k : Nat} (h : k < r.body.length) : Lc.cnt r (r.body.take (k + 1)) = Lc.cnt r (r.body.take k) + (if Lc.rem r r.body[k] = true then 1 else 0) := by
  unfold Lc.cnt
  rw [List.take_succ_eq_append_getElem h, List.filter_append, List.length_append]
  congr 1
  by_cases hr : Lc.rem r r.body[k] = true
  · simp [hr]
  · simp [hr]
theorem cnt_le (r : Ru) (l : List Lt) : Lc.cnt r l ≤ l.length := List.length_filter_le ..
theorem rul_ten {W : World} {P O c : Nat} {ys : List Rv} (h : Row rK W (some ⟨P, O, none⟩) c ys) (k : Nat) (hk : k < ys.length) :
    W.cell? ⟨P, O + k * 11, none⟩ = some (str ys[k].home.v) ∧ W.cell? ⟨P, O + k * 11 + 1, none⟩ = some (.bool ys[k].home.k.num) ∧ W.cell? ⟨P, O + k * 11 + 2, none⟩ = some (.int .i64 ys[k].home.k.n) ∧ W.cell? ⟨P, O + k * 11 + 3, none⟩ = some (str ys[k].home.k.s) ∧ W.cell? ⟨P, O + k * 11 + 4, none⟩ = some (str ys[k].pred) ∧ W.cell? ⟨P, O + k * 11 + 5, none⟩ = some (.slice ys[k].a ys[k].args.length ys[k].cap) ∧ W.cell? ⟨P, O + k * 11 + 6, none⟩ = some (str ys[k].to_.v) ∧ W.cell? ⟨P, O + k * 11 + 7, none⟩ = some (.bool ys[k].to_.k.num) ∧ W.cell? ⟨P, O + k * 11 + 8, none⟩ = some (.int .i64 ys[k].to_.k.n) ∧ W.cell? ⟨P, O + k * 11 + 9, none⟩ = some (str ys[k].to_.k.s) :=
  ⟨h.range k hk 0 _ rfl, h.range k hk 1 _ rfl, h.range k hk 2 _ rfl, h.range k hk 3 _ rfl, h.range k hk 4 _ rfl, h.range k hk 5 _ rfl, h.range k hk 6 _ rfl, h.range k hk 7 _ rfl, h.range k hk 8 _ rfl, h.range k hk 9 _ rfl⟩
theorem box_ten {W : World} {b : Nat} {x : Rv} (H : W.heap[b]? = some (.cells (rv x).toArray 48)) :
    W.cell? ⟨b, 0, none⟩ = some (str x.home.v) ∧ W.cell? ⟨b, 1, none⟩ = some (.bool x.home.k.num) ∧ W.cell? ⟨b, 2, none⟩ = some (.int .i64 x.home.k.n) ∧ W.cell? ⟨b, 3, none⟩ = some (str x.home.k.s) ∧ W.cell? ⟨b, 4, none⟩ = some (str x.pred) ∧ W.cell? ⟨b, 5, none⟩ = some (.slice x.a x.args.length x.cap) ∧
    W.cell? ⟨b, 6, none⟩ = some (str x.to_.v) ∧ W.cell? ⟨b, 7, none⟩ = some (.bool x.to_.k.num) ∧ W.cell? ⟨b, 8, none⟩ = some (.int .i64 x.to_.k.n) ∧ W.cell? ⟨b, 9, none⟩ = some (str x.to_.k.s) := by
  refine ⟨?_, ?_, ?_, ?_, ?_, ?_, ?_, ?_, ?_, ?_⟩ <;> (rw [heap_cell H]; rfl)

set_option maxRecDepth 100000 in
set_option maxHeartbeats 4000000 in
theorem localSingle_walk (a : Option Addr) (c : Nat) (xs : List Rv) (w : World) (hL : Laid w) (hx : Row rK w a c xs) (ax : ∀ x ∈ xs, Rv.Aw w x) (nx : ∀ x ∈ xs, Sh.RIn x.r ∧ TxR x ∧ TxV x.r) :
    Calls Tryz.prog 5 #[.slice a xs.length c] w fun e w' => e = .returned (.bool true) ∧ Below w.heap.size w w' := by
  have mixed : Tryz.prog.follows .mixedOrders = true := by kernel_rfl
  have iR : (Tryz.prog.info? 48).map (·.size) = some 11 := by kernel_rfl
  have LV := hideP live13_at
  have rw0 : Rws w a c xs := ⟨hx, ax⟩
  have hin : ∀ x ∈ xs, Sh.RIn x.r := fun x h => (nx x h).1
  have few := hx.few
  go_enter Tryz.func5, Tryz.ntmps5
  go_wp2_with fail
  refine (rweight_few2 a c xs w hx ax (fun x h => (nx x h).2.1)).mono ?_
  rintro e w1 ⟨⟨r, rfl, _⟩, g1⟩
  have B1 : Below w.heap.size w w1 := g1.below
  clear g1
  by_cases hr : r > 200
  · go_wp2_with fail
    refine (LV.out _ (hL.below B1)).mono ?_
    rintro e w2 ⟨rfl, b2⟩
    go_wp2_with fail
    go_ret
    exact ⟨rfl, Below.then B1 b2⟩
  have T1 := hideP (rewrite_at a c xs w1 (hL.below B1) (rw0.below B1) hin)
  unfold RwAns at T1
  by_cases h0 : (Ck.prog (xs.map Rv.r)).1 = 0
  · rw [h0] at T1
    obtain ⟨h16, hW, _⟩ := Ck.prog_ok h0
    have HW := hideP (fun r hr => (Ck.shown (hW r hr).shape).few)
    clear h0 hW
    go_wp2_with fail
    refine T1.out.mono ?_
    rintro e w2 ⟨⟨a2, c2, ys, rfl, R2, A2, E2⟩, b2⟩
    have B2 := Below.then B1 b2
    rw [if_pos trivial] at E2
    have yfew := R2.few
    have hroom := R2.room
    have hml : (xs.map Rv.r).length = xs.length := List.length_map ..
    rw [hml] at h16
    have HE : Hid (∀ j, j ≤ xs.length → Lc.ends (xs.map Rv.r) j ≤ ys.length) := fun j hj => by
      have := Lc.ends_le (l := xs.map Rv.r) (i := 0) (j := j) (by omega)
      rw [← E2, List.length_map] at this
      exact this
    have HT : Hid (Lc.ends (xs.map Rv.r) xs.length = ys.length) := by
      have := Lc.rw_len (l := xs.map Rv.r) (i := 0)
      rw [← E2, List.length_map, hml] at this
      exact this.symm
    have HLs : Hid (∀ j (hj : j < (xs.map Rv.r).length), ∃ L, (ys.map Rv.r)[Lc.ends (xs.map Rv.r) (j + 1) - 1]? = some (Lc.lastR (xs.map Rv.r)[j] L)) := fun j hj => by
      obtain ⟨L, h⟩ := Lc.rw_last (l := xs.map Rv.r) (i := 0) hj
      rw [← E2] at h
      exact ⟨L, h⟩
    have HA : Hid (∀ y ∈ ys, ∀ l ∈ y.body, l.at_ = t0) := fun y hy l hl => by
      have : y.r ∈ Lc.rw 0 (xs.map Rv.r) := by rw [← E2]; exact List.mem_map_of_mem hy
      exact Lc.rw_at y.r this l.l (List.mem_map_of_mem hl)
    have HAo := hideP A2
    clear T1 E2 A2 nx hin
    have he0 : (Lc.ends (xs.map Rv.r) 0 : Nat) = 0 := rfl
    go_wp2_with fail
    go_loopw [5, 6, 7, 8] (fun v5 v6 _ _ wr => ∃ i : Nat, v5 = .int .i64 ((Lc.ends (xs.map Rv.r) i : Nat) : Int) ∧ v6 = .int .i64 (i : Int) ∧ i ≤ xs.length ∧ Below w2.heap.size w2 wr) (fun _ v6 _ _ _ => xs.length - (RowKit.intOf v6).toNat)
    case atStart => exact ⟨0, rfl, rfl, Nat.zero_le _, Below.refl _ _⟩
    case round =>
      clear he0
      obtain ⟨i, rfl, rfl, hi, D⟩ := hrel
      by_cases hlt : i < xs.length
      · have q : (i : Int) < (xs.length : Int) := by omega
        have hir : i < (xs.map Rv.r).length := by omega
        have hxr : (xs.map Rv.r)[i]'hir = (xs[i]'hlt).r := List.getElem_map ..
        have es := Lc.ends_succ hir
        have el := HE.out (i + 1) (by omega)
        obtain ⟨Lq, hlast⟩ := HLs.out i hir
        have fb := HW.out _ (List.getElem_mem hir)
        rw [hxr] at es hlast fb
        obtain ⟨P, O, rfl⟩ := hx.addr (Nat.lt_of_le_of_lt (Nat.zero_le _) hlt)
        have XT := hideP (fun W (h : Below w.heap.size w W) => rul_ten (hx.below h (Nat.le_refl _)) i hlt)
        have XB := hideP (fun W (h : Below w.heap.size w W) => (show W.cell? ⟨P, O + i * 11 + 10, none⟩ = some (.slice (xs[i]'hlt).ba (xs[i]'hlt).body.length (xs[i]'hlt).bcap) from (hx.below h (Nat.le_refl _)).range i hlt 10 _ rfl))
        have XR := hideP (fun W (h : Below w.heap.size w W) => (show W.rangeAt P (O + i * 11) (rv (xs[i]'hlt)) from (hx.below h (Nat.le_refl _)).range i hlt))
        have AX := hideP (fun W (h : Below w.heap.size w W) => (ax _ (List.getElem_mem hlt)).below h (Nat.le_refl _))
        generalize (xs[i]'hlt) = x at *
        have hbl : x.r.body.length = x.body.length := List.length_map ..
        rw [hbl] at fb
        have ef := HE.out i (by omega)
        generalize hE : Lc.ends (xs.map Rv.r) i = ei at *
        generalize hE2 : Lc.ends (xs.map Rv.r) (i + 1) = ei1 at *
        have iP : (Tryz.prog.info? 48).map (·.size) = some (rv x).length := iR
        go_wp2_with fail
        go_loopw [5, 7] (fun v5 v7 wr => ∃ k : Nat, v5 = .int .i64 ((ei + 1 + 2 * Lc.cnt x.r (x.r.body.take k) : Nat) : Int) ∧ v7 = .int .i64 (k : Int) ∧ k ≤ x.body.length ∧ Below w2.heap.size w2 wr) (fun _ v7 _ => x.body.length - (RowKit.intOf v7).toNat)
        case atStart => exact ⟨0, by go_num, rfl, Nat.zero_le _, D⟩
        case round =>
          clear D
          obtain ⟨k, rfl, rfl, hk, D⟩ := hrel
          have D0 := Below.then B2 D
          have cB := XB.out _ D0
          by_cases hkl : k < x.body.length
          · have q2 : (k : Int) < (x.body.length : Int) := by omega
            have r1 := XR.out _ D0
            have TR := hideP (remote_at x k wr (AX.out _ D0) hkl)
            have hkr : k < x.r.body.length := by omega
            have hyr : x.r.body[k] = (x.body[k]'hkl).l := by simp [Rv.r]
            have CT := cnt_take hkr
            rw [hyr] at CT
            have cl := cnt_le x.r (x.r.body.take k)
            rw [List.length_take] at cl
            have HC := hideP CT
            clear CT
            generalize hq : Lc.rem x.r (x.body[k]'hkl).l = qq at *
            generalize hcc : Lc.cnt x.r (x.r.body.take k) = ck at *
            clear hq hcc hyr
            go_wp2_with (refine wpList_load_mid rfl 48 _ rfl P (O + i * 11) rfl (rv x) _ r1 Tryz.underlying48 rfl iP ?_)
            refine TR.out.mono ?_
            rintro e w4 ⟨rfl, b4⟩
            have D4 := D.trans (b4.mono D.size)
            cases qq with
            | true =>
              have c2 : Lc.cnt x.r (x.r.body.take (k + 1)) = ck + 1 := HC.out
              have hv : IntKind.i64.wrap (((ei + 1 + 2 * ck : Nat) : Int) + 2) = ((ei + 1 + 2 * (ck + 1) : Nat) : Int) := by rw [IntKind.wrap_i64]; omega
              have HV := hideP c2
              clear HC c2
              go_wp2_with fail
              exact ⟨⟨k + 1, by rw [HV.out]; go_num, by go_num, by omega, D4⟩, by simp [RowKit.intOf]; omega⟩
            | false =>
              have c2 : Lc.cnt x.r (x.r.body.take (k + 1)) = ck := HC.out
              have HV := hideP c2
              clear HC c2
              go_wp2_with fail
              exact ⟨⟨k + 1, by rw [HV.out]; go_num, by go_num, by omega, D4⟩, by simp [RowKit.intOf]; omega⟩
          · have q2 : ¬ (k : Int) < (x.body.length : Int) := by omega
            have hkk : x.r.body.take k = x.r.body := List.take_of_length_le (by omega)
            rw [hkk]
            have ev : ei + 1 + 2 * Lc.cnt x.r x.r.body = ei1 := by omega
            rw [ev]
            have q3 : ¬ (ei1 : Int) > (ys.length : Int) := by omega
            have hj0 : ei1 - 1 < ys.length := by omega
            obtain ⟨n1, hn1⟩ : ∃ n1, n1 + 1 = ei1 := ⟨ei1 - 1, by omega⟩
            subst hn1
            rw [Nat.add_sub_cancel] at hlast hj0
            have hj : n1 < ys.length := hj0
            have q4 : (n1 : Int) < (ys.length : Int) := by omega
            obtain ⟨P2, O2, rfl⟩ := R2.addr (show 0 < ys.length by omega)
            have r2 : wr.rangeAt P2 (O2 + n1 * 11) (rv (ys[n1]'hj)) := (R2.below D (Nat.le_refl _)).range n1 hj
            have AY := (HAo.out _ (List.getElem_mem hj)).aw.below D (Nat.le_refl _)
            rw [List.getElem?_map, List.getElem?_eq_getElem hj, Option.map_some, Option.some.injEq] at hlast
            generalize (ys[n1]'hj) = y at *
            have y1 : y.home = x.home := congrArg Ru.home hlast
            have y2 : y.pred = x.pred := congrArg Ru.pred hlast
            have y3 : y.args = x.args := congrArg Ru.args hlast
            have y4 : y.to_ = x.to_ := congrArg Ru.to_ hlast
            have iQ : (Tryz.prog.info? 48).map (·.size) = some (rv y).length := iR
            clear hlast es ev hkk
            go_upto_region 19 with (first
              | (refine wpList_load_mid rfl 48 _ rfl P2 (O2 + n1 * 11) rfl (rv y) _ r2 Tryz.underlying48 rfl iQ ?_)
              | (refine wpList_store_all rfl 48 _ _ rfl wr.heap.size 11 _ 48 (rv y) rfl rfl (heap_alloc_new wr _) rfl rfl iR rfl ?_; intro w5 H5 d5; have b5 := below_tok d5))
            have B5 := Below.then D b5
            have B05 := Below.then B2 B5
            have HK : Hid (∀ X, Below w5.heap.size w5 X → (X.cell? ⟨wr.heap.size, 0, none⟩ = some (str x.home.v) ∧ X.cell? ⟨wr.heap.size, 1, none⟩ = some (.bool x.home.k.num) ∧ X.cell? ⟨wr.heap.size, 2, none⟩ = some (.int .i64 x.home.k.n) ∧ X.cell? ⟨wr.heap.size, 3, none⟩ = some (str x.home.k.s) ∧ X.cell? ⟨wr.heap.size, 4, none⟩ = some (str x.pred) ∧ X.cell? ⟨wr.heap.size, 5, none⟩ = some (.slice y.a x.args.length y.cap) ∧ X.cell? ⟨wr.heap.size, 6, none⟩ = some (str x.to_.v) ∧ X.cell? ⟨wr.heap.size, 7, none⟩ = some (.bool x.to_.k.num) ∧ X.cell? ⟨wr.heap.size, 8, none⟩ = some (.int .i64 x.to_.k.n) ∧ X.cell? ⟨wr.heap.size, 9, none⟩ = some (str x.to_.k.s) ∧ X.cell? ⟨P, O + i * 11, none⟩ = some (str x.home.v) ∧ X.cell? ⟨P, O + i * 11 + 1, none⟩ = some (.bool x.home.k.num) ∧ X.cell? ⟨P, O + i * 11 + 2, none⟩ = some (.int .i64 x.home.k.n) ∧ X.cell? ⟨P, O + i * 11 + 3, none⟩ = some (str x.home.k.s) ∧ X.cell? ⟨P, O + i * 11 + 4, none⟩ = some (str x.pred) ∧ X.cell? ⟨P, O + i * 11 + 5, none⟩ = some (.slice x.a x.args.length x.cap) ∧ X.cell? ⟨P, O + i * 11 + 6, none⟩ = some (str x.to_.v) ∧ X.cell? ⟨P, O + i * 11 + 7, none⟩ = some (.bool x.to_.k.num) ∧ X.cell? ⟨P, O + i * 11 + 8, none⟩ = some (.int .i64 x.to_.k.n) ∧ X.cell? ⟨P, O + i * 11 + 9, none⟩ = some (str x.to_.k.s))) := fun X hb => by
              have h1 := box_ten (below_heap hb H5)
              have h2 := XT.out X (B05.trans (hb.mono B05.size))
              rw [y1, y2, y3, y4] at h1
              obtain ⟨u0, u1, u2, u3, u4, u5, u6, u7, u8, u9⟩ := h1
              obtain ⟨v0, v1, v2, v3, v4, v5, v6, v7, v8, v9⟩ := h2
              exact ⟨u0, u1, u2, u3, u4, u5, u6, u7, u8, u9, v0, v1, v2, v3, v4, v5, v6, v7, v8, v9⟩
            have RA : Row tK w5 y.a y.cap x.args := by
              have := AY.args.below b5 (Nat.le_refl _)
              rwa [y3] at this
            have RX := (AX.out w5 B05).args
            have TT := hideP (fun X (hb : Below w5.heap.size w5 X) => rtermsS y.a x.a y.cap x.cap x.args X (RA.below hb (Nat.le_refl _)) (RX.below hb (Nat.le_refl _)))
            have E1 := fun W => eqTerm x.home x.home W
            have E2 := fun W => eqTerm x.to_ x.to_ W
            simp only [(sameT_iff x.home x.home).2 rfl] at E1
            simp only [(sameT_iff x.to_ x.to_).2 rfl] at E2
            have GD := (Below.refl w5.heap.size w5).drew
            generalize hU : wr.heap.size = U at *
            clear H5 d5 r2 AY AX XT XR XB RA RX y1 y2 y3 y4 cB hU
            go_wp2_with fail
            go_region_held3 (fun X => X.cell? ⟨U, 0, none⟩ = some (str x.home.v) ∧ X.cell? ⟨U, 1, none⟩ = some (.bool x.home.k.num) ∧ X.cell? ⟨U, 2, none⟩ = some (.int .i64 x.home.k.n) ∧ X.cell? ⟨U, 3, none⟩ = some (str x.home.k.s) ∧ X.cell? ⟨U, 4, none⟩ = some (str x.pred) ∧ X.cell? ⟨U, 5, none⟩ = some (.slice y.a x.args.length y.cap) ∧ X.cell? ⟨U, 6, none⟩ = some (str x.to_.v) ∧ X.cell? ⟨U, 7, none⟩ = some (.bool x.to_.k.num) ∧ X.cell? ⟨U, 8, none⟩ = some (.int .i64 x.to_.k.n) ∧ X.cell? ⟨U, 9, none⟩ = some (str x.to_.k.s) ∧ X.cell? ⟨P, O + i * 11, none⟩ = some (str x.home.v) ∧ X.cell? ⟨P, O + i * 11 + 1, none⟩ = some (.bool x.home.k.num) ∧ X.cell? ⟨P, O + i * 11 + 2, none⟩ = some (.int .i64 x.home.k.n) ∧ X.cell? ⟨P, O + i * 11 + 3, none⟩ = some (str x.home.k.s) ∧ X.cell? ⟨P, O + i * 11 + 4, none⟩ = some (str x.pred) ∧ X.cell? ⟨P, O + i * 11 + 5, none⟩ = some (.slice x.a x.args.length x.cap) ∧ X.cell? ⟨P, O + i * 11 + 6, none⟩ = some (str x.to_.v) ∧ X.cell? ⟨P, O + i * 11 + 7, none⟩ = some (.bool x.to_.k.num) ∧ X.cell? ⟨P, O + i * 11 + 8, none⟩ = some (.int .i64 x.to_.k.n) ∧ X.cell? ⟨P, O + i * 11 + 9, none⟩ = some (str x.to_.k.s)) (first | with_reducible exact HK.out _ GD | with_reducible exact HK.out _ G6) (first
              | (go_at_call 22; refine (TT.out _ GD).mono ?_; rintro e6 w6 ⟨rfl, b6⟩; have G6 := Below.then GD b6))
            have B6 := Below.then B5 G6
            clear HK TT GD E1 E2
            go_wp2_with fail
            exact ⟨⟨i + 1, by rw [hE2]; go_num, by go_num, by omega, B6⟩, by simp [RowKit.intOf]; omega⟩
      · have q : ¬ (i : Int) < (xs.length : Int) := by omega
        obtain rfl : i = xs.length := by omega
        rw [HT.out]
        have E0 := fun W => eqTerm ⟨[], ⟨false, 0, []⟩⟩ ⟨[], ⟨false, 0, []⟩⟩ W
        simp only [(sameT_iff (⟨[], ⟨false, 0, []⟩⟩ : Tm) ⟨[], ⟨false, 0, []⟩⟩).2 rfl] at E0
        go_wp2_with fail
        go_loopw [9, 10] (fun v9 _ wr => ∃ j : Nat, v9 = .int .i64 (j : Int) ∧ j ≤ ys.length ∧ Below w2.heap.size w2 wr) (fun v9 _ _ => ys.length - (RowKit.intOf v9).toNat)
        case atStart => exact ⟨0, rfl, Nat.zero_le _, D⟩
        case round =>
          clear D
          obtain ⟨j, rfl, hj, D⟩ := hrel
          by_cases hjl : j < ys.length
          · have q1 : (j : Int) < (ys.length : Int) := by omega
            obtain ⟨P2, O2, rfl⟩ := R2.addr (Nat.lt_of_le_of_lt (Nat.zero_le _) hjl)
            have YB := hideP (fun W (h : Below w2.heap.size w2 W) => (show W.cell? ⟨P2, O2 + j * 11 + 10, none⟩ = some (.slice (ys[j]'hjl).ba (ys[j]'hjl).body.length (ys[j]'hjl).bcap) from (R2.below h (Nat.le_refl _)).range j hjl 10 _ rfl))
            have YR := hideP (fun W (h : Below w2.heap.size w2 W) => (HAo.out _ (List.getElem_mem hjl)).body.row.below h (Nat.le_refl _))
            have YA := hideP (HA.out _ (List.getElem_mem hjl))
            generalize (ys[j]'hjl) = y at *
            have bf := (YR.out _ D).few
            go_wp2_with fail
            go_loopw [10] (fun v10 wr => ∃ k : Nat, v10 = .int .i64 (k : Int) ∧ k ≤ y.body.length ∧ Below w2.heap.size w2 wr) (fun v10 _ => y.body.length - (RowKit.intOf v10).toNat)
            case atStart => exact ⟨0, rfl, Nat.zero_le _, D⟩
            case round =>
              clear D
              obtain ⟨k, rfl, hk, D⟩ := hrel
              have cB := YB.out _ D
              by_cases hkl : k < y.body.length
              · have q2 : (k : Int) < (y.body.length : Int) := by omega
                have rB := YR.out _ D
                obtain ⟨P3, O3, hP3⟩ := rB.addr (Nat.lt_of_le_of_lt (Nat.zero_le _) hkl)
                rw [hP3] at rB cB
                have zr := rB.range k hkl
                have za := YA.out _ (List.getElem_mem hkl)
                have z6 : wr.cell? ⟨P3, O3 + k * 10 + 6, none⟩ = some (str (y.body[k]'hkl).at_.v) := zr 6 _ rfl
                have z7 : wr.cell? ⟨P3, O3 + k * 10 + 6 + 1, none⟩ = some (.bool (y.body[k]'hkl).at_.k.num) := zr 7 _ rfl
                have z8 : wr.cell? ⟨P3, O3 + k * 10 + 6 + 2, none⟩ = some (.int .i64 (y.body[k]'hkl).at_.k.n) := zr 8 _ rfl
                have z9 : wr.cell? ⟨P3, O3 + k * 10 + 6 + 3, none⟩ = some (str (y.body[k]'hkl).at_.k.s) := zr 9 _ rfl
                rw [za] at z6 z7 z8 z9
                simp only [t0, k0] at z6 z7 z8 z9
                clear zr za rB hP3
                go_wp2_with fail
                exact ⟨⟨k + 1, by go_num, by omega, D⟩, by simp [RowKit.intOf]; omega⟩
              · have q2 : ¬ (k : Int) < (y.body.length : Int) := by omega
                go_wp2_with fail
                exact ⟨⟨j + 1, by go_num, by omega, D⟩, by simp [RowKit.intOf]; omega⟩
          · have q1 : ¬ (j : Int) < (ys.length : Int) := by omega
            have B3 := Below.then B2 D
            clear E0
            go_wp2_with fail
            refine (LV.out _ (hL.below B3)).mono ?_
            rintro e w3 ⟨rfl, b3⟩
            go_wp2_with fail
            go_ret
            exact ⟨rfl, Below.then B3 b3⟩
  · have q : ((Ck.prog (xs.map Rv.r)).1 != 0) = true := by simpa using h0
    have E0 := h0
    generalize (Ck.prog (xs.map Rv.r)).1 = p1 at *
    clear h0
    go_wp2_with fail
    refine T1.out.mono ?_
    rintro e w2 ⟨⟨a2, c2, ys, rfl, R2, A2, E2⟩, b2⟩
    have B2 := Below.then B1 b2
    rw [if_neg E0] at E2
    obtain rfl := List.map_eq_nil_iff.1 E2
    clear E2 A2 R2 T1 E0
    simp only [List.length_nil]
    go_wp2_with fail
    refine (LV.out _ (hL.below B2)).mono ?_
    rintro e w3 ⟨rfl, b3⟩
    go_wp2_with fail
    go_ret
    exact ⟨rfl, Below.then B2 b3⟩
end Go.Proofs.YtpdmmmdkpipmkaaGreatDoor
