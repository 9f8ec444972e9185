/-
  LocalPlain: its walk.
-/
import Derived.Test.YtpdmmmdkpipmkaaGreatDoorQOp0
import Derived.Test.YtpdmmmdkpipmkaaGreatDoorQLz13
import Derived.Test.YtpdmmmdkpipmkaaGreatDoorQWt0
import Derived.Test.YtpdmmmdkpipmkaaGreatDoorQCp0
import Derived.Test.YtpdmmmdkpipmkaaGreatDoorQMf0
namespace Go.Proofs.YtpdmmmdkpipmkaaGreatDoor
open Go.RowKit Go.Lib Go.Shelf

/-- rules of which the first i have no places any more, and of the next one the first k literals -/
def plL (k : Nat) (l : List Lt) : List Lt := (l.take k).map Lc.noAt ++ l.drop k
def plR (k : Nat) (r : Ru) : Ru := ⟨r.home, r.pred, r.args, r.to_, plL k r.body⟩
def plS (i k : Nat) (l : List Ru) : List Ru := (l.take i).map Lc.plainR ++ (match l[i]? with | some r => plR k r :: l.drop (i + 1) | none => [])
theorem plL_zero (l : List Lt) : plL 0 l = l := by simp [plL]
theorem plL_all (l : List Lt) (k : Nat) (h : l.length ≤ k) : plL k l = l.map Lc.noAt := by
  unfold plL; rw [List.take_of_length_le h, List.drop_of_length_le h, List.append_nil]
theorem plL_len (l : List Lt) (k : Nat) : (plL k l).length = l.length := by simp [plL]; omega
theorem plL_get (l : List Lt) (k : Nat) (h : k < l.length) : (plL k l)[k]'(by rw [plL_len]; exact h) = l[k] := by
  unfold plL
  rw [List.getElem_append_right (by simp; omega)]
  simp; congr 1; omega
theorem plL_set (l : List Lt) (k : Nat) (h : k < l.length) : (plL k l).set k (Lc.noAt l[k]) = plL (k + 1) l := by
  unfold plL
  rw [List.set_append_right _ _ (by simp; omega)]
  have e : k - ((l.take k).map Lc.noAt).length = 0 := by simp; omega
  rw [e, List.drop_eq_getElem_cons h, List.set_cons_zero, List.take_succ_eq_append_getElem h, List.map_append]
  simp
theorem plS_len (l : List Ru) (i k : Nat) (h : i ≤ l.length) : (plS i k l).length = l.length := by
  unfold plS
  rcases Nat.lt_or_ge i l.length with hi | hi
  · rw [List.getElem?_eq_getElem hi]; simp; omega
  · rw [List.getElem?_eq_none hi]; simp; omega
theorem plS_start (l : List Ru) : plS 0 0 l = l := by
  cases l with
  | nil => rfl
  | cons r t =>
    show [] ++ (plR 0 r :: t) = r :: t
    unfold plR; rw [plL_zero]; rfl
theorem plS_next (l : List Ru) (i k : Nat) (h : i < l.length) (hk : l[i].body.length ≤ k) : plS i k l = plS (i + 1) 0 l := by
  unfold plS
  rw [List.getElem?_eq_getElem h, List.take_succ_eq_append_getElem h, List.map_append]
  have e : plR k l[i] = Lc.plainR l[i] := by unfold plR Lc.plainR; rw [plL_all _ _ hk]
  simp only [e, List.map_cons, List.map_nil, List.append_assoc, List.cons_append, List.nil_append]
  congr 2
  rcases Nat.lt_or_ge (i + 1) l.length with hi | hi
  · rw [List.getElem?_eq_getElem hi, List.drop_eq_getElem_cons hi]
    simp only [plR, plL_zero]
  · rw [List.getElem?_eq_none hi, List.drop_of_length_le hi]
theorem plS_all (l : List Ru) (k : Nat) : plS l.length k l = l.map Lc.plainR := by
  unfold plS; rw [List.getElem?_eq_none (Nat.le_refl _)]; simp
theorem plS_get (l : List Ru) (i k : Nat) (h : i < l.length) : (plS i k l)[i]? = some (plR k l[i]) := by
  unfold plS
  rw [List.getElem?_append_right (by simp; omega), List.getElem?_eq_getElem h]
  have e : i - ((l.take i).map Lc.plainR).length = 0 := by simp; omega
  rw [e]; rfl
theorem plS_set (l : List Ru) (i k : Nat) (h : i < l.length) : (plS i k l).set i (plR (k + 1) l[i]) = plS i (k + 1) l := by
  unfold plS
  rw [List.set_append_right _ _ (by simp; omega), List.getElem?_eq_getElem h]
  have e : i - ((l.take i).map Lc.plainR).length = 0 := by simp; omega
  rw [e]; rfl
theorem set_map_r {zs : List Rv} {i : Nat} (z : Rv) : (zs.set i z).map Rv.r = (zs.map Rv.r).set i z.r := by rw [List.map_set]

theorem kin_t0 : Sh.KIn t0 := by unfold Sh.KIn; exact ⟨by decide, by decide⟩
theorem plain_in {r : Ru} (h : Sh.RIn r) : Sh.RIn (Lc.plainR r) := by
  obtain ⟨h1, h2, h3, h4⟩ := h
  refine ⟨h1, h2, h3, fun l hl => ?_⟩
  obtain ⟨y, hy, rfl⟩ := List.mem_map.1 (show l ∈ r.body.map Lc.noAt from hl)
  have := h4 y hy
  unfold Sh.LIn at this ⊢
  exact ⟨this.1, this.2.1, kin_t0⟩
set_option maxRecDepth 100000 in
set_option maxHeartbeats 2000000 in
theorem localPlain_walk (a : Option Addr) (c : Nat) (xs : List Rv) (w : World) (hL : Laid w) (hx : Row rK w a c xs) (ax : ∀ x ∈ xs, Rv.Aw w x) (nx : ∀ x ∈ xs, Sh.RIn x.r ∧ TxR x ∧ TxV x.r) :
    Calls Tryz.prog 7 #[.slice a xs.length c] w fun e w' => e = .returned (.bool true) ∧ Below w.heap.size w w' := by
  have iT : (Tryz.prog.info? 44).map (·.size) = some 4 := by kernel_rfl
  have LV := hideP live13_at
  have rw0 : Rws w a c xs := ⟨hx, ax⟩
  have hin : ∀ x ∈ xs, Sh.RIn x.r := fun x h => (nx x h).1
  have few := hx.few
  go_enter Tryz.func7, Tryz.ntmps7
  go_wp2_with fail
  refine (rweight_few2 a c xs w hx ax (fun x h => (nx x h).2.1)).mono ?_
  rintro e w1 ⟨⟨r, rfl, hfew⟩, g1⟩
  have B1 : Below w.heap.size w w1 := g1.below
  have HF := hideP hfew
  clear hfew g1
  by_cases hr : r > 200
  · go_wp2_with fail
    refine (LV.out _ (hL.below B1)).mono ?_
    rintro e w2 ⟨rfl, b2⟩
    go_wp2_with fail
    go_ret
    exact ⟨rfl, Below.then B1 b2⟩
  obtain ⟨hn, hfx⟩ := HF.out (by omega)
  clear HF
  go_wp2_with fail
  refine (rcopy0_at a c xs w1 (hx.below B1 (Nat.le_refl _)) (fun x h => (ax x h).below B1 (Nat.le_refl _)) (by omega) (fun x h => (hfx x h).few)).mono ?_
  rintro e w2 ⟨a', c', zs, rfl, M2, hzs, b2⟩
  have hlen : zs.length = xs.length := by have := congrArg List.length hzs; simpa using this
  have B2 := Below.then B1 b2
  have h0 : zs.map Rv.r = plS 0 0 (xs.map Rv.r) := by rw [plS_start]; exact hzs
  have hml : (xs.map Rv.r).length = xs.length := List.length_map ..
  clear hzs hfx hr
  rw [hlen]
  have Hl := hideP hlen
  clear hlen
  go_wp2_with fail
  go_loopw [4, 5] (fun v4 _ wr => ∃ (i : Nat) (us : List Rv), v4 = .int .i64 (i : Int) ∧ i ≤ xs.length ∧ us.length = xs.length ∧ Mem w1.heap.size wr a' c' us ∧ Hid (us.map Rv.r = plS i 0 (xs.map Rv.r)) ∧ Below w1.heap.size w1 wr) (fun v4 _ _ => xs.length - (RowKit.intOf v4).toNat)
  case atStart => exact ⟨0, zs, rfl, Nat.zero_le _, Hl.out, M2, h0, b2⟩
  case round =>
    clear M2 h0
    obtain ⟨i, us, rfl, hi, ul, M, HU, D⟩ := hrel
    have q0 : (us.length : Int) = (xs.length : Int) := by omega
    by_cases hlt : i < xs.length
    · have q : (i : Int) < (xs.length : Int) := by omega
      have hir : i < (xs.map Rv.r).length := by omega
      obtain ⟨R, hR⟩ : ∃ R, Hid (R = (xs.map Rv.r)[i]'hir) := ⟨_, rfl⟩
      go_wp2_with fail
      go_loopw [5] (fun v5 wr => ∃ (k : Nat) (us : List Rv), v5 = .int .i64 (k : Int) ∧ us.length = xs.length ∧ Mem w1.heap.size wr a' c' us ∧ Hid (us.map Rv.r = plS i k (xs.map Rv.r)) ∧ k ≤ R.body.length ∧ Below w1.heap.size w1 wr) (fun v5 _ => R.body.length - (RowKit.intOf v5).toNat)
      case atStart => exact ⟨0, us, rfl, ul, M, HU, Nat.zero_le _, D⟩
      case round =>
        clear M HU D
        obtain ⟨k, vs, rfl, vl, M, HU, hkb, D⟩ := hrel
        have hvi : i < vs.length := by omega
        have hg := plS_get (xs.map Rv.r) i k hir
        rw [← HU.out, List.getElem?_map, List.getElem?_eq_getElem hvi, Option.map_some, Option.some.injEq, ← hR.out] at hg
        have hgb : (vs[i]'hvi).body.map Lv.l = plL k R.body := congrArg Ru.body hg
        have hbl : (vs[i]'hvi).body.length = R.body.length := by
          have := congrArg List.length hgb
          rwa [List.length_map, plL_len] at this
        obtain ⟨P1, O1, rfl⟩ := M.row.row.addr (show 0 < vs.length by omega)
        have cB : wr.cell? ⟨P1, O1 + i * 11 + 10, none⟩ = some (.slice (vs[i]'hvi).ba R.body.length (vs[i]'hvi).bcap) := by
          rw [← hbl]
          exact M.row.row.range i hvi 10 _ rfl
        have bf := (M.each _ (List.getElem_mem hvi)).body.row.few
        rw [hbl] at bf
        by_cases hkl : k < R.body.length
        · have q2 : (k : Int) < (R.body.length : Int) := by omega
          have hkv : k < (vs[i]'hvi).body.length := by omega
          have zR := (M.each _ (List.getElem_mem hvi)).body
          obtain ⟨P2, O2, hP2⟩ := zR.row.addr (show 0 < (vs[i]'hvi).body.length by omega)
          have lo : w1.heap.size ≤ P2 := M.low _ (List.getElem_mem hvi) P2 (List.mem_append_right _ (List.mem_append_left _ (mem_bks.2 ⟨_, hP2, rfl⟩)))
          have M2 := M.lit (V := tv t0) (d := 6) (l := ⟨((vs[i]'hvi).body[k]'hkv).by_, ((vs[i]'hvi).body[k]'hkv).pred, ((vs[i]'hvi).body[k]'hkv).a, ((vs[i]'hvi).body[k]'hkv).cap, ((vs[i]'hvi).body[k]'hkv).args, t0⟩) hvi hP2 hkv (by decide) (fun c h1 h2 => by
            have h2' : c < 10 := h2
            match c, h1, h2' with
            | 6, _, _ => rfl
            | 7, _, _ => rfl
            | 8, _, _ => rfl
            | 9, _, _ => rfl) (fun c h => by
            have h' : c < 6 ∨ 10 ≤ c := h
            rcases h' with h' | h'
            · match c, h' with
              | 0, _ => rfl
              | 1, _ => rfl
              | 2, _ => rfl
              | 3, _ => rfl
              | 4, _ => rfl
              | 5, _ => rfl
            · rw [List.getElem?_eq_none (by exact h'), List.getElem?_eq_none (by exact h')]) ⟨rfl, rfl, rfl⟩
          rw [hP2] at zR cB
          have zr := zR.row.range k hkv
          have z6 : wr.cell? ⟨P2, O2 + k * 10 + 6, none⟩ = some (str ((vs[i]'hvi).body[k]'hkv).at_.v) := zr 6 _ rfl
          have z7 : wr.cell? ⟨P2, O2 + k * 10 + 6 + 1, none⟩ = some (.bool ((vs[i]'hvi).body[k]'hkv).at_.k.num) := zr 7 _ rfl
          have z8 : wr.cell? ⟨P2, O2 + k * 10 + 6 + 2, none⟩ = some (.int .i64 ((vs[i]'hvi).body[k]'hkv).at_.k.n) := zr 8 _ rfl
          have z9 : wr.cell? ⟨P2, O2 + k * 10 + 6 + 3, none⟩ = some (str ((vs[i]'hvi).body[k]'hkv).at_.k.s) := zr 9 _ rfl
          obtain ⟨CB, hCB⟩ := zR.tag _ rfl
          have fz : ∀ j, wr.frozen? ⟨P2, j, none⟩ = false := heap_frozen hCB
          clear zr hCB
          have HN : Hid ((vs.set i { (vs[i]'hvi) with body := (vs[i]'hvi).body.set k ⟨((vs[i]'hvi).body[k]'hkv).by_, ((vs[i]'hvi).body[k]'hkv).pred, ((vs[i]'hvi).body[k]'hkv).a, ((vs[i]'hvi).body[k]'hkv).cap, ((vs[i]'hvi).body[k]'hkv).args, t0⟩ }).map Rv.r = plS i (k + 1) (xs.map Rv.r)) := by
            show _ = _
            rw [set_map_r, HU.out, ← plS_set (xs.map Rv.r) i k hir, ← hR.out]
            congr 1
            have e1 : (vs[i]'hvi).home = R.home := congrArg Ru.home hg
            have e2 : (vs[i]'hvi).pred = R.pred := congrArg Ru.pred hg
            have e3 : (vs[i]'hvi).args = R.args := congrArg Ru.args hg
            have e4 : (vs[i]'hvi).to_ = R.to_ := congrArg Ru.to_ hg
            have e5 : ((vs[i]'hvi).body[k]'hkv).l = R.body[k] := by
              have h1 : ((vs[i]'hvi).body.map Lv.l)[k]? = some ((vs[i]'hvi).body[k]'hkv).l := by simp [hkv]
              rw [hgb, List.getElem?_eq_getElem (by rw [plL_len]; exact hkl), plL_get R.body k hkl, Option.some.injEq] at h1
              exact h1.symm
            show (⟨(vs[i]'hvi).home, (vs[i]'hvi).pred, (vs[i]'hvi).args, (vs[i]'hvi).to_, ((vs[i]'hvi).body.set k _).map Lv.l⟩ : Ru) = plR (k + 1) R
            rw [e1, e2, e3, e4, List.map_set, hgb]
            unfold plR
            rw [← plL_set R.body k hkl, ← e5]
            rfl
          have D2 : Below w1.heap.size w1 (wr.setCells P2 (O2 + k * 10 + 6) (tv t0)) := D.trans ((But.cells (tv t0) (O2 + k * 10 + 6) wr (But.refl P2 wr)).lower lo D.size)
          have sl : (vs.set i { (vs[i]'hvi) with body := (vs[i]'hvi).body.set k ⟨((vs[i]'hvi).body[k]'hkv).by_, ((vs[i]'hvi).body[k]'hkv).pred, ((vs[i]'hvi).body[k]'hkv).a, ((vs[i]'hvi).body[k]'hkv).cap, ((vs[i]'hvi).body[k]'hkv).args, t0⟩ }).length = xs.length := by rw [List.length_set]; exact vl
          generalize vs.set i _ = vs2 at *
          clear zR M hg hgb hbl hP2 hR
          go_wp2_with fail
          exact ⟨⟨k + 1, vs2, by go_num, sl, M2, HN, by omega, D2⟩, by simp [RowKit.intOf]; omega⟩
        · have q2 : ¬ (k : Int) < (R.body.length : Int) := by omega
          have HN : Hid (vs.map Rv.r = plS (i + 1) 0 (xs.map Rv.r)) := by
            show _ = _
            rw [HU.out]; exact plS_next _ _ _ hir (by rw [← hR.out]; omega)
          clear hg hgb hbl hR
          generalize (vs[i]'hvi) = z at *
          go_wp2_with fail
          refine ⟨⟨i + 1, vs, by go_num, by omega, vl, M, HN, D⟩, by simp [RowKit.intOf]; omega⟩
    · have q : ¬ (i : Int) < (xs.length : Int) := by omega
      obtain rfl : i = xs.length := by omega
      have HP : Hid (us.map Rv.r = (xs.map Rv.r).map Lc.plainR) := by
        show _ = _
        rw [HU.out]
        have := plS_all (xs.map Rv.r) 0
        rwa [hml] at this
      have hiu : ∀ u ∈ us, Sh.RIn u.r := fun u hu => by
        have : u.r ∈ (xs.map Rv.r).map Lc.plainR := by rw [← HP.out]; exact List.mem_map_of_mem hu
        obtain ⟨r, hr1, hr2⟩ := List.mem_map.1 this
        obtain ⟨x, hx1, rfl⟩ := List.mem_map.1 hr1
        rw [← hr2]; exact plain_in (hin x hx1)
      have RWu : Rws wr a' c' us := ⟨M.row.row, fun u hu => (M.each u hu).aw⟩
      have B3 := Below.then B1 D
      have T1 := hideP (rewrite_at a c xs wr (hL.below B3) (rw0.below B3) hin)
      have T2 := hideP (fun W (h : Below wr.heap.size wr W) => rewrite_at a' c' us W (hL.below (Below.then B3 h)) (RWu.below h) hiu)
      rw [HP.out] at T2
      unfold RwAns at T1 T2
      rw [ul] at T2
      clear M HU D q0 hiu
      have PP := hideP (fun h => Lc.prog_plain (l := xs.map Rv.r) h)
      have PR := Lc.rw_plained (xs.map Rv.r)
      rw [PR] at T2
      clear PR
      go_wp2_with fail
      refine T1.out.mono ?_
      rintro e w4 ⟨⟨a4, c4, ys, rfl, R4, A4, E4⟩, b4⟩
      clear R4 A4 E4 T1
      by_cases h0 : (Ck.prog (xs.map Rv.r)).1 = 0
      · rw [PP.out h0] at T2
        rw [h0]
        simp only [if_true] at T2
        go_wp2_with fail
        refine (T2.out w4 b4).mono ?_
        rintro e w5 ⟨⟨a5, c5, vs, rfl, R5, A5, E5⟩, b5⟩
        have B5 := Below.then B3 (Below.then b4 b5)
        have KL := hideP (rlike_rws (⟨R5, fun v hv => (A5 v hv).aw⟩ : Rws w5 a5 c5 vs) (RWu.below (Below.then b4 b5)) (E5.trans HP.out.symm))
        rw [ul] at KL
        clear E5 A5 R5 T2
        go_wp2_with fail
        refine KL.out.mono ?_
        rintro e w6 ⟨rfl, b6⟩
        have B6 := Below.then B5 b6
        go_wp2_with fail
        refine (LV.out w6 (hL.below B6)).mono ?_
        rintro e w7 ⟨rfl, b7⟩
        go_wp2_with fail
        go_ret
        exact ⟨rfl, Below.then B6 b7⟩
      · have q : ((Ck.prog (xs.map Rv.r)).1 != 0) = true := by simpa using h0
        generalize (Ck.prog (xs.map Rv.r)).1 = p1 at *
        generalize (Ck.prog ((xs.map Rv.r).map Lc.plainR)).1 = p2 at *
        clear h0 PP
        go_wp2_with fail
        refine (T2.out w4 b4).mono ?_
        rintro e w5 ⟨⟨a5, c5, vs, rfl, R5, A5, E5⟩, b5⟩
        have B5 := Below.then B3 (Below.then b4 b5)
        clear E5 A5 R5 T2
        go_wp2_with fail
        refine (LV.out w5 (hL.below B5)).mono ?_
        rintro e w7 ⟨rfl, b7⟩
        go_wp2_with fail
        go_ret
        exact ⟨rfl, Below.then B5 b7⟩
end Go.Proofs.YtpdmmmdkpipmkaaGreatDoor
