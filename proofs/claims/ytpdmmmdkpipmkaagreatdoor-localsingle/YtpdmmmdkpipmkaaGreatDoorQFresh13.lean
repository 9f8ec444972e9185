/-
  LocalFresh: its walk.
-/
import Derived.Test.YtpdmmmdkpipmkaaGreatDoorQOp0
import Derived.Test.YtpdmmmdkpipmkaaGreatDoorQLz13
import Derived.Test.YtpdmmmdkpipmkaaGreatDoorQWt0
namespace Go.Proofs.YtpdmmmdkpipmkaaGreatDoor
open Go.RowKit Go.Lib Go.Shelf

theorem beq_no {a b : List UInt8} (h : a ≠ b) : (a == b) = false := by simpa using h
theorem eqT_no {a b : Tm} (h : a ≠ b) : Lc.eqT a b = false := by
  rw [Bool.eq_false_iff]; exact fun h' => h ((Lc.eqT_iff _ _).1 h')
theorem rul_cells {W : World} {P O c : Nat} {ys : List Rv} (h : Row rK W (some ⟨P, O, none⟩) c ys) (k : Nat) (hk : k < ys.length) :
    W.cell? ⟨P, O + k * 11 + 4, none⟩ = some (str ys[k].pred) ∧ W.cell? ⟨P, O + k * 11 + 6, none⟩ = some (str ys[k].to_.v) ∧ W.cell? ⟨P, O + k * 11 + 7, none⟩ = some (.bool ys[k].to_.k.num) ∧ W.cell? ⟨P, O + k * 11 + 8, none⟩ = some (.int .i64 ys[k].to_.k.n) ∧ W.cell? ⟨P, O + k * 11 + 9, none⟩ = some (str ys[k].to_.k.s) :=
  ⟨h.range k hk 4 _ rfl, h.range k hk 6 _ rfl, h.range k hk 7 _ rfl, h.range k hk 8 _ rfl, h.range k hk 9 _ rfl⟩

set_option maxRecDepth 100000 in
set_option maxHeartbeats 2000000 in
theorem localFresh_walk (a : Option Addr) (c : Nat) (xs : List Rv) (w : World) (hL : Laid w) (hx : Row rK w a c xs) (ax : ∀ x ∈ xs, Rv.Aw w x) (nx : ∀ x ∈ xs, Sh.RIn x.r ∧ TxR x ∧ TxV x.r) :
    Calls Tryz.prog 6 #[.slice a xs.length c] w fun e w' => e = .returned (.bool true) ∧ Below w.heap.size w w' := by
  have mixed : Tryz.prog.follows .mixedOrders = true := by kernel_rfl
  have LV := hideP live13_at
  have rw0 : Rws w a c xs := ⟨hx, ax⟩
  have hin : ∀ x ∈ xs, Sh.RIn x.r := fun x h => (nx x h).1
  have few := hx.few
  go_enter Tryz.func6, Tryz.ntmps6
  go_wp2_with fail
  refine (rweight_few2 a c xs w hx ax (fun x h => (nx x h).2.1)).mono ?_
  rintro e w1 ⟨⟨r, rfl, _⟩, g1⟩
  have B1 : Below w.heap.size w w1 := g1.below
  clear g1
  by_cases hr : r > 200
  · go_wp2_with fail
    refine (LV.out _ (hL.below B1)).mono ?_
    rintro e w2 ⟨rfl, b2⟩
    go_wp2_with fail
    go_ret
    exact ⟨rfl, Below.then B1 b2⟩
  have T1 := hideP (rewrite_at a c xs w1 (hL.below B1) (rw0.below B1) hin)
  unfold RwAns at T1
  by_cases h0 : (Ck.prog (xs.map Rv.r)).1 = 0
  · rw [h0] at T1
    have FI := hideP (Lc.prog_fine h0)
    clear h0
    go_wp2_with fail
    refine T1.out.mono ?_
    rintro e w2 ⟨⟨a2, c2, ys, rfl, R2, A2, E2⟩, b2⟩
    have B2 := Below.then B1 b2
    rw [if_pos trivial] at E2
    have yfew := R2.few
    have FR : ∀ p q (hp : p < ys.length) (hq : q < ys.length), p ≠ q → Lc.relay ys[p].pred = true → ys[p].pred ≠ ys[q].pred := fun p q hp hq hne hrl => by
      have hP : (Lc.rw 0 (xs.map Rv.r))[p]? = some ys[p].r := by rw [← E2]; simp [hp]
      have hQ : (Lc.rw 0 (xs.map Rv.r))[q]? = some ys[q].r := by rw [← E2]; simp [hq]
      exact Lc.rw_fresh (fun r hr => (FI.out r hr).pred) hP hQ hne hrl
    have TO : ∀ y ∈ ys, Lc.relay y.pred = true → y.to_ ≠ t0 := fun y hy hrl => by
      have : y.r ∈ Lc.rw 0 (xs.map Rv.r) := by rw [← E2]; exact List.mem_map_of_mem hy
      exact Lc.rw_to FI.out y.r this hrl
    have PR : ∀ x ∈ xs, Lc.relay x.pred = false := fun x hxx => (FI.out x.r (List.mem_map_of_mem hxx)).pred
    have HFR := hideP FR
    have HTO := hideP TO
    have HPR := hideP PR
    have TP := hideP (fun p W => prelay_at p W)
    clear T1 FI FR TO PR E2 A2 nx hin
    have hroom := R2.room
    go_wp2_with fail
    go_loopw [5, 6] (fun v5 _ wr => ∃ i : Nat, v5 = .int .i64 (i : Int) ∧ i ≤ ys.length ∧ Below w2.heap.size w2 wr) (fun v5 _ _ => ys.length - (RowKit.intOf v5).toNat)
    case atStart => exact ⟨0, rfl, Nat.zero_le _, Below.refl _ _⟩
    case round =>
      obtain ⟨i, rfl, hi, D⟩ := hrel
      by_cases hlt : i < ys.length
      · have q : (i : Int) < (ys.length : Int) := by omega
        obtain ⟨P, O, rfl⟩ := R2.addr (Nat.lt_of_le_of_lt (Nat.zero_le _) hlt)
        obtain ⟨c4, c6, c7, c8, c9⟩ := rul_cells (R2.below D (Nat.le_refl _)) i hlt
        have TOi := hideP (HTO.out _ (List.getElem_mem hlt))
        have FRi := hideP (fun k hk hne => HFR.out i k hlt hk hne)
        have RC := hideP (fun W (h : Below w2.heap.size w2 W) => rul_cells (R2.below h (Nat.le_refl _)) i hlt)
        generalize (ys[i]'hlt) = y at *
        go_wp2_with fail
        refine (TP.out y.pred wr).mono ?_
        rintro e w3 ⟨rfl, rfl⟩
        cases hrl : Lc.relay y.pred with
        | false =>
          clear hrl
          go_wp2_with fail
          exact ⟨⟨i + 1, by go_num, by omega, D⟩, by simp [RowKit.intOf]; omega⟩
        | true =>
          have hto : y.to_ ≠ t0 := TOi.out hrl
          have FRi2 := hideP (fun k hk hne => FRi.out k hk hne hrl)
          clear hrl TOi FRi
          have E1 := fun W => eqTerm y.to_ ⟨[], ⟨false, 0, []⟩⟩ W
          have e1 : sameT y.to_ ⟨[], ⟨false, 0, []⟩⟩ = false := (eqT_same _ _).trans (eqT_no hto)
          simp only [e1] at E1
          clear e1 hto
          go_wp2_with fail
          go_loopw [6] (fun v6 wr => ∃ k : Nat, v6 = .int .i64 (k : Int) ∧ k ≤ ys.length ∧ Below w2.heap.size w2 wr) (fun v6 _ => ys.length - (RowKit.intOf v6).toNat)
          case atStart => exact ⟨0, rfl, Nat.zero_le _, D⟩
          case round =>
            clear c4 c6 c7 c8 c9 E1
            obtain ⟨k, rfl, hk, D2⟩ := hrel
            by_cases hkl : k < ys.length
            · have q2 : (k : Int) < (ys.length : Int) := by omega
              have d4 := (RC.out _ D2).1
              have k4 := (rul_cells (R2.below D2 (Nat.le_refl _)) k hkl).1
              by_cases hki : k = i
              · subst hki
                go_wp2_with fail
                go_quiet (fail)
                go_wp2_with fail
                exact ⟨⟨k + 1, by go_num, by omega, D2.trans ((Grew.drewN _ nq).below.mono D2.size)⟩, by simp [RowKit.intOf]; omega⟩
              · have hne : ((k : Int) != (i : Int)) = true := by simp; omega
                have hne2 : (k : Int) ≠ (i : Int) := by omega
                have sn := beq_no (Ne.symm (FRi2.out k hkl (Ne.symm hki)))
                generalize (ys[k]'hkl) = z at *
                go_wp2_with fail
                go_quiet (fail)
                go_wp2_with fail
                exact ⟨⟨k + 1, by go_num, by omega, D2.trans ((Grew.drewN _ nq).below.mono D2.size)⟩, by simp [RowKit.intOf]; omega⟩
            · have q2 : ¬ (k : Int) < (ys.length : Int) := by omega
              go_wp2_with fail
              exact ⟨⟨i + 1, by go_num, by omega, D2⟩, by simp [RowKit.intOf]; omega⟩
      · have q : ¬ (i : Int) < (ys.length : Int) := by omega
        have B3 := Below.then B2 D
        clear R2 HFR HTO
        go_wp2_with fail
        go_loopw [7] (fun v7 wr => ∃ k : Nat, v7 = .int .i64 (k : Int) ∧ k ≤ xs.length ∧ Below w.heap.size w wr) (fun v7 _ => xs.length - (RowKit.intOf v7).toNat)
        case atStart => exact ⟨0, rfl, Nat.zero_le _, B3⟩
        case round =>
          obtain ⟨k, rfl, hk, D2⟩ := hrel
          by_cases hkl : k < xs.length
          · have q2 : (k : Int) < (xs.length : Int) := by omega
            obtain ⟨P, O, rfl⟩ := hx.addr (Nat.lt_of_le_of_lt (Nat.zero_le _) hkl)
            have k4 := (rul_cells (hx.below D2 (Nat.le_refl _)) k hkl).1
            have hp := HPR.out _ (List.getElem_mem hkl)
            generalize (xs[k]'hkl) = z at *
            go_wp2_with fail
            refine (TP.out z.pred _).mono ?_
            rintro e w3 ⟨rfl, rfl⟩
            rw [hp]
            go_wp2_with fail
            exact ⟨⟨k + 1, by go_num, by omega, D2⟩, by simp [RowKit.intOf]; omega⟩
          · have q2 : ¬ (k : Int) < (xs.length : Int) := by omega
            go_wp2_with fail
            refine (LV.out _ (hL.below D2)).mono ?_
            rintro e w3 ⟨rfl, b3⟩
            go_wp2_with fail
            go_ret
            exact ⟨rfl, Below.then D2 b3⟩
  · have q : ((Ck.prog (xs.map Rv.r)).1 != 0) = true := by simpa using h0
    generalize (Ck.prog (xs.map Rv.r)).1 = p1 at *
    clear h0
    go_wp2_with fail
    refine T1.out.mono ?_
    rintro e w2 ⟨⟨a2, c2, ys, rfl, R2, A2, E2⟩, b2⟩
    have B2 := Below.then B1 b2
    clear E2 A2 R2 T1
    go_wp2_with fail
    refine (LV.out _ (hL.below B2)).mono ?_
    rintro e w3 ⟨rfl, b3⟩
    go_wp2_with fail
    go_ret
    exact ⟨rfl, Below.then B2 b3⟩
end Go.Proofs.YtpdmmmdkpipmkaaGreatDoor
