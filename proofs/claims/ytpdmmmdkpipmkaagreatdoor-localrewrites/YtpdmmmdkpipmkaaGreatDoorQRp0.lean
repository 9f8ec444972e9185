/-
  The reference's Program.
-/
import Derived.Test.YtpdmmmdkpipmkaaGreatDoorQRd0
import Derived.Test.YtpdmmmdkpipmkaaGreatDoorQLr13
import Derived.Test.YtpdmmmdkpipmkaaGreatDoorQRf5
namespace Go.Proofs.YtpdmmmdkpipmkaaGreatDoor
open Go.RowKit Go.Lib Go.Shelf

theorem first_ge {g : Nat → Lt → Bool} {k : Int} : ∀ {i : Nat} {l : List Lt}, Ck.first g i l = some k → k > -2
  | i, [], h => by cases h
  | i, y :: r, h => by
    rw [Ck.first] at h
    split at h
    · cases h; omega
    · exact first_ge h
theorem places_ge {r : Ru} {k : Int} (h : Ck.places r = some k) : k > -2 := by
  unfold Ck.places at h
  split at h
  · cases h; omega
  · exact first_ge h
theorem aritL_ge {k : Int} : ∀ {s : Ck.Seen} {i : Nat} {l : List Lt}, (Ck.aritL s i l).2 = some k → k > -2
  | s, i, [], h => by cases h
  | s, i, y :: r, h => by
    rw [Ck.aritL] at h
    split at h
    · cases h; omega
    · exact aritL_ge h
theorem arit_ge {s : Ck.Seen} {r : Ru} {k : Int} (h : (Ck.arit s r).2 = some k) : k > -2 := by
  unfold Ck.arit at h
  split at h
  · cases h; omega
  · exact aritL_ge h

set_option maxRecDepth 100000 in
set_option maxHeartbeats 2000000 in
theorem rprogram10_at (a : Option Addr) (c : Nat) (xs : List Rv) (w : World) (hx : Rws w a c xs) (hi : ∀ x ∈ xs, Sh.RIn x.r) :
    Calls Tryz.prog 28 #[.slice a xs.length c] w fun e w' => e = .returned (ansV (Ck.prog (xs.map Rv.r))) ∧ Below w.heap.size w w' := by
  have hml : (xs.map Rv.r).length = xs.length := List.length_map ..
  have few := hx.row.few
  have HP : Hid (Ck.prog (xs.map Rv.r) = if 16 < (xs.map Rv.r).length then (81, -1, -1) else Ck.go 0 [] (xs.map Rv.r)) := rfl
  rw [hml] at HP
  by_cases h16 : 16 < xs.length
  · have q : (xs.length : Int) > 16 := by omega
    rw [if_pos h16] at HP
    go_enter Tryz.func28, Tryz.ntmps28
    go_wp2_with fail
    go_ret3
    exact ⟨by rw [HP.out]; rfl, Below.refl _ _⟩
  have q : ¬ (xs.length : Int) > 16 := by omega
  rw [if_neg h16] at HP
  go_enter Tryz.func28, Tryz.ntmps28
  go_wp2_with fail
  go_loopw [5, 6, 7, 8, 9] (fun v5 v6 _ _ _ wr => ∃ (j : Nat) (s' : Ck.Seen) (a' : Option Addr) (c' : Nat), v5 = .slice a' (List.length s') c' ∧ v6 = .int .i64 (j : Int) ∧ j ≤ xs.length ∧ OwnE w.heap.size wr (.slice a' (List.length s') c') s' ∧ Below w.heap.size w wr ∧ Hid (Ck.prog (xs.map Rv.r) = Ck.go j s' ((xs.map Rv.r).drop j)) ∧ s'.length ≤ 5 * j) (fun _ v6 _ _ _ _ => xs.length - (RowKit.intOf v6).toNat)
  case atStart => exact ⟨0, [], none, 0, rfl, rfl, Nat.zero_le _, World.ownsRow_nil _ _ _ _, Below.refl _ _, by rw [List.drop_zero]; exact HP, by simp⟩
  case round =>
    obtain ⟨j, s', a', c', rfl, rfl, hj, O, B, HJ, hjl⟩ := hrel
    by_cases hlt : j < xs.length
    · have q2 : (j : Int) < (xs.length : Int) := by omega
      have hjr : j < (xs.map Rv.r).length := by omega
      obtain ⟨P1, O1, rfl⟩ := hx.row.addr (Nat.lt_of_le_of_lt (Nat.zero_le _) hlt)
      have RR := hideP (fun W (h : Below w.heap.size w W) => (show W.rangeAt P1 (O1 + j * 11) (rv (xs[j]'hlt)) from (hx.row.below h (Nat.le_refl _)).range j hlt))
      have aP := hx.each _ (List.getElem_mem hlt)
      have hyi := hi _ (List.getElem_mem hlt)
      rw [List.drop_eq_getElem_cons hjr, Ck.go, List.getElem_map] at HJ
      generalize (xs[j]'hlt) = y at *
      have AW := hideP (fun W (h : Below w.heap.size w W) => aP.below h (Nat.le_refl _))
      have iP : (Tryz.prog.info? 48).map (·.size) = some (rv y).length := Tryz.iR11
      have HO : Hid (Ck.one s' y.r = if (Sh.ruleS y.r).isSome = false then .error (100, -1) else match Ck.places y.r with | some k => .error (101, k) | none => match (Ck.arit s' y.r).2 with | some k => .error (102, k) | none => match Ck.free y.r with | some k => .error (103, k) | none => if Ck.opn y.r = true then .error (104, -1) else .ok (Ck.arit s' y.r).1) := rfl
      have r0 := RR.out wr B
      go_wp2_with (refine wpList_load_mid rfl 48 _ rfl P1 (O1 + j * 11) rfl (rv y) _ r0 Tryz.underlying48 rfl iP ?_)
      refine (rrule_at y wr (AW.out wr B) hyi).mono ?_
      rintro e w1 ⟨rfl, b1⟩
      have B1 := B.trans (b1.mono B.size)
      have O2 := ownsRow_keep O (Safe.below b1 : Safe 184 _ _)
      clear r0 O b1 B
      cases hr : Sh.ruleS y.r with
      | none =>
        rw [hr, if_pos (by rfl)] at HO
        rw [HO.out] at HJ
        simp only [sv] at HJ ⊢
        clear hr
        go_wp2_with fail
        go_ret3
        rw [HJ.out]
        exact ⟨rfl, B1⟩
      | some t =>
        have hsh := Ck.shown (r := y.r) (by rw [hr]; rfl)
        rw [hr, if_neg (by rw [Option.isSome]; exact Bool.noConfusion)] at HO
        simp only [sv]
        clear hr
        have LA := arit_len (s := s') (r := y.r) hsh.few
        have r1 := RR.out w1 B1
        go_wp2_with (refine wpList_load_mid rfl 48 _ rfl P1 (O1 + j * 11) rfl (rv y) _ r1 Tryz.underlying48 rfl iP ?_)
        refine (rplaces_at y w1 (AW.out w1 B1)).mono ?_
        rintro e w2 ⟨rfl, b2⟩
        have B2 := B1.trans (b2.mono B1.size)
        have O3 := ownsRow_keep O2 (Safe.below b2 : Safe 184 _ _)
        clear r1 O2 b2 B1
        cases hp : Ck.places y.r with
        | some k =>
          have hk := places_ge hp
          rw [hp] at HO
          rw [HO.out] at HJ
          simp only [plI] at HJ ⊢
          clear hp
          go_wp2_with fail
          go_ret3
          rw [HJ.out]
          exact ⟨rfl, B2⟩
        | none =>
          rw [hp] at HO
          simp only [plI] at HO ⊢
          clear hp
          have r2 := RR.out w2 B2
          go_wp2_with (refine wpList_load_mid rfl 48 _ rfl P1 (O1 + j * 11) rfl (rv y) _ r2 Tryz.underlying48 rfl iP ?_)
          refine (rarities_at w.heap.size a' c' s' y w2 O3 B2.size (by omega) (fun W h => AW.out W (B2.trans h)) hsh).mono ?_
          rintro e w3 ⟨⟨a3, c3, rfl, O4⟩, b3⟩
          have B3 := B2.trans b3
          clear r2 O3 b3 B2
          cases hq : (Ck.arit s' y.r).2 with
          | some k =>
            have hk := arit_ge hq
            rw [hq] at HO
            rw [HO.out] at HJ
            simp only [plI] at HJ ⊢
            clear hq
            go_wp2_with fail
            go_ret3
            rw [HJ.out]
            exact ⟨rfl, B3⟩
          | none =>
            rw [hq] at HO
            simp only [plI] at HO ⊢
            clear hq
            have r3 := RR.out w3 B3
            go_wp2_with (refine wpList_load_mid rfl 48 _ rfl P1 (O1 + j * 11) rfl (rv y) _ r3 Tryz.underlying48 rfl iP ?_)
            refine (rfree_at y w3 (AW.out w3 B3) hsh.ok).mono ?_
            rintro e w4 ⟨rfl, b4⟩
            have B4 := B3.trans (b4.mono B3.size)
            have O5 := ownsRow_keep O4 (Safe.below b4 : Safe 184 _ _)
            clear r3 O4 b4 B3
            cases hf : Ck.free y.r with
            | some k =>
              have hk := first_ge hf
              rw [hf] at HO
              rw [HO.out] at HJ
              simp only [plI] at HJ ⊢
              clear hf
              go_wp2_with fail
              go_ret3
              rw [HJ.out]
              exact ⟨rfl, B4⟩
            | none =>
              rw [hf] at HO
              simp only [plI] at HO ⊢
              clear hf
              have r4 := RR.out w4 B4
              go_wp2_with (refine wpList_load_mid rfl 48 _ rfl P1 (O1 + j * 11) rfl (rv y) _ r4 Tryz.underlying48 rfl iP ?_)
              refine (ropen_at y w4 (AW.out w4 B4) hsh.ok).mono ?_
              rintro e w5 ⟨rfl, b5⟩
              have B5 := B4.trans (b5.mono B4.size)
              have O6 := ownsRow_keep O5 (Safe.below b5 : Safe 184 _ _)
              clear r4 O5 b5 B4
              cases ho : Ck.opn y.r with
              | true =>
                rw [ho, if_pos rfl] at HO
                rw [HO.out] at HJ
                simp only at HJ
                clear ho
                go_wp2_with fail
                go_ret3
                rw [HJ.out]
                exact ⟨rfl, B5⟩
              | false =>
                rw [ho, if_neg (by decide)] at HO
                rw [HO.out] at HJ
                simp only at HJ
                clear ho
                go_wp2_with fail
                exact ⟨⟨j + 1, _, a3, c3, rfl, by go_num, by omega, O6, B5, HJ, by omega⟩, by simp [RowKit.intOf]; omega⟩
    · have q2 : ¬ (j : Int) < (xs.length : Int) := by omega
      rw [List.drop_of_length_le (by omega), Ck.go] at HJ
      go_wp2_with fail
      go_ret3
      rw [HJ.out]
      exact ⟨rfl, B⟩
end Go.Proofs.YtpdmmmdkpipmkaaGreatDoor
