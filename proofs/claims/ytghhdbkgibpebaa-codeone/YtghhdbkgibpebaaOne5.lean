/-
  CodeOne, walked: what is read is laid as the very bytes that were read.
-/
import Derived.Test.YtghhdbkgibpebaaMo
import Derived.Test.YtghhdbkgibpebaaLive5
namespace Go.Proofs.Ytghhdbkgibpebaa
open Go.RowKit Go.Sort

set_option maxRecDepth 100000 in
set_option maxHeartbeats 4000000 in
theorem codeOne_walk (a : Option Addr) (c : Nat) (l : List UInt8) (x : Int) (w : World) (ha : Holds w a c l) (hr : l.length ≤ 140737488351232) (h0 : -9223372036854775808 ≤ x) (h1 : x ≤ 9223372036854775807) :
    Calls Try.prog 8 #[.slice a l.length c, .int .i64 x] w fun e w' => e = .returned (.bool true) ∧ Below w.heap.size w w' := by
  have hV := fun W => live5_at W
  by_cases hb : (3000 : Int) < (l.length : Int)
  · go_enter Try.func8, Try.ntmps8
    go_wp2_with fail
    refine (hV _).mono ?_; rintro e w1 ⟨rfl, b1⟩
    go_wp2_with fail
    go_ret
    exact ⟨rfl, b1⟩
  · have hF := fact5_at a c l x w ha (by omega) h0 h1
    have hD := fun W (h : Below w.heap.size w W) => decode5_at a c l W (ha.below h) (by omega)
    have hfr := @fR_ok l x
    have hdk := @dR_ok l
    have hdn := @dR_no l
    have Hdk := hideP hdk; have Hdn := hideP hdn
    clear hdk hdn
    generalize hR : fR l x = R at *
    obtain ⟨f, j, er⟩ := R
    simp only at hF
    generalize hDR : dR l = DR at *
    obtain ⟨rs, de⟩ := DR
    simp only at hD
    have Hfr := hideP (fun h : er = 0 => hfr (f := f) (j := j) (by rw [h]))
    clear hfr hR hDR
    -- the rest, behind the first part
    have hrest : ∀ (W : World), Below w.heap.size w W → Calls Try.prog 24 #[.slice a l.length c] W fun e w' => ∃ a' c' ys, e = .returned (.tuple #[.slice a' (List.length ys) c', .int .i64 de]) ∧ Row rK w' a' c' ys ∧ (∀ y ∈ ys, Rv.At w' y) ∧ ys.map Rv.r = rs ∧ Below W.heap.size W w' := hD
    go_enter Try.func8, Try.ntmps8
    go_wp2_with fail
    refine hF.mono ?_; rintro e w1 ⟨y, rfl, hy, A1, b1⟩
    by_cases he : er = 0
    · obtain ⟨hok, hin, k0, k1, k2, hbytes⟩ := Hfr.out he
      subst he
      obtain ⟨X, rfl⟩ := Int.eq_ofNat_of_zero_le k0
      obtain ⟨J, rfl⟩ := Int.eq_ofNat_of_zero_le (show 0 ≤ j by omega)
      simp only [Int.toNat_natCast] at hbytes
      have hP := fun W (h : Fv.At W y) => putFact5_at none 0 [] y W (Holds.nil _) h (by rw [← hy] at hin; exact hin) (by simp)
      rw [hy, hok, hbytes] at hP
      simp only [errno, cond_true, List.nil_append] at hP
      have hxj : X < J := by omega
      have hjl : J ≤ l.length := by omega
      have hlen : ((l.drop X).take (J - X)).length = J - X := by rw [List.length_take, List.length_drop]; omega
      obtain ⟨pb, po, rfl⟩ := ha.addr (by omega)
      have hs := fun W (h : Below w.heap.size w W) => (ha.below h).sub X (J - X) (by omega)
      generalize hPP : (l.drop X).take (J - X) = P at *
      clear hPP Hfr hok hin hbytes hy k0 k1 k2 hF
      have HL := hideP hlen; clear hlen
      have hcap := ha.1
      obtain ⟨y1, y2, y3, ya, yc, yk⟩ := y
      have A1 : ArgsAt w1 ya yc yk := A1
      have B1 := below_alloc w1 (.cells #[str y1, str y2, str y3, .slice ya yk.length yc] 24)
      go_wp2_with fail
      refine (hP _ (ArgsAt.below A1 B1 (Nat.le_refl _))).mono ?_; rintro e w2 ⟨v2, rfl, o2, b2⟩
      have BB := Below.then (Below.then b1 B1) b2
      obtain ⟨p2, c2, rfl, h2, _⟩ := o2.holds
      clear hP A1 B1 b1 b2 o2
      have q1 : ¬ (J : Int) ≤ (X : Int) := by omega
      have q2 : ¬ (l.length : Int) < (J : Int) := by omega
      have q3 : (X : Int) ≤ (J : Int) := by omega
      have q4 : (J : Int) ≤ (c : Int) := by omega
      have q5 : (0 : Int) ≤ (X : Int) := by omega
      have q6 : (c : Int) ≤ 9223372036854775807 ∨ True := Or.inr trivial
      go_wp2_with fail
      refine (same_at p2 (some ⟨pb, po + X, none⟩) P.length (J - X) c2 (c - X) P P w2 rfl HL.out h2 (hs w2 BB)).mono ?_; rintro e w3 ⟨rfl, rfl⟩
      rw [beq_self_eq_true]
      go_wp2_with fail
      refine (hrest w2 BB).mono ?_; rintro e w4 ⟨a4, c4, ys, rfl, row4, each4, hys, b4⟩
      have B4 := Below.then BB b4
      by_cases hd : de = 0
      · obtain ⟨n1, n2, n3, n4⟩ := Hdk.out hd
        subst hd hys
        have hE := encode5_at a4 c4 ys w4 row4 each4 (fun y hy => n3 _ (List.mem_map_of_mem hy))
        have ee : encE ys.length (ys.all fun x => mayR x.r) = 0 := by
          rw [List.all_map] at n2
          rw [List.length_map] at n1
          unfold encE
          rw [if_neg (by omega), show (ys.all fun x => mayR x.r) = true from n2]; rfl
        rw [ee, if_pos rfl, n4] at hE
        clear n1 n2 n3 n4 ee hrest hD
        go_wp2_with fail
        refine hE.mono ?_; rintro e w5 ⟨v5, rfl, o5, b5⟩
        have B5 := Below.then B4 b5
        obtain ⟨p5, c5, rfl, h5, _⟩ := o5.holds
        go_wp2_with fail
        refine (same_at p5 (some ⟨pb, po, none⟩) l.length l.length c5 c l l w5 rfl rfl h5 (ha.below B5)).mono ?_; rintro e w6 ⟨rfl, rfl⟩
        rw [beq_self_eq_true]
        go_wp2_with fail
        refine (hV _).mono ?_; rintro e w7 ⟨rfl, b7⟩
        go_wp2_with fail
        go_ret
        exact ⟨rfl, Below.then B5 b7⟩
      · have hq : (de == 0) = false := by simpa using hd
        have hn := Hdn.out hd
        have hy0 : ys.length = 0 := by
          have := congrArg List.length hys
          rw [show rs = [] from hn] at this
          simpa using this
        rw [hy0]
        clear hn hys hd row4 each4 hrest hD
        go_wp2_with fail
        refine (hV _).mono ?_; rintro e w7 ⟨rfl, b7⟩
        go_wp2_with fail
        go_ret
        exact ⟨rfl, Below.then B4 b7⟩
    · have hq : (er == 0) = false := by simpa using he
      clear Hfr hF hy
      obtain ⟨y1, y2, y3, ya, yc, yk⟩ := y
      have B1 := Below.then b1 (below_alloc w1 (.cells #[str y1, str y2, str y3, .slice ya yk.length yc] 24))
      go_wp2_with fail
      refine (hrest _ B1).mono ?_; rintro e w4 ⟨a4, c4, ys, rfl, row4, each4, hys, b4⟩
      have B4 := Below.then B1 b4
      by_cases hd : de = 0
      · obtain ⟨n1, n2, n3, n4⟩ := Hdk.out hd
        subst hd hys
        have hE := encode5_at a4 c4 ys w4 row4 each4 (fun y hy => n3 _ (List.mem_map_of_mem hy))
        have ee : encE ys.length (ys.all fun x => mayR x.r) = 0 := by
          rw [List.all_map] at n2
          rw [List.length_map] at n1
          unfold encE
          rw [if_neg (by omega), show (ys.all fun x => mayR x.r) = true from n2]; rfl
        rw [ee, if_pos rfl, n4] at hE
        clear n1 n2 n3 n4 ee hrest hD
        go_wp2_with fail
        refine hE.mono ?_; rintro e w5 ⟨v5, rfl, o5, b5⟩
        have B5 := Below.then B4 b5
        obtain ⟨p5, c5, rfl, h5, _⟩ := o5.holds
        go_wp2_with fail
        refine (same_at p5 a l.length l.length c5 c l l w5 rfl rfl h5 (ha.below B5)).mono ?_; rintro e w6 ⟨rfl, rfl⟩
        rw [beq_self_eq_true]
        go_wp2_with fail
        refine (hV _).mono ?_; rintro e w7 ⟨rfl, b7⟩
        go_wp2_with fail
        go_ret
        exact ⟨rfl, Below.then B5 b7⟩
      · have hq : (de == 0) = false := by simpa using hd
        have hn := Hdn.out hd
        have hy0 : ys.length = 0 := by
          have := congrArg List.length hys
          rw [show rs = [] from hn] at this
          simpa using this
        rw [hy0]
        clear hn hys hd row4 each4 hrest hD
        go_wp2_with fail
        refine (hV _).mono ?_; rintro e w7 ⟨rfl, b7⟩
        go_wp2_with fail
        go_ret
        exact ⟨rfl, Below.then B4 b7⟩
end Go.Proofs.Ytghhdbkgibpebaa
