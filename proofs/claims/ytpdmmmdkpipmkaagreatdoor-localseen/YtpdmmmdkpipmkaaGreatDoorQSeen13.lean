/-
  LocalSeen: its walk; facts handed in.
-/
import Derived.Test.YtpdmmmdkpipmkaaGreatDoorQSe13
import Derived.Test.YtpdmmmdkpipmkaaGreatDoorQWf12
import Derived.Test.YtpdmmmdkpipmkaaGreatDoorQOf13
import Derived.Deep.QuietTactic
namespace Go.Proofs.YtpdmmmdkpipmkaaGreatDoor
open Go.RowKit Go.Lib Go.Shelf

set_option maxRecDepth 100000 in
set_option maxHeartbeats 1000000 in
theorem localSeen_walk (a : Option Addr) (c : Nat) (xs : List Fv) (w : World) (hL : Laid w) (hx : Lies w a c xs) (nx : ∀ x ∈ xs, Fv.At w x ∧ TxF x) :
    Calls Tryz.prog 4 #[.slice a xs.length c] w fun e w' => e = .returned (.bool true) ∧ Below w.heap.size w w' := by
  have mixed : Tryz.prog.follows .mixedOrders = true := by kernel_rfl
  have LV := hideP live13_at
  have ax : ∀ x ∈ xs, Fv.At w x := fun x h => (nx x h).1
  have few := hx.few
  go_enter Tryz.func4, Tryz.ntmps4
  go_wp2_with fail
  refine (weightF_at 300 (by decide) (by decide) a c xs w hx ax (fun x h => (nx x h).2)).mono ?_
  rintro e w1 ⟨⟨r, rfl, hfew⟩, g1⟩
  have B1 : Below w.heap.size w w1 := g1.below
  have HF := hideP hfew
  clear hfew g1
  by_cases hr : r > 300
  · go_wp2_with fail
    refine (LV.out _ (hL.below B1)).mono ?_
    rintro e w2 ⟨rfl, b2⟩
    go_wp2_with fail
    go_ret
    exact ⟨rfl, Below.then B1 b2⟩
  obtain ⟨hn, hlt⟩ := HF.out (by omega)
  have HK : Hid (∀ x ∈ xs, x.ks.length ≤ 1000000) := fun x h => by have := (hlt x h).ks; omega
  have hn' : xs.length ≤ 1000 := by omega
  clear HF hlt hn
  have HR := hideP (liesRow13 hx)
  go_wp2_with fail
  go_loopw [3] (fun v3 wr => ∃ i : Nat, v3 = .int .i64 (i : Int) ∧ i ≤ xs.length ∧ Below w.heap.size w wr) (fun v3 _ => xs.length - (RowKit.intOf v3).toNat)
  case atStart => exact ⟨0, rfl, Nat.zero_le _, B1⟩
  case round =>
    obtain ⟨i, rfl, hi, D⟩ := hrel
    by_cases hil : i < xs.length
    · have q : (i : Int) < (xs.length : Int) := by omega
      obtain ⟨P, O, rfl⟩ := HR.out.addr (Nat.lt_of_le_of_lt (Nat.zero_le _) hil)
      have c2 : wr.cell? ⟨P, O + i * 4 + 2, none⟩ = some (str (xs[i]'hil).pred) := (HR.out.below D (Nat.le_refl _)).range i hil 2 _ rfl
      have T1 := fun W => prelay_at (xs[i]'hil).pred W
      have T2 := fun W => rrelay_at (xs[i]'hil).pred W
      generalize Lc.relay (xs[i]'hil).pred = b at *
      generalize (xs[i]'hil).pred = p at *
      have HT1 := hideP T1
      have HT2 := hideP T2
      clear T1 T2
      cases b with
      | true =>
        go_wp2_with fail
        go_quiet (first | (go_at_call 16; exact (HT1.out _).mono fun _ _ hh => ⟨hh.1, _, hh.2.symm⟩) | (go_at_call 17; exact (HT2.out _).mono fun _ _ hh => ⟨hh.1, _, hh.2.symm⟩))
        go_wp2_with fail
        exact ⟨⟨i + 1, by go_num, by omega, D.trans ((Grew.drewN _ nq).below.mono D.size)⟩, by simp [RowKit.intOf]; omega⟩
      | false =>
        go_wp2_with fail
        go_quiet (first | (go_at_call 16; exact (HT1.out _).mono fun _ _ hh => ⟨hh.1, _, hh.2.symm⟩) | (go_at_call 17; exact (HT2.out _).mono fun _ _ hh => ⟨hh.1, _, hh.2.symm⟩))
        go_wp2_with fail
        exact ⟨⟨i + 1, by go_num, by omega, D.trans ((Grew.drewN _ nq).below.mono D.size)⟩, by simp [RowKit.intOf]; omega⟩
    · have q : ¬ (i : Int) < (xs.length : Int) := by omega
      have T1 := hideP (pseen_at a c xs wr (hx.below D (Nat.le_refl _)) (fun x h => (ax x h).below D (Nat.le_refl _)) HK.out hn')
      have T2 := hideP (fun W (h : Below w.heap.size w W) => rseen_at a c xs W (hx.below h (Nat.le_refl _)) (fun x hxx => (ax x hxx).below h (Nat.le_refl _)) hn')
      go_wp2_with fail
      refine T1.out.mono ?_
      rintro e w2 ⟨⟨a2, c2, ys, rfl, L2, A2, E2⟩, b2⟩
      have B2 := D.trans (b2.mono D.size)
      go_wp2_with fail
      refine (T2.out w2 B2).mono ?_
      rintro e w3 ⟨⟨a3, c3, us, rfl, L3, A3, E3⟩, b3⟩
      have B3 := B2.trans (b3.mono B2.size)
      have TK := hideP (like_at a2 a3 c2 c3 ys us w3 (L2.below b3 (Nat.le_refl _)) L3 (fun y h => (A2 y h).below b3 (Nat.le_refl _)) A3)
      rw [show likeB (ys.map Fv.f) (us.map Fv.f) = true from (likeB_iff _ _).2 (E2.trans E3.symm)] at TK
      clear T1 T2 E2 E3 A2 A3 L2 L3
      go_wp2_with fail
      refine TK.out.mono ?_
      rintro e w4 ⟨rfl, g4⟩
      have B4 := B3.trans (g4.below.mono B3.size)
      go_wp2_with fail
      refine (LV.out w4 (hL.below B4)).mono ?_
      rintro e w5 ⟨rfl, b5⟩
      go_wp2_with fail
      go_ret
      exact ⟨rfl, B4.trans (b5.mono B4.size)⟩
end Go.Proofs.YtpdmmmdkpipmkaaGreatDoor
