/-
  ShowRules: its walk.
-/
import Derived.Test.YtcogjphoceaejaaDoorLv9
import Derived.Test.YtcogjphoceaejaaDoorRf6
import Derived.Test.YtcogjphoceaejaaDoorOp9
import Derived.Test.YtcogjphoceaejaaDoorCp9
namespace Go.Proofs.YtcogjphoceaejaaDoor
open Go.RowKit Go.Lib Go.Shelf

theorem pv_known (r : Except Int (List UInt8)) : ∃ (s : List UInt8) (e : Int), pv r = .tuple #[str s, .int .i64 e] := by
  cases r with
  | error e => exact ⟨[], e, rfl⟩
  | ok s => exact ⟨s, 0, rfl⟩
theorem sv_two (r : Option (List UInt8)) : ∃ (s : List UInt8) (e : Int), sv r = .tuple #[str s, .int .i64 e] := by
  cases r with
  | none => exact ⟨[], 100, rfl⟩
  | some s => exact ⟨s, 0, rfl⟩

set_option maxRecDepth 100000 in
set_option maxHeartbeats 4000000 in
theorem showRules_walk (a : Option Addr) (c : Nat) (xs : List Rv) (w : World) (hL : Laid w) (hx : Row rK w a c xs) (ax : ∀ x ∈ xs, Rv.Aw w x) (nx : ∀ x ∈ xs, Sh.RIn x.r ∧ TxR x) :
    Calls Tryd.prog 4 #[.slice a xs.length c] w fun e w' => e = .returned (.bool true) ∧ Below w.heap.size w w' := by
  have LV := hideP live9_at
  have rw0 : Rws w a c xs := ⟨hx, ax⟩
  have hin : ∀ x ∈ xs, Sh.RIn x.r := fun x h => (nx x h).1
  have few := hx.few
  go_enter Tryd.func4, Tryd.ntmps4
  go_wp2_with fail
  refine (rweight_few a c xs w hx ax (fun x h => (nx x h).2)).mono ?_
  rintro e w1 ⟨⟨r, rfl, hfew⟩, g1⟩
  have B1 : Below w.heap.size w w1 := g1.below
  have HF := hideP hfew
  clear hfew
  by_cases hr : r > 300
  · go_wp2_with fail
    refine (LV.out _ (hL.below B1)).mono ?_
    rintro e w2 ⟨rfl, b2⟩
    go_wp2_with fail
    go_ret
    exact ⟨rfl, Below.then B1 b2⟩
  obtain ⟨hn, hfx⟩ := HF.out (by omega)
  clear g1 HF
  go_wp2_with fail
  refine (rcopy_at a c xs w1 (hx.below B1 (Nat.le_refl _)) (fun x h => (ax x h).below B1 (Nat.le_refl _)) hn hfx).mono ?_
  rintro e w2 ⟨a', c', zs, rfl, row2, each2, hzs, b2⟩
  have B2 := Below.then B1 b2
  have hlen : zs.length = xs.length := by have := congrArg List.length hzs; simpa using this
  have rwz : Rws w2 a' c' zs := ⟨row2, each2⟩
  have hiz : ∀ z ∈ zs, Sh.RIn z.r := fun z hz => by
    have : z.r ∈ xs.map Rv.r := by rw [← hzs]; exact List.mem_map_of_mem hz
    obtain ⟨x, hx, he⟩ := List.mem_map.1 this
    rw [← he]; exact hin x hx
  have T1 := hideP (showProgram_at a' c' zs w2 (hL.below B2) rwz hiz)
  have T2 := hideP (fun W (h : Below w.heap.size w W) => rprogram9_at a c xs W (rw0.below h) hin)
  have K := hideP (fun W (h : Below w2.heap.size w2 W) => rlike_rws (rwz.below h) (rw0.below (Below.then B2 h)) hzs)
  rw [hzs] at T1
  obtain ⟨s, er, hs⟩ := pv_known (Sh.progS (xs.map Rv.r))
  rw [hs] at T1 T2
  clear hs hzs
  rw [hlen] at T1 K ⊢
  clear row2 each2 hiz hfx hr B1 b2
  have Hl := hideP hlen
  clear hlen
  go_wp2_with fail
  refine T1.out.mono ?_
  rintro e w3 ⟨rfl, b3⟩
  have B3 := Below.then B2 b3
  go_wp2_with fail
  refine (T2.out w3 B3).mono ?_
  rintro e w4 ⟨rfl, b4⟩
  have B4 := Below.then B3 b4
  go_wp2_with fail
  refine (K.out w4 (Below.then b3 b4)).mono ?_
  rintro e w5 ⟨rfl, b5⟩
  have B5 := Below.then B4 b5
  clear T1 T2 K
  go_wp2_with fail
  go_loopw [8] (fun v wr => ∃ k : Nat, v = .int .i64 (k : Int) ∧ k ≤ xs.length ∧ Below w.heap.size w wr) (fun v _ => xs.length - (Lib.intOf v).toNat)
  case atStart => exact ⟨0, rfl, Nat.zero_le _, B5⟩
  case round =>
    obtain ⟨k, rfl, hk, hb⟩ := hrel
    by_cases hlt : k < xs.length
    · have q2 : (k : Int) < (xs.length : Int) := by omega
      obtain ⟨A1, O1, rfl⟩ := hx.addr (Nat.lt_of_le_of_lt (Nat.zero_le _) hlt)
      have RC := hideP (fun W (h : Below w.heap.size w W) => (show W.rangeAt A1 (O1 + k * 11) (rv (xs[k]'hlt)) from (hx.below h (Nat.le_refl _)).range k hlt))
      have aP := ax _ (List.getElem_mem hlt)
      have hyi := hin _ (List.getElem_mem hlt)
      generalize (xs[k]'hlt) = y at *
      have iP : (Tryd.prog.info? 41).map (·.size) = some (rv y).length := Tryd.iR11
      have T1 := hideP (showRule_at y wr (hL.below hb) (aP.below hb (Nat.le_refl _)) hyi)
      have T2 := hideP (fun W (h : Below w.heap.size w W) => rrule_at y W (aP.below h (Nat.le_refl _)) hyi)
      obtain ⟨s', er', hs'⟩ := sv_two (Sh.ruleS y.r)
      rw [hs'] at T1 T2
      clear hs'
      have r1 := RC.out wr hb
      go_upto_region 12 with (first
        | (refine wpList_load_mid rfl 41 _ rfl A1 (O1 + k * 11) rfl (rv y) _ r1 Tryd.underlying41 rfl iP ?_)
        | (go_at_call 16; refine T1.out.mono ?_; rintro e w6 ⟨rfl, b6⟩))
      have B6 := hb.trans (b6.mono hb.size)
      have r2 := RC.out w6 B6
      go_wp2_with (first
        | (refine wpList_load_mid rfl 41 _ rfl A1 (O1 + k * 11) rfl (rv y) _ r2 Tryd.underlying41 rfl iP ?_)
        | (go_at_call 17; refine (T2.out w6 B6).mono ?_; rintro e w7 ⟨rfl, b7⟩))
      exact ⟨⟨k + 1, by go_num, by omega, Below.then B6 b7⟩, by simp [Lib.intOf]; omega⟩
    · have q2 : ¬ (k : Int) < (xs.length : Int) := by omega
      go_wp2_with fail
      refine (LV.out wr (hL.below hb)).mono ?_
      rintro e w6 ⟨rfl, b6⟩
      go_wp2_with fail
      go_ret
      exact ⟨rfl, Below.then hb b6⟩
end Go.Proofs.YtcogjphoceaejaaDoor
