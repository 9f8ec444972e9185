/-
  The reference's Program: what it answers.
-/
import Derived.Test.YtcogjphoceaejaaDoorRf5
namespace Go.Proofs.YtcogjphoceaejaaDoor
open Go.RowKit Go.Lib Go.Shelf

set_option maxRecDepth 100000 in
set_option maxHeartbeats 4000000 in
theorem rprogram9_at (a : Option Addr) (c : Nat) (xs : List Rv) (w : World) (hx : Rws w a c xs) (hi : ∀ x ∈ xs, Sh.RIn x.r) :
    Calls Tryd.prog 14 #[.slice a xs.length c] w fun e w' => e = .returned (pv (Sh.progS (xs.map Rv.r))) ∧ Below w.heap.size w w' := by
  have few := hx.row.few
  have hml : (xs.map Rv.r).length = xs.length := List.length_map ..
  have HP : Hid (Sh.progS (xs.map Rv.r) = if 16 < (xs.map Rv.r).length then .error 81 else match Sh.allS (xs.map Rv.r) with | none => .error 100 | some s => if 4096 < s.length then .error 3 else .ok s) := rfl
  rw [hml] at HP
  by_cases h16 : 16 < xs.length
  · have q : (xs.length : Int) > 16 := by omega
    rw [if_pos h16] at HP
    go_enter Tryd.func14, Tryd.ntmps14
    go_wp2_with fail
    go_ret2
    exact ⟨by rw [HP.out]; rfl, Below.refl _ _⟩
  rw [if_neg h16] at HP
  have q : ¬ (xs.length : Int) > 16 := by omega
  clear hml
  go_enter Tryd.func14, Tryd.ntmps14
  go_wp2_with fail
  go_loopw [4, 5] (fun v4 v5 wr => ∃ (k : Nat) (T : List UInt8), v4 = str T ∧ v5 = .int .i64 (k : Int) ∧ k ≤ xs.length ∧ Hid (Sh.allS ((xs.take k).map Rv.r) = some T) ∧ Below w.heap.size w wr) (fun _ v _ => xs.length - (Lib.intOf v).toNat)
  case atStart => exact ⟨0, [], rfl, rfl, Nat.zero_le _, rfl, Below.refl _ _⟩
  case round =>
    obtain ⟨k, T, rfl, rfl, hk, HT, hb⟩ := hrel
    have zT := str_size T
    have hTl : T.length ≤ 21000 := by
      have := Sh.all_len (fun r hr => by
        obtain ⟨y, hy, rfl⟩ := List.mem_map.1 hr
        exact hi y (List.mem_of_mem_take hy)) HT.out
      rw [List.length_map, List.length_take] at this
      omega
    by_cases hlt : k < xs.length
    · have q2 : (k : Int) < (xs.length : Int) := by omega
      obtain ⟨A1, O1, rfl⟩ := hx.row.addr (Nat.lt_of_le_of_lt (Nat.zero_le _) hlt)
      have r1 : wr.rangeAt A1 (O1 + k * 11) (rv (xs[k]'hlt)) := (hx.row.below hb (Nat.le_refl _)).range k hlt
      have aP := hx.each _ (List.getElem_mem hlt)
      have hyi := hi _ (List.getElem_mem hlt)
      have HX2 : Hid (∀ s, Sh.ruleS (xs[k]'hlt).r = some s → Sh.allS ((xs.take (k + 1)).map Rv.r) = some (T ++ (s ++ [10]))) := fun s hs => by
        have := Sh.all_snoc HT.out hs
        rw [List.take_succ_eq_append_getElem hlt, List.map_append]; exact this
      have HN : Hid (Sh.ruleS (xs[k]'hlt).r = none → Sh.progS (xs.map Rv.r) = .error 100) := fun hn => by
        rw [HP.out, Sh.all_none (List.mem_map_of_mem (List.getElem_mem hlt)) hn]
      clear HT
      generalize (xs[k]'hlt) = y at *
      have iP : (Tryd.prog.info? 41).map (·.size) = some (rv y).length := Tryd.iR11
      have T1 := hideP (rrule_at y wr (aP.below hb (Nat.le_refl _)) hyi)
      cases hs : Sh.ruleS y.r with
      | none =>
        have HN' := hideP (HN.out hs)
        rw [hs] at T1
        simp only [sv] at T1
        clear hs HN HX2
        go_wp2_with (first
          | (refine wpList_load_mid rfl 41 _ rfl A1 (O1 + k * 11) rfl (rv y) _ r1 Tryd.underlying41 rfl iP ?_)
          | (go_at_call 17; refine T1.out.mono ?_; rintro e w3 ⟨rfl, b3⟩))
        go_ret2
        exact ⟨by rw [HN'.out]; rfl, hb.trans (b3.mono hb.size)⟩
      | some s =>
        have HX3 := hideP (HX2.out s hs)
        have hsl := Sh.rule_len hyi hs
        have zs := str_size s
        rw [hs] at T1
        simp only [sv] at T1
        clear HX2 HN hs
        obtain ⟨c1, h1, e1, z1, n1⟩ := cat s [10]
        obtain ⟨c2, h2, e2, z2, n2⟩ := cat T c1
        simp only [List.length_cons, List.length_nil] at n1
        go_wp2_with (first
          | (refine wpList_load_mid rfl 41 _ rfl A1 (O1 + k * 11) rfl (rv y) _ r1 Tryd.underlying41 rfl iP ?_)
          | (go_at_call 17; refine T1.out.mono ?_; rintro e w3 ⟨rfl, b3⟩))
        refine ⟨⟨k + 1, c2, rfl, by go_num, by omega, ?_, hb.trans (b3.mono hb.size)⟩, by simp [Lib.intOf]; omega⟩
        show _ = _
        rw [HX3.out, h2.out, h1.out]
    · have q2 : ¬ (k : Int) < (xs.length : Int) := by omega
      have HA : Hid (Sh.allS (xs.map Rv.r) = some T) := by
        have := HT.out
        rwa [List.take_of_length_le (by omega)] at this
      have HP2 : Hid (Sh.progS (xs.map Rv.r) = if 4096 < T.length then .error 3 else .ok T) := by
        show _ = _
        rw [HP.out, HA.out]
      clear HP HT HA
      by_cases h4 : 4096 < T.length
      · have q3 : (T.length : Int) > 4096 := by omega
        rw [if_pos h4] at HP2
        go_wp2_with fail
        go_ret2
        exact ⟨by rw [HP2.out]; rfl, hb⟩
      · have q3 : ¬ (T.length : Int) > 4096 := by omega
        rw [if_neg h4] at HP2
        go_wp2_with fail
        go_ret2
        exact ⟨by rw [HP2.out]; rfl, hb⟩
end Go.Proofs.YtcogjphoceaejaaDoor
