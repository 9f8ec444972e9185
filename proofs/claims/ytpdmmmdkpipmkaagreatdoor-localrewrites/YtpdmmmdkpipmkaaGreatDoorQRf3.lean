/-
  The reference's Term and maybe: what they answer.
-/
import Derived.Test.YtpdmmmdkpipmkaaGreatDoorQRf2
import Derived.Test.YtpdmmmdkpipmkaaGreatDoorQVf
namespace Go.Proofs.YtpdmmmdkpipmkaaGreatDoor
open Go.RowKit Go.Lib Go.Shelf

theorem Tryz.iK3 : (Tryz.prog.info? 42).map (·.size) = some 3 := by kernel_rfl
theorem rnone_at (t : Tm) (w : World) : Calls Tryz.prog 136 #[tval t] w fun e w' => e = .returned (.bool (Sh.noneT t)) ∧ Below w.heap.size w w' := by
  have E := fun W => eqTerm t ⟨[], ⟨false, 0, []⟩⟩ W
  simp only [same_none] at E
  generalize Sh.noneT t = r at *
  obtain ⟨v, ⟨a, b, c⟩⟩ := t
  go_enter Tryz.func136, Tryz.ntmps136
  go_wp2_with fail
  go_ret
  exact ⟨rfl, below_alloc _ _⟩

set_option maxRecDepth 100000 in
set_option maxHeartbeats 4000000 in
theorem rterm_at (t : Tm) (w : World) (hi : Sh.KIn t) :
    Calls Tryz.prog 80 #[tval t] w fun e w' => e = .returned (sv (Sh.termS t)) ∧ Below w.heap.size w w' := by
  have E := fun W => eqConst t.k ⟨false, 0, []⟩ 9998 W
  simp only [same_zk] at E
  obtain ⟨v, ⟨a, n, c⟩⟩ := t
  simp only at E
  have A0 := below_alloc w (.cells #[str v, .bool a, .int .i64 n, str c] 44)
  have H0 := heap_alloc_new w (.cells #[str v, .bool a, .int .i64 n, str c] 44)
  by_cases hv : v = []
  · subst hv
    clear E
    have Hz : ((w.alloc (.cells #[str [], .bool a, .int .i64 n, str c] 44)).alloc (.cells #[.bool false, .int .i64 0, .string { data := #[] }] 42)).heap[w.heap.size + 1]? = some (.cells #[.bool false, .int .i64 0, .string { data := #[] }] 42) := by
      have := heap_alloc_new (w.alloc (.cells #[str [], .bool a, .int .i64 n, str c] 44)) (.cells #[.bool false, .int .i64 0, .string { data := #[] }] 42)
      simpa using this
    have AA := Below.then A0 (below_alloc _ (.cells #[.bool false, .int .i64 0, .string { data := #[] }] 42))
    cases a
    · have HT : Hid (Sh.termS ⟨[], ⟨false, n, c⟩⟩ = if n = 0 ∧ Sh.plainB c = true then (if Sh.wordB c = true then some c else some (34 :: (c ++ [34]))) else none) := by
        show _ = _
        unfold Sh.termS
        simp
      have HP : Hid (Sh.plainB c = (decide (1 ≤ c.length) && decide (c.length ≤ 32) && c.all Lx.plain)) := rfl
      have hsz := str_size c
      go_enter Tryz.func80, Tryz.ntmps80
      go_upto_region 10 with (first
        | (refine wpList_store_all rfl 42 _ _ rfl (w.heap.size + 1) 3 _ 42 [.bool false, .int .i64 n, str c] rfl rfl Hz rfl rfl Tryz.iK3 rfl ?_; intro w2 H2 d2; have B2 : Below w.heap.size w w2 := AA.trans (d2.lower (by omega) AA.size); have c0 : w2.cell? ⟨w.heap.size + 1, 0, none⟩ = some (.bool false) := (by rw [heap_cell H2]; rfl); have c1 : w2.cell? ⟨w.heap.size + 1, 1, none⟩ = some (.int .i64 n) := (by rw [heap_cell H2]; rfl); have c2 : w2.cell? ⟨w.heap.size + 1, 2, none⟩ = some (str c) := (by rw [heap_cell H2]; rfl)))
      clear Hz AA d2 A0 H0
      by_cases hn : n = 0
      rotate_left
      · have q : (n == 0) = false := by simpa using hn
        have HT2 : Hid (Sh.termS ⟨[], ⟨false, n, c⟩⟩ = none) := by show _ = _; rw [HT.out, if_neg (fun h => hn h.1)]
        clear HT
        go_wp2_with fail
        go_ret2
        exact ⟨by rw [HT2.out]; rfl, B2⟩
      subst hn
      by_cases h1 : 1 ≤ c.length
      rotate_left
      · have q1 : (c.length : Int) < 1 := by omega
        have HT2 : Hid (Sh.termS ⟨[], ⟨false, 0, c⟩⟩ = none) := by show _ = _; rw [HT.out, HP.out]; simp [h1]
        clear HT HP
        go_wp2_with fail
        go_ret2
        exact ⟨by rw [HT2.out]; rfl, B2⟩
      have q1 : ¬ (c.length : Int) < 1 := by omega
      by_cases h2 : c.length ≤ 32
      rotate_left
      · have q2 : (c.length : Int) > 32 := by omega
        have HT2 : Hid (Sh.termS ⟨[], ⟨false, 0, c⟩⟩ = none) := by show _ = _; rw [HT.out, HP.out]; simp [h2]
        clear HT HP
        go_wp2_with fail
        go_ret2
        exact ⟨by rw [HT2.out]; rfl, B2⟩
      have q2 : ¬ (c.length : Int) > 32 := by omega
      have HT2 : Hid (Sh.termS ⟨[], ⟨false, 0, c⟩⟩ = if c.all Lx.plain = true then (if Sh.wordB c = true then some c else some (34 :: (c ++ [34]))) else none) := by
        show _ = _
        rw [HT.out, HP.out]; simp [h1, h2]
      clear HT HP
      go_wp2_with fail
      go_loopw [5] (fun v wr => ∃ k : Nat, v = .int .i64 (k : Int) ∧ k ≤ c.length ∧ Hid ((c.take k).all Lx.plain = true) ∧ w2 = wr) (fun v _ => c.length - (Lib.intOf v).toNat)
      case atStart => exact ⟨0, rfl, Nat.zero_le _, rfl, rfl⟩
      case round =>
        obtain ⟨k, rfl, hk, hall, rfl⟩ := hrel
        by_cases hlt : k < c.length
        · have q3 : (k : Int) < (c.length : Int) := by omega
          have hst : Hid (Lx.plain (c[k]'hlt) = true → (c.take (k + 1)).all Lx.plain = true) := fun h => by
            rw [List.take_succ_eq_append_getElem hlt, List.all_append, hall.out]; simp [h]
          have hno : Hid (Lx.plain (c[k]'hlt) = false → c.all Lx.plain = false) := fun h => by
            rw [List.all_eq_false]; exact ⟨_, List.getElem_mem hlt, by rw [h]; decide⟩
          have hgk : ∀ h', ((⟨c.toArray⟩ : ByteArray)[k]'h').toNat = ((c)[k]'hlt).toNat := fun _ => rfl
          have I := hideP (fun w => rplain_at (c[k]'hlt) w)
          generalize (c[k]'hlt) = d at *
          generalize Lx.plain d = ib at *
          generalize d.toNat = m at *
          cases ib
          · have hno' := hideP (hno.out rfl)
            clear hno hst hall
            go_wp2_with (first
              | (go_at_call 134; (try rw [hgk]); refine (I.out _).mono ?_; rintro e w3 ⟨rfl, rfl⟩))
            go_ret2
            exact ⟨by rw [HT2.out, if_neg (by rw [hno'.out]; simp)]; rfl, B2⟩
          · have hst' := hideP (hst.out rfl)
            clear hno hst hall
            go_wp2_with (first
              | (go_at_call 134; (try rw [hgk]); refine (I.out _).mono ?_; rintro e w3 ⟨rfl, rfl⟩))
            exact ⟨⟨k + 1, by go_num, by omega, hst', trivial⟩, by simp [Lib.intOf]; omega⟩
        · have q3 : ¬ (k : Int) < (c.length : Int) := by omega
          have hfin : c.all Lx.plain = true := by
            have := hall.out
            rwa [List.take_of_length_le (by omega)] at this
          rw [if_pos hfin] at HT2
          have WD := hideP (fun w => rword_at c w)
          clear hfin hall
          cases hw : Sh.wordB c with
          | true =>
            rw [if_pos hw] at HT2
            rw [hw] at WD
            clear hw
            go_wp2_with (first
              | (go_at_call 135; refine (WD.out _).mono ?_; rintro e w3 ⟨rfl, rfl⟩))
            go_ret2
            exact ⟨by rw [HT2.out]; rfl, B2⟩
          | false =>
            rw [if_neg (by simp [hw])] at HT2
            rw [hw] at WD
            clear hw
            have z1 := str_size (34 :: c)
            have e1 : (⟨#[34]⟩ : ByteArray) ++ ⟨c.toArray⟩ = ⟨(34 :: c).toArray⟩ := str_add [34] c
            have e2 : (⟨(34 :: c).toArray⟩ : ByteArray) ++ ⟨#[34]⟩ = ⟨(34 :: (c ++ [34])).toArray⟩ := str_add (34 :: c) [34]
            have n1 : (34 :: c).length ≤ 33 := by simp; omega
            generalize 34 :: c = s1 at *
            generalize 34 :: (c ++ [34]) = s2 at *
            go_wp2_with (first
              | (go_at_call 135; refine (WD.out _).mono ?_; rintro e w3 ⟨rfl, rfl⟩))
            go_ret2
            exact ⟨by rw [HT2.out]; rfl, B2⟩
    · have HT : Hid (Sh.termS ⟨[], ⟨true, n, c⟩⟩ = if c = [] then some (Lib.itoa n) else none) := by
        show _ = _
        unfold Sh.termS
        simp
      by_cases hc : c = []
      · subst hc
        have HT2 : Hid (Sh.termS ⟨[], ⟨true, n, []⟩⟩ = some (Lib.itoa n)) := by show _ = _; rw [HT.out]; simp
        have D := hideP (fun W => rdigits_at n W hi)
        clear HT
        generalize Lib.itoa n = s at *
        go_enter Tryz.func80, Tryz.ntmps80
        go_upto_region 6 with (first
          | (refine wpList_store_all rfl 42 _ _ rfl (w.heap.size + 1) 3 _ 42 [.bool true, .int .i64 n, str []] rfl rfl Hz rfl rfl Tryz.iK3 rfl ?_; intro w2 H2 d2; have B2 : Below w.heap.size w w2 := AA.trans (d2.lower (by omega) AA.size); have c0 : w2.cell? ⟨w.heap.size + 1, 0, none⟩ = some (.bool true) := (by rw [heap_cell H2]; rfl); have c1 : w2.cell? ⟨w.heap.size + 1, 1, none⟩ = some (.int .i64 n) := (by rw [heap_cell H2]; rfl); have c2 : w2.cell? ⟨w.heap.size + 1, 2, none⟩ = some (str []) := (by rw [heap_cell H2]; rfl)))
        clear Hz AA d2 A0 H0
        go_wp2_with fail
        refine (D.out w2).mono ?_
        rintro e w3 ⟨rfl, b3⟩
        go_wp2_with fail
        go_ret2
        exact ⟨by rw [HT2.out]; rfl, Below.then B2 b3⟩
      · have HT2 : Hid (Sh.termS ⟨[], ⟨true, n, c⟩⟩ = none) := by show _ = _; rw [HT.out, if_neg hc]
        have q : c.isEmpty = false := by simpa using hc
        clear HT hc
        go_enter Tryz.func80, Tryz.ntmps80
        go_upto_region 6 with (first
          | (refine wpList_store_all rfl 42 _ _ rfl (w.heap.size + 1) 3 _ 42 [.bool true, .int .i64 n, str c] rfl rfl Hz rfl rfl Tryz.iK3 rfl ?_; intro w2 H2 d2; have B2 : Below w.heap.size w w2 := AA.trans (d2.lower (by omega) AA.size); have c0 : w2.cell? ⟨w.heap.size + 1, 0, none⟩ = some (.bool true) := (by rw [heap_cell H2]; rfl); have c1 : w2.cell? ⟨w.heap.size + 1, 1, none⟩ = some (.int .i64 n) := (by rw [heap_cell H2]; rfl); have c2 : w2.cell? ⟨w.heap.size + 1, 2, none⟩ = some (str c) := (by rw [heap_cell H2]; rfl)))
        clear Hz AA d2 A0 H0
        go_wp2_with fail
        go_ret2
        exact ⟨by rw [HT2.out]; rfl, B2⟩
  · have q : v.isEmpty = false := by simpa using hv
    have HT : Hid (Sh.termS ⟨v, ⟨a, n, c⟩⟩ = if (Sh.zk ⟨a, n, c⟩ && Sh.namedB Lx.great v) = true then some v else none) := by
      show _ = _
      unfold Sh.termS
      rw [if_pos hv]
    have N := hideP (fun W => rnamed_at Lx.great 65 90 (fun _ => rfl) v W)
    generalize Sh.zk ⟨a, n, c⟩ = z at *
    generalize Sh.namedB Lx.great v = nb at *
    clear hv
    cases z
    · go_enter Tryz.func80, Tryz.ntmps80
      go_wp2_with fail
      go_ret2
      exact ⟨by rw [HT.out]; rfl, A0⟩
    · cases nb
      · go_enter Tryz.func80, Tryz.ntmps80
        go_wp2_with (first
          | (go_at_call 133; refine (N.out _).mono ?_; rintro e w3 ⟨rfl, rfl⟩))
        go_ret2
        exact ⟨by rw [HT.out]; rfl, A0⟩
      · go_enter Tryz.func80, Tryz.ntmps80
        go_wp2_with (first
          | (go_at_call 133; refine (N.out _).mono ?_; rintro e w3 ⟨rfl, rfl⟩))
        go_ret2
        exact ⟨by rw [HT.out]; rfl, A0⟩
end Go.Proofs.YtpdmmmdkpipmkaaGreatDoor
