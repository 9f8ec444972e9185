/-
  The program's Term, Rule, Program: what they answer.
-/
import Derived.Test.YtcogjphoceaejaaDoorPt2
namespace Go.Proofs.YtcogjphoceaejaaDoor
open Go.RowKit Go.Lib Go.Shelf

/-- an answer: a text, or an error beside the empty one -/
def sv (r : Option (List UInt8)) : Value := match r with | some s => .tuple #[str s, .int .i64 0] | none => .tuple #[str [], .int .i64 100]
def pv (r : Except Int (List UInt8)) : Value := match r with | .ok s => .tuple #[str s, .int .i64 0] | .error e => .tuple #[str [], .int .i64 e]
theorem fresh_ps {w0 w : World} (hL : Laid w0) (hb : Below w0.heap.size w0 w) : PS w0 w.heap.size [] (w.alloc (.cells #[.pointer none, .slice none 0 0] 55)) := by
  refine ⟨hL, hb.trans ((below_alloc w _).mono hb.size), .inl ⟨hb.size, .slice none 0 0, heap_alloc_new w _, World.ownsRow_nil _ _ _ _, by simp [Value.ownBlock]⟩⟩
theorem term_ne {t : Tm} {s : List UInt8} (h : Sh.termS t = some s) : s ≠ [] := by
  unfold Sh.termS at h
  split at h
  · rename_i hv
    split at h
    · cases h; exact hv
    · cases h
  · split at h
    · split at h
      · cases h
        unfold Go.Lib.itoa
        split
        · simp
        · exact Lx.dec_ne _
      · cases h
    · split at h
      · split at h
        · rename_i hw
          cases h
          have := (Sh.named_len (Sh.word_named hw).1).1
          intro h0; rw [h0] at this; simp at this
        · cases h; simp
      · cases h
theorem rule_ne {r : Ru} {s : List UInt8} (h : Sh.ruleS r = some s) : s ≠ [] := by
  obtain ⟨a, x, t, m, _, _, _, _, _, _, rfl⟩ := Sh.rule_parts h
  simp

set_option maxRecDepth 100000 in
set_option maxHeartbeats 2000000 in
theorem showTerm_at (t : Tm) (w : World) (hL : Laid w) (hi : Sh.KIn t) :
    Calls Tryd.prog 9 #[tval t] w fun e w' => e = .returned (sv (Sh.termS t)) ∧ Below w.heap.size w w' := by
  have A0 := below_alloc w (.cells (tv t).toArray 25)
  have H0 := heap_alloc_new w (.cells (tv t).toArray 25)
  have T1 := hideP (canTerm_at t _ (hL.below A0))
  have HC : Hid (Sh.canT t = (Sh.termS t).isSome) := rfl
  cases hs : Sh.termS t with
  | none =>
    rw [HC.out, hs] at T1
    clear hs HC
    go_enter Tryd.func9, Tryd.ntmps9
    go_wp2_with fail
    refine T1.out.mono ?_
    rintro e w1 ⟨rfl, b1⟩
    simp only [Option.isSome]
    go_wp2_with fail
    go_ret2
    exact ⟨rfl, Below.then A0 b1⟩
  | some s =>
    rw [HC.out, hs] at T1
    have hsl := Sh.term_len hi hs
    have hne := term_ne hs
    go_enter Tryd.func9, Tryd.ntmps9
    go_wp2_with fail
    refine T1.out.mono ?_
    rintro e w1 ⟨rfl, b1⟩
    simp only [Option.isSome]
    have H1 := below_heap b1 H0
    have B1 := Below.then A0 b1
    have P1 := fresh_ps hL B1
    have H1' := below_heap (below_alloc w1 (.cells #[.pointer none, .slice none 0 0] 55)) H1
    go_wp2_with (refine wpList_load_all rfl 25 _ rfl w.heap.size 4 25 (tv t) _ rfl H1' rfl Tryd.underlying25 rfl Tryd.iT4 ?_)
    refine (pterm_at t P1 hi hs (by simp)).mono ?_
    rintro e w2 ⟨rfl, P2, k2⟩
    rw [List.nil_append] at P2
    go_wp2_with fail
    refine (string_at w.heap.size w1.heap.size s w2 P2.bld hne).mono ?_
    rintro e w3 ⟨rfl, b3⟩
    go_wp2_with fail
    go_ret2
    exact ⟨rfl, P2.low.trans b3⟩

set_option maxRecDepth 100000 in
set_option maxHeartbeats 2000000 in
theorem showRule_at (x : Rv) (w : World) (hL : Laid w) (hx : Rv.Aw w x) (hi : Sh.RIn x.r) :
    Calls Tryd.prog 16 #[rval x] w fun e w' => e = .returned (sv (Sh.ruleS x.r)) ∧ Below w.heap.size w w' := by
  have A0 := below_alloc w (.cells (rv x).toArray 41)
  have H0 := heap_alloc_new w (.cells (rv x).toArray 41)
  have T1 := hideP (canRule_at x _ (hL.below A0) (hx.below A0 (Nat.le_refl _)))
  have HC := hideP (Sh.rule_some x.r)
  cases hs : Sh.ruleS x.r with
  | none =>
    rw [← HC.out, hs] at T1
    clear hs HC
    go_enter Tryd.func16, Tryd.ntmps16
    go_wp2_with (refine wpList_load_all rfl 41 _ rfl w.heap.size 11 41 (rv x) _ rfl H0 rfl Tryd.underlying41 rfl Tryd.iR11 ?_)
    refine T1.out.mono ?_
    rintro e w1 ⟨rfl, b1⟩
    simp only [Option.isSome]
    go_wp2_with fail
    go_ret2
    exact ⟨rfl, Below.then A0 b1⟩
  | some s =>
    rw [← HC.out, hs] at T1
    have hsl := Sh.rule_len hi hs
    have hne := rule_ne hs
    go_enter Tryd.func16, Tryd.ntmps16
    go_wp2_with (refine wpList_load_all rfl 41 _ rfl w.heap.size 11 41 (rv x) _ rfl H0 rfl Tryd.underlying41 rfl Tryd.iR11 ?_)
    refine T1.out.mono ?_
    rintro e w1 ⟨rfl, b1⟩
    simp only [Option.isSome]
    have H1 := below_heap b1 H0
    have B1 := Below.then A0 b1
    have P1 := fresh_ps hL B1
    have H1' := below_heap (below_alloc w1 (.cells #[.pointer none, .slice none 0 0] 55)) H1
    go_wp2_with (refine wpList_load_all rfl 41 _ rfl w.heap.size 11 41 (rv x) _ rfl H1' rfl Tryd.underlying41 rfl Tryd.iR11 ?_)
    refine (prule_at x P1 hx hi hs (by simp)).mono ?_
    rintro e w2 ⟨rfl, P2, k2⟩
    rw [List.nil_append] at P2
    go_wp2_with fail
    refine (string_at w.heap.size w1.heap.size s w2 P2.bld hne).mono ?_
    rintro e w3 ⟨rfl, b3⟩
    go_wp2_with fail
    go_ret2
    exact ⟨rfl, P2.low.trans b3⟩

set_option maxRecDepth 100000 in
set_option maxHeartbeats 4000000 in
theorem showProgram_at (a : Option Addr) (c : Nat) (xs : List Rv) (w : World) (hL : Laid w) (hx : Rws w a c xs) (hi : ∀ x ∈ xs, Sh.RIn x.r) :
    Calls Tryd.prog 13 #[.slice a xs.length c] w fun e w' => e = .returned (pv (Sh.progS (xs.map Rv.r))) ∧ Below w.heap.size w w' := by
  have few := hx.row.few
  have hml : (xs.map Rv.r).length = xs.length := List.length_map ..
  have HP : Hid (Sh.progS (xs.map Rv.r) = if 16 < (xs.map Rv.r).length then .error 81 else match Sh.allS (xs.map Rv.r) with | none => .error 100 | some s => if 4096 < s.length then .error 3 else .ok s) := rfl
  rw [hml] at HP
  by_cases h16 : 16 < xs.length
  · have q : (xs.length : Int) > 16 := by omega
    rw [if_pos h16] at HP
    go_enter Tryd.func13, Tryd.ntmps13
    go_wp2_with fail
    go_ret2
    exact ⟨by rw [HP.out]; rfl, Below.refl _ _⟩
  rw [if_neg h16] at HP
  have q : ¬ (xs.length : Int) > 16 := by omega
  clear hml
  cases xs with
  | nil =>
    have HP2 : Hid (Sh.progS (([] : List Rv).map Rv.r) = .ok []) := HP.out
    clear HP
    simp only [List.length_nil] at q few ⊢
    have A0 := below_alloc w (.cells #[.pointer none, .slice none 0 0] 55)
    have P0 := fresh_ps hL (Below.refl w.heap.size w)
    have H0 := heap_alloc_new w (.cells #[.pointer none, .slice none 0 0] 55)
    go_enter Tryd.func13, Tryd.ntmps13
    go_wp2_with fail
    go_loopw [6, 14] (fun _ v wr => v = .int .i64 0 ∧ wr = w.alloc (.cells #[.pointer none, .slice none 0 0] 55)) (fun _ _ _ => 0)
    case atStart => exact ⟨rfl, rfl⟩
    case round =>
      obtain ⟨rfl, rfl⟩ := hrel
      go_wp2_with fail
      refine (len_at w.heap.size w.heap.size [] _ P0.bld).mono ?_
      rintro e w1 ⟨rfl, rfl⟩
      go_wp2_with fail
      refine (string_none w.heap.size w.heap.size _ _ H0).mono ?_
      rintro e w3 ⟨rfl, b3⟩
      go_wp2_with fail
      go_ret2
      exact ⟨by rw [HP2.out]; rfl, A0.trans b3⟩
  | cons x0 xr =>
    generalize hxs : x0 :: xr = xs at *
    have hpos : 0 < xs.length := by rw [← hxs]; simp
    clear hxs
    have P0 := fresh_ps hL (Below.refl w.heap.size w)
    go_enter Tryd.func13, Tryd.ntmps13
    go_wp2_with fail
    go_loopw [6, 14] (fun _ v wr => ∃ (k : Nat) (T : List UInt8), v = .int .i64 (k : Int) ∧ k ≤ xs.length ∧ Hid (Sh.allS ((xs.take k).map Rv.r) = some T) ∧ PS w w.heap.size T wr) (fun _ v _ => xs.length - (Lib.intOf v).toNat)
    case atStart => exact ⟨0, [], rfl, Nat.zero_le _, rfl, P0⟩
    case round =>
      obtain ⟨k, T, rfl, hk, HT, P1⟩ := hrel
      have hTl : T.length ≤ 21000 := by
        have := Sh.all_len (fun r hr => by
          obtain ⟨y, hy, rfl⟩ := List.mem_map.1 hr
          exact hi y (List.mem_of_mem_take hy)) HT.out
        rw [List.length_map, List.length_take] at this
        omega
      by_cases hlt : k < xs.length
      · have q2 : (k : Int) < (xs.length : Int) := by omega
        obtain ⟨A1, O1, rfl⟩ := hx.row.addr (Nat.lt_of_le_of_lt (Nat.zero_le _) hlt)
        have r1 : wr.rangeAt A1 (O1 + k * 11) (rv (xs[k]'hlt)) := (hx.row.below P1.low (Nat.le_refl _)).range k hlt
        have aP := hx.each _ (List.getElem_mem hlt)
        have hyi := hi _ (List.getElem_mem hlt)
        have HX2 : Hid (∀ s, Sh.ruleS (xs[k]'hlt).r = some s → Sh.allS ((xs.take (k + 1)).map Rv.r) = some (T ++ (s ++ [10]))) := fun s hs => by
          have := Sh.all_snoc HT.out hs
          rw [List.take_succ_eq_append_getElem hlt, List.map_append]; exact this
        have HN : Hid (Sh.ruleS (xs[k]'hlt).r = none → Sh.progS (xs.map Rv.r) = .error 100) := fun hn => by
          rw [HP.out, Sh.all_none (List.mem_map_of_mem (List.getElem_mem hlt)) hn]
        clear HT
        generalize (xs[k]'hlt) = y at *
        have iP : (Tryd.prog.info? 41).map (·.size) = some (rv y).length := Tryd.iR11
        have HC := hideP (Sh.rule_some y.r)
        have T1 := hideP (fun W (h : Below w.heap.size w W) => canRule_at y W (hL.below h) (aP.below h (Nat.le_refl _)))
        go_upto_region 7 with (first
          | (refine wpList_load_mid rfl 41 _ rfl A1 (O1 + k * 11) rfl (rv y) _ r1 Tryd.underlying41 rfl iP ?_)
          | (refine wpList_store_all rfl 41 _ _ rfl wr.heap.size 11 _ 41 (rv y) rfl rfl (heap_alloc_new wr _) rfl rfl Tryd.iR11 rfl ?_; intro w2 H2 d2; have B2 := below_tok d2))
        have P2 := P1.below B2
        have hne' : wr.heap.size ≠ w.heap.size := by have := P1.lt; omega
        go_wp2_with (refine wpList_load_all rfl 41 _ rfl wr.heap.size 11 41 (rv y) _ rfl H2 rfl Tryd.underlying41 rfl Tryd.iR11 ?_)
        refine (T1.out w2 P2.low).mono ?_
        rintro e w3 ⟨rfl, b3⟩
        have P3 := P2.below b3
        have H3 := below_heap b3 H2
        rw [← HC.out]
        clear d2 P1 P2 r1 T1 HC
        cases hs : Sh.ruleS y.r with
        | none =>
          have HN' := hideP (HN.out hs)
          simp only [Option.isSome]
          clear hs HN
          go_wp2_with fail
          go_ret2
          exact ⟨by rw [HN'.out]; rfl, P3.low⟩
        | some s =>
          have HX3 := hideP (HX2.out s hs)
          have hsl := Sh.rule_len hyi hs
          simp only [Option.isSome]
          have TT := hideP (prule_at y P3 aP hyi hs (by omega))
          clear HX2 HN hs
          go_wp2_with (refine wpList_load_all rfl 41 _ rfl wr.heap.size 11 41 (rv y) _ rfl H3 rfl Tryd.underlying41 rfl Tryd.iR11 ?_)
          refine TT.out.mono ?_
          rintro e w4 ⟨rfl, P4, k4⟩
          go_wp2_with fail
          refine (pwbyte P4 10 (by rw [List.length_append]; omega)).mono ?_
          rintro e w5 ⟨rfl, P5, k5⟩
          go_wp2_with fail
          exact ⟨⟨k + 1, T ++ (s ++ [10]), by go_num, by omega, HX3, by rw [← List.append_assoc]; exact P5⟩, by simp [Lib.intOf]; omega⟩
      · have q2 : ¬ (k : Int) < (xs.length : Int) := by omega
        have HA : Hid (Sh.allS (xs.map Rv.r) = some T) := by
          have := HT.out
          rwa [List.take_of_length_le (by omega)] at this
        have HP2 : Hid (Sh.progS (xs.map Rv.r) = if 4096 < T.length then .error 3 else .ok T) := by
          show _ = _
          rw [HP.out, HA.out]
        have hTn : T ≠ [] := fun h0 => by
          have h1 := HA.out
          cases xs with
          | nil => simp at hpos
          | cons x1 xr =>
            rw [List.map_cons, Sh.allS] at h1
            obtain ⟨y1, hy1, h1⟩ := Option.bind_eq_some_iff.1 h1
            obtain ⟨z1, hz1, h1⟩ := Option.map_eq_some_iff.1 h1
            rw [h0] at h1; simp at h1
        clear HP HT HA
        go_wp2_with fail
        refine (len_at w.heap.size w.heap.size T wr P1.bld).mono ?_
        rintro e w1 ⟨rfl, rfl⟩
        by_cases h4 : 4096 < T.length
        · have q3 : (T.length : Int) > 4096 := by omega
          rw [if_pos h4] at HP2
          go_wp2_with fail
          go_ret2
          exact ⟨by rw [HP2.out]; rfl, P1.low⟩
        · have q3 : ¬ (T.length : Int) > 4096 := by omega
          rw [if_neg h4] at HP2
          go_wp2_with fail
          refine (string_at w.heap.size w.heap.size T wr P1.bld hTn).mono ?_
          rintro e w3 ⟨rfl, b3⟩
          go_wp2_with fail
          go_ret2
          exact ⟨by rw [HP2.out]; rfl, P1.low.trans b3⟩
end Go.Proofs.YtcogjphoceaejaaDoor
