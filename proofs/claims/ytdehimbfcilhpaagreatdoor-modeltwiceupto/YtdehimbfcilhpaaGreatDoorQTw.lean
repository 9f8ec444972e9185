/-
  The program's Tokens.
-/
import Derived.Deep.LoopGhost
import Derived.OwnWalk
import Derived.Deep.RegionHeld3
import Derived.Deep.QuietTactic
import Derived.Test.YtdehimbfcilhpaaGreatDoorQNu
import Derived.Test.YtdehimbfcilhpaaGreatDoorQE2
namespace Go.Proofs.YtdehimbfcilhpaaGreatDoor
open Go.RowKit Go.Lib Go.Shelf

theorem Tryz.iTok : (Tryz.prog.info? 119).map (fun i => (i.zero, i.size, i.bytes)) = some (some (.agg #[.int .i64 0, .string .empty, .int .i64 0, .int .i64 0]), 4, 40) := by kernel_rfl
theorem grown_belowT {w w' : World} {base : Nat} {e : TypeId} {k n : Nat} {v : Value} {xs : List Value} (h : w.ownsRow base e k v n xs) (g : w.grownBy w' v.ownBlock) (hb : base ≤ w.heap.size) : Below base w w' := by
  refine (Below.refl _ _).grown g hb fun j hj => ?_
  rcases h.2 with ⟨h0, _⟩ | ⟨gg, cap, cur, hv, hb, _⟩
  · rw [h0] at hj; cases hj
  · rw [hv] at hj; cases hj; exact hb

/-- what Tokens answers -/
def TokAns (l : List UInt8) (w : World) (e : Ending) (w' : World) : Prop :=
  (∃ a c, e = .returned (.tuple #[.slice a (Lx.toks (Lx.ans l)).length c, .int .i64 (Lx.place (Lx.ans l) : Int), .int .i64 (Lx.err (Lx.ans l))]) ∧ RowT kT 119 w' a c (Lx.toks (Lx.ans l)) ∧ ∀ ad, a = some ad → w.heap.size ≤ ad.block) ∧ Below w.heap.size w w'
theorem tokAns_err {l : List UInt8} {w w' : World} {i : Nat} {k : Int} (h : Lx.ans l = .error (i, k)) (hb : Below w.heap.size w w') : TokAns l w (.returned (.tuple #[.slice none 0 0, .int .i64 (i : Int), .int .i64 k])) w' := by
  refine ⟨⟨none, 0, ?_, ?_, fun _ h => by cases h⟩, hb⟩
  · rw [h]; rfl
  · rw [h]; exact RowT.nil _ _ _
theorem tokAns_ok {l : List UInt8} {w w' : World} {v : Value} {n : Nat} {ys : List Lx.Tok} (h : Lx.ans l = .ok ys) (ho : w'.ownsRow w.heap.size 119 4 v n (ys.flatMap tokv)) (hf : ys.length ≤ 4096) (hb : Below w.heap.size w w') : TokAns l w (.returned (.tuple #[v, .int .i64 0, .int .i64 0])) w' := by
  obtain ⟨a, c, hv, hr, ha⟩ := own_row (D := kT) ho (by omega)
  refine ⟨⟨a, c, ?_, ?_, ha⟩, hb⟩
  · rw [h, hv]; rfl
  · rw [h]; exact hr

theorem token_er {l : List UInt8} {k : Nat} (hr : l.length ≤ 281474976710656) (hi : k < l.length) {er : Int} (h : pres (Lx.one l k) = (pz, 0, er)) (w : World) (hL : Laid w) :
    Calls Tryz.prog 73 #[str l, .int .i64 (k : Int)] w fun e w' => e = .returned (.tuple #[.agg (tokv pz).toArray, .int .i64 0, .int .i64 er]) ∧ Below w.heap.size w w' := by
  have := token_at l k w hr hi hL
  rw [h] at this
  exact this
theorem token_yes {l : List UInt8} {k : Nat} (hr : l.length ≤ 281474976710656) (hi : k < l.length) {t : Lx.Tok} {j : Nat} (h : pres (Lx.one l k) = (t, j, 0)) (w : World) (hL : Laid w) :
    Calls Tryz.prog 73 #[str l, .int .i64 (k : Int)] w fun e w' => e = .returned (.tuple #[.agg (tokv t).toArray, .int .i64 (j : Int), .int .i64 0]) ∧ Below w.heap.size w w' := by
  have := token_at l k w hr hi hL
  rw [h] at this
  exact this

set_option maxRecDepth 100000 in
set_option maxHeartbeats 2000000 in
theorem ltokens_at (l : List UInt8) (w : World) (hr : l.length ≤ 281474976710656) (hL : Laid w) :
    Calls Tryz.prog 47 #[str l] w (TokAns l w) := by
  have hsz := str_size l
  by_cases hbig : 4096 < l.length
  · have hb' : (l.length : Int) > 4096 := by omega
    have ha : Lx.ans l = .error (0, 3) := by unfold Lx.ans; rw [if_pos hbig]
    have HA := hideP ha
    clear ha
    go_enter Tryz.func47, Tryz.ntmps47
    go_wp2_with fail
    go_ret3
    exact tokAns_err HA.out (Below.refl _ _)
  · have hb' : ¬ (l.length : Int) > 4096 := by omega
    have ha : Lx.ans l = Lx.tks l (Lx.skip l 0) := by unfold Lx.ans; rw [if_neg hbig]
    have HA := hideP ha
    clear ha
    have S0 := hideP (fun w => lskip_at l 0 w hr (Nat.zero_le _))
    have sl := Lx.skip_le (l := l) (Nat.zero_le _)
    generalize Lx.skip l 0 = z at *
    go_enter Tryz.func47, Tryz.ntmps47
    go_wp2_with (go_at_call 72; refine (S0.out _).mono ?_; rintro e w1 ⟨rfl, rfl⟩)
    go_loopw [2, 5] (fun v b wr => ∃ (ys : List Lx.Tok) (k : Nat), b = .int .i64 (k : Int) ∧ k ≤ l.length ∧ ys.length ≤ k ∧ wr.ownsRow w.heap.size 119 4 v ys.length (ys.flatMap tokv) ∧ Below w.heap.size w wr ∧ Lx.ans l = Lx.prep ys (Lx.tks l k)) (fun _ b _ => l.length - (Lib.intOf b).toNat)
    case atStart => exact ⟨[], z, rfl, sl, Nat.zero_le _, ⟨rfl, .inl ⟨rfl, rfl⟩⟩, Below.refl _ _, by rw [HA.out, Lx.prep_nil]⟩
    case round =>
      obtain ⟨ys, k, rfl, hk, hys, hown, hbel, hans⟩ := hrel
      have HAN := hideP hans
      clear hans
      rcases Nat.lt_or_ge k l.length with hlt | hge
      · have hlt' : (k : Int) < (l.length : Int) := by omega
        have Lr := hL.below hbel
        have iN : (Tryz.prog.info? 119).map (·.size) = some 4 := by kernel_rfl
        by_cases hp : ∃ er, er ≠ 0 ∧ pres (Lx.one l k) = (pz, 0, er) ∧ Lx.tks l k = .error (k, er)
        · obtain ⟨er, her, hp, htk⟩ := hp
          have HE := hideP (show Lx.ans l = .error (k, er) by rw [HAN.out, htk]; rfl)
          have T := hideP (token_er hr hlt hp)
          have her' : (er != 0) = true := by simpa using her
          clear HAN htk hp her
          go_wp2_with (first
            | (go_at_call 73; refine (T.out _ Lr).mono ?_; rintro e w1 ⟨rfl, b1⟩)
            | (refine wpList_store_all rfl 119 _ _ rfl w1.heap.size 4 _ 119 (tokv pz) rfl rfl (heap_alloc_new w1 _) rfl rfl iN rfl ?_; intro w3 V3 b3))
          go_ret3
          exact tokAns_err HE.out (hbel.trans ((Below.then b1 (below_tok b3)).mono hbel.size))
        · obtain ⟨t, j, hp, htk, hkj, hj⟩ : ∃ t j, pres (Lx.one l k) = (t, j, 0) ∧ Lx.tks l k = Lx.cons t (Lx.tks l (Lx.skip l j)) ∧ k < j ∧ j ≤ l.length := by
            cases h1 : Lx.one l k with
            | none => exact absurd ⟨70, by decide, by rw [h1]; rfl, Lx.tks_bad hlt h1⟩ hp
            | some r =>
              obtain ⟨t, j⟩ := r
              by_cases h32 : 32 < t.text.length
              · exact absurd ⟨71, by decide, by rw [h1, pres, if_pos h32], Lx.tks_long hlt h1 h32⟩ hp
              · have hg := Lx.one_gt hlt h1
                exact ⟨t, j, by rw [pres, if_neg h32], Lx.tks_cons hlt h1 h32, hg.1, hg.2⟩
          have HE := hideP (show Lx.ans l = Lx.prep (ys ++ [t]) (Lx.tks l (Lx.skip l j)) by rw [HAN.out, htk, Lx.prep_cons])
          have T := hideP (token_yes hr hlt hp)
          have S := hideP (fun w => lskip_at l j w hr hj)
          have s1 := Lx.le_skip l j
          have s2 := Lx.skip_le hj
          generalize Lx.skip l j = j2 at *
          clear HAN htk hp
          have hfew : ys.length + [t].length ≤ 879609302220 := by simp only [List.length_cons, List.length_nil]; omega
          go_wp2_with (first
            | (go_at_call 73; refine (T.out _ Lr).mono ?_; rintro e w1 ⟨rfl, b1⟩)
            | (go_at_call 72; refine (S.out _).mono ?_; rintro e w5 ⟨rfl, rfl⟩)
            | (refine wpList_store_all rfl 119 _ _ rfl w1.heap.size 4 _ 119 (tokv t) rfl rfl (heap_alloc_new w1 _) rfl rfl iN rfl ?_; intro w3 V3 b3; have B3 := Below.then b1 (below_tok b3); have O3 := ownsRow_keep hown (Safe.below (ty := 119) (Below.then B3 (below_alloc w3 (.cells (tokv t).toArray 119)))); have R3 := row_new kT w3 (tokv t).toArray 119 t rfl; have N3 : w.heap.size ≤ (w3.alloc (.cells (tokv t).toArray 119)).heap.size := Nat.le_trans hbel.size (Nat.le_trans B3.size (below_alloc w3 _).size))
            | (refine wpList_load_all rfl 119 _ rfl w1.heap.size 4 119 (tokv t) _ rfl V3 rfl Tryz.underlying119 rfl iN ?_)
            | (refine wpList_build_one rfl 87 119 _ rfl (tokv t) _ 4 40 rfl rfl (by decide) (by decide) Tryz.underlying87 Tryz.iTok ?_)
            | (at_builtin; refine wpList_append_rec kT _ rfl _ _ 87 119 rfl _ 40 Tryz.underlying87 Tryz.iTok rfl (by decide) w.heap.size u2 ys [t] (some ⟨w3.heap.size, 0, none⟩) 1 1 rfl O3 rfl rfl R3 N3 hfew ?_; intro v4 w4 o4 g4))
          have B4 : Below w.heap.size w w4 := (hbel.trans ((Below.then B3 (below_alloc w3 _)).mono hbel.size)).trans (grown_belowT O3 g4 N3)
          refine ⟨⟨ys ++ [t], j2, rfl, s2, by simp only [List.length_append, List.length_cons, List.length_nil]; omega, o4, B4, HE.out⟩, ?_⟩
          simp only [Lib.intOf]; omega
      · have hge' : ¬ (k : Int) < (l.length : Int) := by omega
        have HE := hideP (show Lx.ans l = .ok ys by rw [HAN.out, Lx.tks_end hge]; simp [Lx.prep])
        go_wp2_with fail
        go_ret3
        exact tokAns_ok HE.out hown (by omega) hbel
end Go.Proofs.YtdehimbfcilhpaaGreatDoor

/-
  The program's Program.
-/
namespace Go.Proofs.YtdehimbfcilhpaaGreatDoor
open Go.RowKit Go.Lib Go.Shelf

theorem set_one {w : World} {a : Nat} {va : Value} {T : TypeId} (h : w.heap[a]? = some (.cells #[va] T)) (v : Value) : (w.setCell ⟨a, 0, none⟩ v).heap[a]? = some (.cells #[v] T) ∧ But a w (w.setCell ⟨a, 0, none⟩ v) :=
  ⟨heap_setCell_same w a 0 #[va] T v h, (But.refl a w).set 0 v⟩

set_option maxRecDepth 100000 in
theorem catch_idle (a b c : Nat) (w : World) :
    CallsD Tryz.prog 48 #[ptr a, ptr b, ptr c] .returning w fun e u' w' => e = .returned (.tuple #[]) ∧ u' = .returning ∧ w' = w := by
  refine callsD_of_wpS Tryz.func48 rfl fun c₀ cs hu => ?_
  apply wpS_seq
  apply wpS_region
  simp [wpOpsS, go_sem, recoverD, hu, Tryz.ntmps48, Exit.thenS]
  refine wpS_of_wp ?_
  have ht : (#[ptr a, ptr b, ptr c] ++ ((Array.replicate 11 undef).setIfInBounds 2 .nilIface).setIfInBounds 0 .nilIface : Array Value) = #[ptr a, ptr b, ptr c, .nilIface, undef, .nilIface, undef, undef, undef, undef, undef, undef, undef, undef] := rfl
  rw [ht]
  go_wp2_with fail
  cases c₀
  simp_all [bodyPostS, results, Tryz.results48]

theorem asFault (x1 x2 : Int) (w : World) : (Instr.typeAssert (.iface 94 (.agg #[.int .i64 x1, .int .i64 x2])) 20 94 false).run Tryz.prog w = .ok (.agg #[.int .i64 x1, .int .i64 x2]) w := by kernel_rfl

set_option maxRecDepth 100000 in
set_option maxHeartbeats 2000000 in
theorem catch_panicking (a b c B : Nat) (va vb vc : Value) (x : Nat × Int) (older : List PanicEntry) (w : World) (ha : w.heap[a]? = some (.cells #[va] 23)) (hb : w.heap[b]? = some (.cells #[vb] 3)) (hc : w.heap[c]? = some (.cells #[vc] 44)) (hab : B ≤ a) (hbb : B ≤ b) (hcb : B ≤ c) :
    CallsD Tryz.prog 48 #[ptr a, ptr b, ptr c] (.panicking ({ v := .iface 94 (.agg #[.int .i64 (x.1 : Int), .int .i64 x.2]), recovered := false } :: older)) w fun e u' w' =>
      e = .returned (.tuple #[]) ∧ u' = .panicking ({ v := .iface 94 (.agg #[.int .i64 (x.1 : Int), .int .i64 x.2]), recovered := true } :: older) ∧
      w'.heap[a]? = some (.cells #[.slice none 0 0] 23) ∧ w'.heap[b]? = some (.cells #[.int .i64 (x.1 : Int)] 3) ∧ w'.heap[c]? = some (.cells #[.int .i64 x.2] 44) ∧ Below B w w' := by
  have mixed : Tryz.prog.follows .mixedOrders = true := by kernel_rfl
  refine callsD_of_wpS Tryz.func48 rfl fun c₀ cs hu => ?_
  apply wpS_seq
  apply wpS_region
  simp [wpOpsS, go_sem, recoverD, hu, Tryz.ntmps48, Exit.thenS]
  refine wpS_of_wp ?_
  obtain ⟨x1, x2⟩ := x
  simp only
  have ht : ∀ v, (#[ptr a, ptr b, ptr c] ++ ((Array.replicate 11 undef).setIfInBounds 2 v).setIfInBounds 0 v : Array Value) = #[ptr a, ptr b, ptr c, v, undef, v, undef, undef, undef, undef, undef, undef, undef, undef] := fun _ => rfl
  rw [ht]
  have A0 := below_alloc w (.cells #[.int .i64 (x1 : Int), .int .i64 x2] 94)
  have TA := asFault (x1 : Int) x2
  have iF : (Tryz.prog.info? 94).map (·.size) = some 2 := by kernel_rfl
  have Z0 := heap_alloc_new w (.cells #[.int .i64 0, .int .i64 0] 94)
  go_wp2_with (first
    | (refine wpList_store_all rfl 94 _ _ rfl w.heap.size 2 _ 94 [.int .i64 (x1 : Int), .int .i64 x2] rfl rfl Z0 rfl rfl iF rfl ?_; intro w1 V1 b1; have B1 : Below w.heap.size w w1 := (below_alloc w _).trans (b1.lower (Nat.le_refl _) (below_alloc w _).size); have ha1 := below_heap B1 ha; have hb1 := below_heap B1 hb; have hc1 := below_heap B1 hc; have x0 : w1.cell? ⟨w.heap.size, 0, none⟩ = some (.int .i64 (x1 : Int)) := (by rw [heap_cell V1]; rfl); have y0 : w1.cell? ⟨w.heap.size, 1, none⟩ = some (.int .i64 x2) := (by rw [heap_cell V1]; rfl); have ca : w1.cell? ⟨a, 0, none⟩ = some va := (by rw [heap_cell ha1]; rfl); have cb : w1.cell? ⟨b, 0, none⟩ = some vb := (by rw [heap_cell hb1]; rfl); have cc : w1.cell? ⟨c, 0, none⟩ = some vc := (by rw [heap_cell hc1]; rfl); have za := heap_frozen ha1 0; have zb := heap_frozen hb1 0; have zc := heap_frozen hc1 0; have la := heap_lt ha; have lb := heap_lt hb; have lc := heap_lt hc))
  have na : ¬ w.heap.size = a := by omega
  have nb : ¬ w.heap.size = b := by omega
  have nc : ¬ w.heap.size = c := by omega
  have na' : ¬ a = w.heap.size := by omega
  have nb' : ¬ b = w.heap.size := by omega
  have nc' : ¬ c = w.heap.size := by omega
  have n1 : ¬ a = b := fun e => by subst e; rw [ha] at hb; cases hb
  have n2 : ¬ b = c := fun e => by subst e; rw [hb] at hc; cases hc
  have n3 : ¬ a = c := fun e => by subst e; rw [ha] at hc; cases hc
  have n1' : ¬ b = a := fun e => n1 e.symm
  have n2' : ¬ c = b := fun e => n2 e.symm
  have n3' : ¬ c = a := fun e => n3 e.symm
  go_region_held3 (fun W => W.cell? ⟨w.heap.size, 0, none⟩ = some (.int .i64 (x1 : Int)) ∧ W.cell? ⟨w.heap.size, 1, none⟩ = some (.int .i64 x2)) (simp [World.cell?_setCell_other, x0, y0]) (fail)
  go_wp2_with fail
  obtain ⟨q1, d1⟩ := set_one ha1 (.slice none 0 0)
  obtain ⟨q2, d2⟩ := set_one (d1.heap n1' hb1) (.int .i64 (x1 : Int))
  obtain ⟨q3, d3⟩ := set_one (d2.heap n2' (d1.heap n3' hc1)) (.int .i64 x2)
  have s0 : B ≤ w.heap.size := Nat.le_trans hab (Nat.le_of_lt la)
  have s1 := B1.size
  have E1 := (B1.mono s0).trans (d1.lower hab (by omega))
  have E2 := E1.trans (d2.lower hbb (Nat.le_trans s0 E1.size))
  have E3 := (E2.trans (d3.lower hcb (Nat.le_trans s0 E2.size))).drew
  exact ⟨rfl, _, rfl, _, results_none rfl _ _ _, rfl, rfl, d3.heap n3 (d2.heap n1 q1), d3.heap n2 q2, q3, E3⟩

theorem results_three {P : Program} {fn : Func} {p q r : Tmp} {t1 t2 t3 : TypeId} {tmps : Array Value} {w : World} {a b c : Nat} {va vb vc : Value} {T1 T2 T3 : TypeId} (h : fn.results = #[.cell p t1, .cell q t2, .cell r t3]) (hp : tmps.getD p undef = ptr a) (hq : tmps.getD q undef = ptr b) (hr : tmps.getD r undef = ptr c)
    (ha : w.heap[a]? = some (.cells #[va] T1)) (hb : w.heap[b]? = some (.cells #[vb] T2)) (hc : w.heap[c]? = some (.cells #[vc] T3)) (i1 : ∀ W v, W.cell? ⟨a, 0, none⟩ = some v → (loadVar t1 ⟨a, 0, none⟩).run P W = .ok v W) (i2 : ∀ W v, W.cell? ⟨b, 0, none⟩ = some v → (loadVar t2 ⟨b, 0, none⟩).run P W = .ok v W) (i3 : ∀ W v, W.cell? ⟨c, 0, none⟩ = some v → (loadVar t3 ⟨c, 0, none⟩).run P W = .ok v W) :
    (results fn tmps).run P w = .ok (.tuple #[va, vb, vc]) w := by
  have ca : w.cell? ⟨a, 0, none⟩ = some va := by rw [heap_cell ha]; rfl
  have cb : w.cell? ⟨b, 0, none⟩ = some vb := by rw [heap_cell hb]; rfl
  have cc : w.cell? ⟨c, 0, none⟩ = some vc := by rw [heap_cell hc]; rfl
  have j1 := i1 w va ca
  have j2 := i2 w vb cb
  have j3 := i3 w vc cc
  simp only [Array.getD_eq_getD_getElem?] at hp hq hr
  simp only [results, h]
  simp [asAddr, hp, hq, hr, j1, j2, j3]

theorem load_rules (a : Addr) (w : World) (v : Value) (h : w.cell? a = some v) : (loadVar 23 a).run Tryz.prog w = .ok v w := by simp [go_sem, h]
theorem load_int (a : Addr) (w : World) (v : Value) (h : w.cell? a = some v) : (loadVar 3 a).run Tryz.prog w = .ok v w := by simp [go_sem, h]
theorem load_errno (a : Addr) (w : World) (v : Value) (h : w.cell? a = some v) : (loadVar 44 a).run Tryz.prog w = .ok v w := by simp [go_sem, h]

/-- what Program answers -/
def ProgAns (l : List UInt8) (w : World) (e : Ending) (w' : World) : Prop :=
  (∃ u, e = .returned (.tuple #[u, .int .i64 (Ps.place (Ps.prog l) : Int), .int .i64 (Ps.err (Ps.prog l))]) ∧ RowsAt w' (Ps.rs (Ps.prog l)) u) ∧ Below w.heap.size w w'

set_option maxRecDepth 100000 in
set_option maxHeartbeats 4000000 in
theorem pprogram_at (l : List UInt8) (w : World) (hr : l.length ≤ 281474976710656) (hL : Laid w) :
    Calls Tryz.prog 26 #[str l] w (ProgAns l w) := by
  have hsz := str_size l
  have hmf : ∀ (fn : Fn) (first cap : Array Value) (w : World), (Instr.makeFunc fn first cap).run Tryz.prog w = .ok (.func fn first cap) w := fun _ _ _ _ => rfl
  have mixed : Tryz.prog.follows .mixedOrders = true := by kernel_rfl
  have B0 := Below.then (Below.then (below_alloc w (.cells #[.slice none 0 0] 23)) (below_alloc _ (.cells #[.int .i64 0] 3))) (below_alloc _ (.cells #[.int .i64 0] 44))
  have T := hideP (ltokens_at l _ hr (hL.below B0))
  go_enter_defers Tryz.func26, Tryz.ntmps26
  go_wp2_with fail
  refine T.out.mono ?_
  rintro e w1 ⟨⟨a1, c1, rfl, r1, _⟩, b1⟩
  have Ha : w1.heap[w.heap.size]? = some (.cells #[.slice none 0 0] 23) := below_heap b1 (below_heap (below_alloc _ _) (below_heap (below_alloc _ _) (heap_alloc_new w _)))
  have Hb : w1.heap[w.heap.size + 1]? = some (.cells #[.int .i64 0] 3) := below_heap b1 (below_heap (below_alloc _ _) (by have := heap_alloc_new (w.alloc (.cells #[.slice none 0 0] 23)) (.cells #[.int .i64 0] 3); simpa using this))
  have Hc : w1.heap[w.heap.size + 1 + 1]? = some (.cells #[.int .i64 0] 44) := below_heap b1 (by have := heap_alloc_new ((w.alloc (.cells #[.slice none 0 0] 23)).alloc (.cells #[.int .i64 0] 3)) (.cells #[.int .i64 0] 44); simpa using this)
  have B1 := Below.then B0 b1
  clear T b1 B0
  generalize hS : w.heap.size = S at *
  have HS := hideP hS
  have s1 : S ≤ w1.heap.size := by have := B1.size; omega
  clear hS
  generalize hpl : Lx.place (Lx.ans l) = pl at *
  generalize her : Lx.err (Lx.ans l) = er at *
  generalize htk : Lx.toks (Lx.ans l) = L at *
  have few := r1.row.few
  go_wp2_with (first
    | (refine wpList_store_cel rfl 3 _ _ rfl (S + 1) 0 1 3 (.int .i64 (pl : Int)) #[.int .i64 (pl : Int)] rfl rfl Hb rfl (by decide) (by kernel_rfl) rfl rfl ?_; intro w2 V2 b2)
    | (refine wpList_store_cel rfl 44 _ _ rfl (S + 1 + 1) 0 1 44 (.int .i64 er) #[.int .i64 er] rfl rfl (b2.heap (show S + 1 + 1 ≠ S + 1 by omega) Hc) rfl (by decide) (by kernel_rfl) rfl rfl ?_; intro w3 V3 b3; have c3 : w3.cell? ⟨S + 1 + 1, 0, none⟩ = some (.int .i64 er) := (by rw [heap_cell V3]; rfl)))
  all_goals have Ha3 := b3.heap (show S ≠ S + 1 + 1 by omega) (b2.heap (show S ≠ S + 1 by omega) Ha)
  all_goals have Hb3 := b3.heap (show S + 1 ≠ S + 1 + 1 by omega) V2
  all_goals have B2 := B1.trans (b2.lower (show S ≤ S + 1 by omega) s1)
  all_goals have s2 : S ≤ w2.heap.size := Nat.le_trans s1 b2.size
  all_goals have B3 := B2.trans (b3.lower (show S ≤ S + 1 + 1 by omega) s2)
  all_goals have s3 : S ≤ w3.heap.size := Nat.le_trans s2 b3.size
  · have ha3 : w3.cell? ⟨S, 0, none⟩ = some (.slice none 0 0) := by rw [heap_cell Ha3]; rfl
    have hb3 : w3.cell? ⟨S + 1, 0, none⟩ = some (.int .i64 (pl : Int)) := by rw [heap_cell Hb3]; rfl
    have za := heap_frozen Ha3 0
    have zb := heap_frozen Hb3 0
    have zc := heap_frozen V3 0
    have hans : Ps.prog l = .error (pl, er) := by
      unfold Ps.prog
      cases h : Lx.ans l with
      | ok L' => rw [h] at her; simp only [Lx.err] at her; subst her; simp_all
      | error x =>
        rw [h] at her hpl
        simp only [Lx.err, Lx.place] at her hpl
        obtain ⟨x1, x2⟩ := x
        simp only at her hpl
        subst her hpl; rfl
    have HA := hideP hans
    clear hans hpl her htk
    go_region_held3 (fun W => W.cell? ⟨S + 1, 0, none⟩ = some (.int .i64 (pl : Int)) ∧ W.cell? ⟨S + 1 + 1, 0, none⟩ = some (.int .i64 er)) (simp [World.cell?_setCell_other, World.cell?_setCell_same', hb3, c3]) (fail)
    go_wp2_with fail
    obtain ⟨q1, d1⟩ := set_one Ha3 (.slice none 0 0)
    obtain ⟨q2, d2⟩ := set_one (d1.heap (show S + 1 ≠ S by omega) Hb3) (.int .i64 (pl : Int))
    obtain ⟨q3, d3⟩ := set_one (d2.heap (show S + 1 + 1 ≠ S + 1 by omega) (d1.heap (show S + 1 + 1 ≠ S by omega) V3)) (.int .i64 er)
    have E1 := B3.trans (d1.lower (Nat.le_refl _) s3)
    have t1 := Nat.le_trans s3 d1.size
    have E2 := E1.trans (d2.lower (show S ≤ S + 1 by omega) t1)
    have t2 := Nat.le_trans t1 d2.size
    have E3 := (E2.trans (d3.lower (show S ≤ S + 1 + 1 by omega) t2)).drew
    refine ⟨_, results_three (fn := Tryz.f26) rfl rfl rfl rfl (d3.heap (show S ≠ S + 1 + 1 by omega) (d2.heap (show S ≠ S + 1 by omega) q1)) (d3.heap (show S + 1 ≠ S + 1 + 1 by omega) q2) q3 (fun _ _ => load_rules _ _ _) (fun _ _ => load_int _ _ _) (fun _ _ => load_errno _ _ _), ?_⟩
    rw [ProgAns, HA.out, HS.out]
    exact ⟨⟨_, rfl, RowsAt.nil _⟩, E3⟩
  · have hans : Ps.prog l = Ps.rules l.length 16 L := by
      unfold Ps.prog
      cases h : Lx.ans l with
      | ok L' => rw [h] at htk; simp only [Lx.toks] at htk; subst htk; rfl
      | error x =>
        rw [h] at her
        have := (Lx.ans_err h).2
        simp only [Lx.err] at her
        simp_all
    have HA := hideP hans
    clear hans hpl her htk
    have r3 := (r1.safe (Safe.but b2 Hb (by decide))).safe (Safe.but b3 (b2.heap (show S + 1 + 1 ≠ S + 1 by omega) Hc) (by decide))
    have A4 := below_alloc w3 (.cells #[.slice a1 L.length c1, .int .i64 (l.length : Int)] 92)
    have P4 : PAt _ w3.heap.size l.length L := ⟨a1, c1, heap_alloc_new w3 (.cells #[.slice a1 L.length c1, .int .i64 (l.length : Int)] 92), r3.safe (Safe.below A4)⟩
    refine (program_at w3.heap.size l.length L _ P4).mono ?_
    generalize hx : Ps.rules l.length 16 L = r
    rintro e w5 ⟨b5, hd⟩
    have Ha5 := b5.heap (show S ≠ w3.heap.size by have := heap_lt Ha3; omega) (below_heap A4 Ha3)
    have Hb5 := b5.heap (show S + 1 ≠ w3.heap.size by have := heap_lt Hb3; omega) (below_heap A4 Hb3)
    have Hc5 := b5.heap (show S + 1 + 1 ≠ w3.heap.size by have := heap_lt V3; omega) (below_heap A4 V3)
    have B5 := (B3.trans (A4.mono s3)).trans (b5.lower s3 (Nat.le_trans s3 A4.size))
    have s5 : S ≤ w5.heap.size := Nat.le_trans (Nat.le_trans s3 A4.size) b5.size
    rcases r with x | rs
    · obtain rfl := hd
      have HX := hideP hx; clear hx
      simp only [Pan]
      go_wp2_with fail
      refine leaves_cons (f := 48) (args := #[ptr S, ptr (S + 1), ptr (S + 1 + 1)]) (by simp) (by simp [go_sem]) ?_
      refine (catch_panicking S (S + 1) (S + 1 + 1) S _ _ _ x [] _ Ha5 Hb5 Hc5 (Nat.le_refl _) (by omega) (by omega)).mono ?_
      rintro e u' w6 ⟨rfl, rfl, Ha6, Hb6, Hc6, B6⟩
      have hp : Ps.prog l = .error x := HA.out.trans HX.out
      refine ⟨_, results_three (fn := Tryz.f26) rfl rfl rfl rfl Ha6 Hb6 Hc6 (fun _ _ => load_rules _ _ _) (fun _ _ => load_int _ _ _) (fun _ _ => load_errno _ _ _), ?_⟩
      rw [ProgAns, hp, HS.out]
      exact ⟨⟨_, rfl, RowsAt.nil _⟩, B5.trans B6⟩
    · obtain ⟨u, rfl, ⟨a5, c5, xs, rfl, hm, hrow, heach⟩⟩ := hd
      have hu : RowsAt w5 rs (.slice a5 xs.length c5) := ⟨a5, c5, xs, rfl, hm, hrow, heach⟩
      clear hm hrow heach
      have HX := hideP hx; clear hx
      go_wp2_with (first
        | (refine wpList_store_cel rfl 23 _ _ rfl S 0 1 23 (.slice a5 xs.length c5) #[.slice a5 xs.length c5] rfl rfl Ha5 rfl (by decide) (by kernel_rfl) rfl rfl ?_; intro w6 V6 b6)
        | (refine wpList_store_cel rfl 3 _ _ rfl (S + 1) 0 1 3 (.int .i64 0) #[.int .i64 0] rfl rfl (b6.heap (show S + 1 ≠ S by omega) Hb5) rfl (by decide) (by kernel_rfl) rfl rfl ?_; intro w7 V7 b7)
        | (refine wpList_store_cel rfl 44 _ _ rfl (S + 1 + 1) 0 1 44 (.int .i64 0) #[.int .i64 0] rfl rfl (b7.heap (show S + 1 + 1 ≠ S + 1 by omega) (b6.heap (show S + 1 + 1 ≠ S by omega) Hc5)) rfl (by decide) (by kernel_rfl) rfl rfl ?_; intro w8 V8 b8))
      have hu6 := hu.safe (Safe.but b6 Ha5 (by decide)) (Safe.but b6 Ha5 (by decide)) (Safe.but b6 Ha5 (by decide))
      have hb7 := b6.heap (show S + 1 ≠ S by omega) Hb5
      have hu7 := hu6.safe (Safe.but b7 hb7 (by decide)) (Safe.but b7 hb7 (by decide)) (Safe.but b7 hb7 (by decide))
      have hc8 := b7.heap (show S + 1 + 1 ≠ S + 1 by omega) (b6.heap (show S + 1 + 1 ≠ S by omega) Hc5)
      have hu8 := hu7.safe (Safe.but b8 hc8 (by decide)) (Safe.but b8 hc8 (by decide)) (Safe.but b8 hc8 (by decide))
      have E1 := B5.trans (b6.lower (Nat.le_refl _) s5)
      have t1 := Nat.le_trans s5 b6.size
      have E2 := E1.trans (b7.lower (show S ≤ S + 1 by omega) t1)
      have t2 := Nat.le_trans t1 b7.size
      have E3 := E2.trans (b8.lower (show S ≤ S + 1 + 1 by omega) t2)
      refine leaves_cons (f := 48) (args := #[ptr S, ptr (S + 1), ptr (S + 1 + 1)]) (by simp) (by simp [go_sem]) ?_
      refine (catch_idle S (S + 1) (S + 1 + 1) _).mono ?_
      rintro e u' w9 ⟨rfl, rfl, rfl⟩
      have hp : Ps.prog l = .ok rs := HA.out.trans HX.out
      refine ⟨_, results_three (fn := Tryz.f26) rfl rfl rfl rfl (b8.heap (show S ≠ S + 1 + 1 by omega) (b7.heap (show S ≠ S + 1 by omega) V6)) (b8.heap (show S + 1 ≠ S + 1 + 1 by omega) V7) V8 (fun _ _ => load_rules _ _ _) (fun _ _ => load_int _ _ _) (fun _ _ => load_errno _ _ _), ?_⟩
      rw [ProgAns, hp, HS.out]
      exact ⟨⟨_, rfl, hu8⟩, E3⟩
end Go.Proofs.YtdehimbfcilhpaaGreatDoor

/-
  What is known of rules that were parsed; what an error is not.
-/
namespace Go.Proofs.YtdehimbfcilhpaaGreatDoor
open Go.RowKit Go.Lib Go.Shelf

theorem RowsAt.none {w : World} {u : Value} (h : RowsAt w [] u) : ∃ a c, u = .slice a 0 c := by
  obtain ⟨a, c, xs, rfl, h1, _⟩ := h
  have : xs = [] := List.map_eq_nil_iff.1 h1
  subst this
  exact ⟨a, c, rfl⟩
theorem RowsAt.len {w : World} {l : List Ru} {u : Value} (h : RowsAt w l u) : ∃ a c, u = .slice a l.length c := by
  obtain ⟨a, c, xs, rfl, h1, _⟩ := h
  exact ⟨a, c, by rw [← h1, List.length_map]⟩
theorem prog_err_ne {l : List UInt8} {p : Nat} {e : Int} (h : Ps.prog l = .error (p, e)) : e ≠ 0 := by
  unfold Ps.prog at h
  cases ha : Lx.ans l with
  | error x =>
    rw [ha] at h
    obtain ⟨x1, x2⟩ := x
    cases h
    exact (Lx.ans_err ha).2
  | ok L =>
    rw [ha] at h
    have := (Ps.rules_told h).2
    simp only at this
    omega
end Go.Proofs.YtdehimbfcilhpaaGreatDoor

/-
  What Program answers, where the mathematics' answer is known.
-/
namespace Go.Proofs.YtdehimbfcilhpaaGreatDoor
open Go.RowKit Go.Lib Go.Shelf

theorem pprog_ok {l : List UInt8} {r : List Ru} (hp : Ps.prog l = .ok r) (w : World) (hr : l.length ≤ 281474976710656) (hL : Laid w) :
    Calls Tryz.prog 26 #[str l] w fun e w' => (∃ a c, e = .returned (.tuple #[.slice a r.length c, .int .i64 0, .int .i64 0]) ∧ RowsAt w' r (.slice a r.length c)) ∧ Below w.heap.size w w' := by
  refine (pprogram_at l w hr hL).mono ?_
  rintro e w' ⟨⟨u, rfl, hu⟩, hb⟩
  rw [hp] at hu ⊢
  obtain ⟨a, c, rfl⟩ := hu.len
  exact ⟨⟨a, c, rfl, hu⟩, hb⟩
theorem pprog_err {l : List UInt8} {p : Nat} {er : Int} (hp : Ps.prog l = .error (p, er)) (w : World) (hr : l.length ≤ 281474976710656) (hL : Laid w) :
    Calls Tryz.prog 26 #[str l] w fun e w' => (∃ a c, e = .returned (.tuple #[.slice a 0 c, .int .i64 (p : Int), .int .i64 er]) ∧ RowsAt w' [] (.slice a 0 c)) ∧ Below w.heap.size w w' := by
  refine (pprogram_at l w hr hL).mono ?_
  rintro e w' ⟨⟨u, rfl, hu⟩, hb⟩
  rw [hp] at hu ⊢
  obtain ⟨a, c, rfl⟩ := hu.none
  exact ⟨⟨a, c, rfl, hu⟩, hb⟩
theorem pprog_any (l : List UInt8) (w : World) (hr : l.length ≤ 281474976710656) (hL : Laid w) :
    Calls Tryz.prog 26 #[str l] w fun e w' => (∃ a c, e = .returned (.tuple #[.slice a (Ps.rs (Ps.prog l)).length c, .int .i64 (Ps.place (Ps.prog l) : Int), .int .i64 (Ps.err (Ps.prog l))]) ∧ RowsAt w' (Ps.rs (Ps.prog l)) (.slice a (Ps.rs (Ps.prog l)).length c)) ∧ Below w.heap.size w w' := by
  refine (pprogram_at l w hr hL).mono ?_
  rintro e w' ⟨⟨u, rfl, hu⟩, hb⟩
  obtain ⟨a, c, rfl⟩ := hu.len
  exact ⟨⟨a, c, rfl, hu⟩, hb⟩
theorem prog_ans {l : List UInt8} {r : List Ru} (h : Ps.prog l = .ok r) : ∃ L, Lx.ans l = .ok L := by
  unfold Ps.prog at h
  cases ha : Lx.ans l with
  | error x => rw [ha] at h; cases h
  | ok L => exact ⟨L, rfl⟩
end Go.Proofs.YtdehimbfcilhpaaGreatDoor

/-
  Rules that were parsed, of which nothing but their cells is known.
-/
namespace Go.Proofs.YtdehimbfcilhpaaGreatDoor
open Go.RowKit Go.Lib Go.Shelf

theorem RowsAt.weak {w : World} {l : List Ru} {u : Value} (h : RowsAt w l u) : ∃ a c xs, u = .slice a (List.length xs) c ∧ xs.map Rv.r = l ∧ Rws w a c xs := by
  obtain ⟨a, c, xs, h1, h2, h3, h4⟩ := h
  exact ⟨a, c, xs, h1, h2, h3.row, fun x hx => (h4 x hx).aw⟩
end Go.Proofs.YtdehimbfcilhpaaGreatDoor
