/-
  The program's Tokens.
-/
import Derived.Deep.LoopGhost
import Derived.OwnWalk
import Derived.Test.YtcncmpgababfjaaDoorQNu
namespace Go.Proofs.YtcncmpgababfjaaDoor
open Go.RowKit Go.Lib Go.Shelf

theorem Tryd.iTok : (Tryd.prog.info? 68).map (fun i => (i.zero, i.size, i.bytes)) = some (some (.agg #[.int .i64 0, .string .empty, .int .i64 0, .int .i64 0]), 4, 40) := by kernel_rfl
theorem grown_belowT {w w' : World} {base : Nat} {e : TypeId} {k n : Nat} {v : Value} {xs : List Value} (h : w.ownsRow base e k v n xs) (g : w.grownBy w' v.ownBlock) (hb : base ≤ w.heap.size) : Below base w w' := by
  refine (Below.refl _ _).grown g hb fun j hj => ?_
  rcases h.2 with ⟨h0, _⟩ | ⟨gg, cap, cur, hv, hb, _⟩
  · rw [h0] at hj; cases hj
  · rw [hv] at hj; cases hj; exact hb

/-- what Tokens answers -/
def TokAns (l : List UInt8) (w : World) (e : Ending) (w' : World) : Prop :=
  (∃ a c, e = .returned (.tuple #[.slice a (Lx.toks (Lx.ans l)).length c, .int .i64 (Lx.place (Lx.ans l) : Int), .int .i64 (Lx.err (Lx.ans l))]) ∧ RowT kT 68 w' a c (Lx.toks (Lx.ans l)) ∧ ∀ ad, a = some ad → w.heap.size ≤ ad.block) ∧ Below w.heap.size w w'
theorem tokAns_err {l : List UInt8} {w w' : World} {i : Nat} {k : Int} (h : Lx.ans l = .error (i, k)) (hb : Below w.heap.size w w') : TokAns l w (.returned (.tuple #[.slice none 0 0, .int .i64 (i : Int), .int .i64 k])) w' := by
  refine ⟨⟨none, 0, ?_, ?_, fun _ h => by cases h⟩, hb⟩
  · rw [h]; rfl
  · rw [h]; exact RowT.nil _ _ _
theorem tokAns_ok {l : List UInt8} {w w' : World} {v : Value} {n : Nat} {ys : List Lx.Tok} (h : Lx.ans l = .ok ys) (ho : w'.ownsRow w.heap.size 68 4 v n (ys.flatMap tokv)) (hf : ys.length ≤ 4096) (hb : Below w.heap.size w w') : TokAns l w (.returned (.tuple #[v, .int .i64 0, .int .i64 0])) w' := by
  obtain ⟨a, c, hv, hr, ha⟩ := own_row (D := kT) ho (by omega)
  refine ⟨⟨a, c, ?_, ?_, ha⟩, hb⟩
  · rw [h, hv]; rfl
  · rw [h]; exact hr

theorem token_er {l : List UInt8} {k : Nat} (hr : l.length ≤ 281474976710656) (hi : k < l.length) {er : Int} (h : pres (Lx.one l k) = (pz, 0, er)) (w : World) (hL : Laid w) :
    Calls Tryd.prog 24 #[str l, .int .i64 (k : Int)] w fun e w' => e = .returned (.tuple #[.agg (tokv pz).toArray, .int .i64 0, .int .i64 er]) ∧ Below w.heap.size w w' := by
  have := token_at l k w hr hi hL
  rw [h] at this
  exact this
theorem token_yes {l : List UInt8} {k : Nat} (hr : l.length ≤ 281474976710656) (hi : k < l.length) {t : Lx.Tok} {j : Nat} (h : pres (Lx.one l k) = (t, j, 0)) (w : World) (hL : Laid w) :
    Calls Tryd.prog 24 #[str l, .int .i64 (k : Int)] w fun e w' => e = .returned (.tuple #[.agg (tokv t).toArray, .int .i64 (j : Int), .int .i64 0]) ∧ Below w.heap.size w w' := by
  have := token_at l k w hr hi hL
  rw [h] at this
  exact this

set_option maxRecDepth 100000 in
set_option maxHeartbeats 2000000 in
theorem ltokens_at (l : List UInt8) (w : World) (hr : l.length ≤ 281474976710656) (hL : Laid w) :
    Calls Tryd.prog 17 #[str l] w (TokAns l w) := by
  have hsz := str_size l
  by_cases hbig : 4096 < l.length
  · have hb' : (l.length : Int) > 4096 := by omega
    have ha : Lx.ans l = .error (0, 3) := by unfold Lx.ans; rw [if_pos hbig]
    have HA := hideP ha
    clear ha
    go_enter Tryd.func17, Tryd.ntmps17
    go_wp2_with fail
    go_ret3
    exact tokAns_err HA.out (Below.refl _ _)
  · have hb' : ¬ (l.length : Int) > 4096 := by omega
    have ha : Lx.ans l = Lx.tks l (Lx.skip l 0) := by unfold Lx.ans; rw [if_neg hbig]
    have HA := hideP ha
    clear ha
    have S0 := hideP (fun w => lskip_at l 0 w hr (Nat.zero_le _))
    have sl := Lx.skip_le (l := l) (Nat.zero_le _)
    generalize Lx.skip l 0 = z at *
    go_enter Tryd.func17, Tryd.ntmps17
    go_wp2_with (go_at_call 23; refine (S0.out _).mono ?_; rintro e w1 ⟨rfl, rfl⟩)
    go_loopw [2, 5] (fun v b wr => ∃ (ys : List Lx.Tok) (k : Nat), b = .int .i64 (k : Int) ∧ k ≤ l.length ∧ ys.length ≤ k ∧ wr.ownsRow w.heap.size 68 4 v ys.length (ys.flatMap tokv) ∧ Below w.heap.size w wr ∧ Lx.ans l = Lx.prep ys (Lx.tks l k)) (fun _ b _ => l.length - (Lib.intOf b).toNat)
    case atStart => exact ⟨[], z, rfl, sl, Nat.zero_le _, ⟨rfl, .inl ⟨rfl, rfl⟩⟩, Below.refl _ _, by rw [HA.out, Lx.prep_nil]⟩
    case round =>
      obtain ⟨ys, k, rfl, hk, hys, hown, hbel, hans⟩ := hrel
      have HAN := hideP hans
      clear hans
      rcases Nat.lt_or_ge k l.length with hlt | hge
      · have hlt' : (k : Int) < (l.length : Int) := by omega
        have Lr := hL.below hbel
        have iN : (Tryd.prog.info? 68).map (·.size) = some 4 := by kernel_rfl
        by_cases hp : ∃ er, er ≠ 0 ∧ pres (Lx.one l k) = (pz, 0, er) ∧ Lx.tks l k = .error (k, er)
        · obtain ⟨er, her, hp, htk⟩ := hp
          have HE := hideP (show Lx.ans l = .error (k, er) by rw [HAN.out, htk]; rfl)
          have T := hideP (token_er hr hlt hp)
          have her' : (er != 0) = true := by simpa using her
          clear HAN htk hp her
          go_wp2_with (first
            | (go_at_call 24; refine (T.out _ Lr).mono ?_; rintro e w1 ⟨rfl, b1⟩)
            | (refine wpList_store_all rfl 68 _ _ rfl w1.heap.size 4 _ 68 (tokv pz) rfl rfl (heap_alloc_new w1 _) rfl rfl iN rfl ?_; intro w3 V3 b3))
          go_ret3
          exact tokAns_err HE.out (hbel.trans ((Below.then b1 (below_tok b3)).mono hbel.size))
        · obtain ⟨t, j, hp, htk, hkj, hj⟩ : ∃ t j, pres (Lx.one l k) = (t, j, 0) ∧ Lx.tks l k = Lx.cons t (Lx.tks l (Lx.skip l j)) ∧ k < j ∧ j ≤ l.length := by
            cases h1 : Lx.one l k with
            | none => exact absurd ⟨70, by decide, by rw [h1]; rfl, Lx.tks_bad hlt h1⟩ hp
            | some r =>
              obtain ⟨t, j⟩ := r
              by_cases h32 : 32 < t.text.length
              · exact absurd ⟨71, by decide, by rw [h1, pres, if_pos h32], Lx.tks_long hlt h1 h32⟩ hp
              · have hg := Lx.one_gt hlt h1
                exact ⟨t, j, by rw [pres, if_neg h32], Lx.tks_cons hlt h1 h32, hg.1, hg.2⟩
          have HE := hideP (show Lx.ans l = Lx.prep (ys ++ [t]) (Lx.tks l (Lx.skip l j)) by rw [HAN.out, htk, Lx.prep_cons])
          have T := hideP (token_yes hr hlt hp)
          have S := hideP (fun w => lskip_at l j w hr hj)
          have s1 := Lx.le_skip l j
          have s2 := Lx.skip_le hj
          generalize Lx.skip l j = j2 at *
          clear HAN htk hp
          have hfew : ys.length + [t].length ≤ 879609302220 := by simp only [List.length_cons, List.length_nil]; omega
          go_wp2_with (first
            | (go_at_call 24; refine (T.out _ Lr).mono ?_; rintro e w1 ⟨rfl, b1⟩)
            | (go_at_call 23; refine (S.out _).mono ?_; rintro e w5 ⟨rfl, rfl⟩)
            | (refine wpList_store_all rfl 68 _ _ rfl w1.heap.size 4 _ 68 (tokv t) rfl rfl (heap_alloc_new w1 _) rfl rfl iN rfl ?_; intro w3 V3 b3; have B3 := Below.then b1 (below_tok b3); have O3 := ownsRow_keep hown (Safe.below (ty := 68) (Below.then B3 (below_alloc w3 (.cells (tokv t).toArray 68)))); have R3 := row_new kT w3 (tokv t).toArray 68 t rfl; have N3 : w.heap.size ≤ (w3.alloc (.cells (tokv t).toArray 68)).heap.size := Nat.le_trans hbel.size (Nat.le_trans B3.size (below_alloc w3 _).size))
            | (refine wpList_load_all rfl 68 _ rfl w1.heap.size 4 68 (tokv t) _ rfl V3 rfl Tryd.underlying68 rfl iN ?_)
            | (refine wpList_build_one rfl 54 68 _ rfl (tokv t) _ 4 40 rfl rfl (by decide) (by decide) Tryd.underlying54 Tryd.iTok ?_)
            | (at_builtin; refine wpList_append_rec kT _ rfl _ _ 54 68 rfl _ 40 Tryd.underlying54 Tryd.iTok rfl (by decide) w.heap.size u2 ys [t] (some ⟨w3.heap.size, 0, none⟩) 1 1 rfl O3 rfl rfl R3 N3 hfew ?_; intro v4 w4 o4 g4))
          have B4 : Below w.heap.size w w4 := (hbel.trans ((Below.then B3 (below_alloc w3 _)).mono hbel.size)).trans (grown_belowT O3 g4 N3)
          refine ⟨⟨ys ++ [t], j2, rfl, s2, by simp only [List.length_append, List.length_cons, List.length_nil]; omega, o4, B4, HE.out⟩, ?_⟩
          simp only [Lib.intOf]; omega
      · have hge' : ¬ (k : Int) < (l.length : Int) := by omega
        have HE := hideP (show Lx.ans l = .ok ys by rw [HAN.out, Lx.tks_end hge]; simp [Lx.prep])
        go_wp2_with fail
        go_ret3
        exact tokAns_ok HE.out hown (by omega) hbel
end Go.Proofs.YtcncmpgababfjaaDoor
