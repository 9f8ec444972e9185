/-
  The statement FactParts, walked.
-/
import Derived.Test.YtdlhleblolcjpaaMinus
import Derived.Test.YtdlhleblolcjpaaSame
namespace Go.Proofs.Ytdlhleblolcjpaa
open Go.RowKit Go.Sort

theorem ins_len (l : List F) (f : F) : (ins l f).length ≤ l.length + 1 := by
  induction l with
  | nil => simp [ins]
  | cons y ys ih =>
    simp only [ins]
    split
    · simp; omega
    · split <;> simp
theorem foldl_ins_len (l : List F) : ∀ m : List F, (l.foldl ins m).length ≤ m.length + l.length := by
  induction l with
  | nil => simp
  | cons a l ih =>
    intro m
    have h1 := ih (ins m a)
    have h2 := ins_len m a
    rw [List.foldl_cons, List.length_cons]
    omega
theorem sortF_len (l : List F) : (sortF l).length ≤ l.length := by
  have := foldl_ins_len l []
  unfold sortF
  simpa using this

/-- what is in one list alone and what is in both -/
theorem parts_len (A B : List F) : (minusF A B).length + (minusF A (minusF A B)).length ≤ A.length := by
  have e : minusF A (minusF A B) = (sortF A).filter fun x => hasF B x := by
    conv => lhs; rw [show minusF A (minusF A B) = (sortF A).filter fun x => !hasF (minusF A B) x by unfold minusF; rfl]
    refine List.filter_congr fun x hx => ?_
    rw [mem_sortF] at hx
    rw [Bool.eq_iff_iff, hasF_iff B x]
    constructor
    · intro h
      rcases Classical.em (x ∈ B) with h' | h'
      · exact h'
      · have := (hasF_iff (minusF A B) x).2 ((mem_minusF A B x).2 ⟨hx, h'⟩)
        rw [this] at h; cases h
    · intro h
      have : hasF (minusF A B) x = false := by
        rw [Bool.eq_false_iff]; intro h'
        exact ((mem_minusF A B x).1 ((hasF_iff _ x).1 h')).2 h
      rw [this]; rfl
  have e2 : minusF A B = (sortF A).filter fun x => !hasF B x := by unfold minusF; rfl
  rw [e, e2]
  have h1 : ∀ l : List F, (l.filter fun x => !hasF B x).length + (l.filter fun x => hasF B x).length = l.length := by
    intro l
    induction l with
    | nil => rfl
    | cons a l ih =>
      cases h : hasF B a <;> simp [h] <;> omega
  rw [h1]
  exact sortF_len A
theorem parts_sort (A B : List F) : sortF (minusF A B ++ minusF A (minusF A B)) = sortF A := by
  rw [sortF_eq_iff]
  intro x
  rw [List.mem_append, mem_minusF, mem_minusF, mem_minusF]
  constructor
  · rintro (h | h)
    · exact h.1
    · exact h.1
  · intro h
    rcases Classical.em (x ∈ B) with h' | h'
    · exact .inr ⟨h, fun h2 => h2.2 h'⟩
    · exact .inl ⟨h, h'⟩
theorem parts_alone (A B : List F) (x : F) (h : x ∈ minusF A B) : hasF B x = false ∧ hasF A x = true := by
  obtain ⟨h1, h2⟩ := (mem_minusF A B x).1 h
  exact ⟨by rw [Bool.eq_false_iff]; exact fun h3 => h2 ((hasF_iff B x).1 h3), (hasF_iff A x).2 h1⟩
theorem parts_both (A B : List F) (x : F) (h : x ∈ minusF A (minusF A B)) : hasF B x = true := by
  obtain ⟨h1, h2⟩ := (mem_minusF A (minusF A B) x).1 h
  rcases Classical.em (x ∈ B) with h' | h'
  · exact (hasF_iff B x).2 h'
  · exact absurd ((mem_minusF A B x).2 ⟨h1, h'⟩) h2

set_option maxHeartbeats 8000000 in
theorem factParts_walk (a : Option Addr) (c : Nat) (xs : List Fv) (b : Option Addr) (d : Nat) (ys : List Fv) (w : World) (hl : Lies w a c xs) (hx : ∀ x ∈ xs, Fv.At w x) (hm : Lies w b d ys) (hy : ∀ y ∈ ys, Fv.At w y) :
    Calls Try.prog 8 #[.slice a xs.length c, .slice b ys.length d] w fun e w' => e = .returned (.bool true) ∧ Below w.heap.size w w' := by
  have hV := fun (W : World) => live_at W
  go_enter Try.func8, Try.ntmps8
  go_wp2_with fail
  refine (weight_at a c xs 200 w hl hx).mono ?_
  rintro e w1 ⟨⟨r, rfl⟩, hg1⟩
  have hb01 := hg1.below
  by_cases hr : 200 < r
  · go_wp2_with fail
    refine (hV _).mono ?_
    rintro e w2 ⟨rfl, hb2⟩
    go_wp2_with fail
    go_ret
    exact ⟨rfl, Below.then hb01 hb2⟩
  · go_wp2_with fail
    refine (weight_at b d ys 200 w1 (hm.below hb01 (Nat.le_refl _)) (fun y h => (hy y h).below hb01 (Nat.le_refl _))).mono ?_
    rintro e w2 ⟨⟨r', rfl⟩, hg2⟩
    have hb02 := Below.then hb01 hg2.below
    by_cases hr' : 200 < r'
    · go_wp2_with fail
      refine (hV _).mono ?_
      rintro e w3 ⟨rfl, hb3⟩
      go_wp2_with fail
      go_ret
      exact ⟨rfl, Below.then hb02 hb3⟩
    · go_wp2_with fail
      refine (minus_at a b c d xs ys w2 (hl.below hb02 (Nat.le_refl _)) (hm.below hb02 (Nat.le_refl _)) (fun y h => (hx y h).below hb02 (Nat.le_refl _)) (fun y h => (hy y h).below hb02 (Nat.le_refl _))).mono ?_
      rintro e w3 ⟨a3, c3, us, rfl, hO3, hat3, hf3, hb3⟩
      have Hf3 := hideP hf3; clear hf3
      have hb03 := Below.then hb02 hb3
      go_wp2_with fail
      refine (minus_at a a3 c c3 xs us w3 (hl.below hb03 (Nat.le_refl _)) hO3.lies (fun y h => (hx y h).below hb03 (Nat.le_refl _)) hat3).mono ?_
      rintro e w4 ⟨a4, c4, vs, rfl, hO4, hat4, hf4, hb4⟩
      have Hf4 : Hid (vs.map Fv.f = minusF (xs.map Fv.f) (minusF (xs.map Fv.f) (ys.map Fv.f))) := by show _ = _; rw [hf4, Hf3.out]
      clear hf4
      have hb04 := Below.then hb03 hb4
      have hl4 := hl.below hb04 (Nat.le_refl _)
      have hm4 := hm.below hb04 (Nat.le_refl _)
      have hx4 := fun x h => (hx x h).below hb04 (Nat.le_refl _)
      have hy4 := fun x h => (hy x h).below hb04 (Nat.le_refl _)
      have hU := hO3.lies.below hb4 (Nat.le_refl _)
      have hat3' := fun z h => (hat3 z h).below hb4 (Nat.le_refl _)
      have hV4 := hO4.lies
      have fu := hU.few; have fv' := hV4.few
      have hsum : us.length + vs.length ≤ xs.length := by
        have := parts_len (xs.map Fv.f) (ys.map Fv.f)
        rw [← Hf3.out, ← show vs.map Fv.f = minusF (xs.map Fv.f) (us.map Fv.f) by rw [Hf4.out, Hf3.out]] at this
        simpa using this
      have hfx := hl.few
      clear hl hm hx hy hO3 hat3 hb01 hb02 hb03 hb3 hg1 hg2 hr hr' hb4
      go_wp2_with fail
      go_loopw [7] (fun v wr => ∃ i : Nat, v = .int .i64 (i : Int) ∧ i ≤ us.length ∧ Below w4.heap.size w4 wr) (fun v _ => us.length - (intOf v).toNat)
      case atStart => exact ⟨0, rfl, by omega, Below.refl _ _⟩
      case round =>
        obtain ⟨i, rfl, hi, hb⟩ := hrel
        by_cases hlt : i < us.length
        · have q1 : (i : Int) < (us.length : Int) := by omega
          obtain ⟨P, O, rfl⟩ := hU.addr (Nat.lt_of_le_of_lt (Nat.zero_le _) hlt)
          obtain ⟨e1, e2, e3, e4⟩ := (hU.below hb (Nat.le_refl _)).get i hlt
          have hA := hat3' _ (List.getElem_mem hlt)
          have hp := parts_alone (xs.map Fv.f) (ys.map Fv.f) (us[i]'hlt).f (by rw [← Hf3.out]; exact List.mem_map_of_mem (List.getElem_mem hlt))
          generalize (us[i]'hlt) = p at *
          have h1 := has_at b d ys p wr (hm4.below hb (Nat.le_refl _)) (fun y h => (hy4 y h).below hb (Nat.le_refl _)) (hA.below hb (Nat.le_refl _))
          rw [hp.1] at h1
          go_wp2_with fail
          refine h1.mono ?_
          rintro e w5 ⟨rfl, hb5⟩
          have d1 := (hb5.cell (p := ⟨P, O + i * 4, none⟩) (cell_block e1)).trans e1
          have d2 := (hb5.cell (p := ⟨P, O + i * 4 + 1, none⟩) (cell_block e2)).trans e2
          have d3 := (hb5.cell (p := ⟨P, O + i * 4 + 2, none⟩) (cell_block e3)).trans e3
          have d4 := (hb5.cell (p := ⟨P, O + i * 4 + 3, none⟩) (cell_block e4)).trans e4
          have hb' := Below.then hb hb5
          have h2 := has_at a c xs p w5 (hl4.below hb' (Nat.le_refl _)) (fun y h => (hx4 y h).below hb' (Nat.le_refl _)) (hA.below hb' (Nat.le_refl _))
          rw [hp.2] at h2
          clear e1 e2 e3 e4 h1
          go_wp2_with fail
          refine h2.mono ?_
          rintro e w6 ⟨rfl, hb6⟩
          clear d1 d2 d3 d4 h2
          go_wp2_with fail
          exact ⟨⟨i + 1, by simp, by omega, Below.then hb' hb6⟩, by simp [intOf]; omega⟩
        · have q1 : ¬ (i : Int) < (us.length : Int) := by omega
          have hU5 := hU.below hb (Nat.le_refl _)
          have hV5 := hV4.below hb (Nat.le_refl _)
          have hatU := fun z h => (hat3' z h).below hb (Nat.le_refl _)
          have hatV := fun z h => (hat4 z h).below hb (Nat.le_refl _)
          have hl5 := hl4.below hb (Nat.le_refl _)
          have hm5 := hm4.below hb (Nat.le_refl _)
          have hx5 := fun x h => (hx4 x h).below hb (Nat.le_refl _)
          have hy5 := fun x h => (hy4 x h).below hb (Nat.le_refl _)
          have B5 := Below.then hb04 hb
          clear hU hV4 hat3' hat4 hl4 hm4 hx4 hy4 hb hb04 hO4
          generalize wr = w5 at *
          go_wp2_with fail
          go_loopw [8] (fun v wr => ∃ j : Nat, v = .int .i64 (j : Int) ∧ j ≤ vs.length ∧ Below w5.heap.size w5 wr) (fun v _ => vs.length - (intOf v).toNat)
          case atStart => exact ⟨0, rfl, by omega, Below.refl _ _⟩
          case round =>
            obtain ⟨j, rfl, hj, hb⟩ := hrel
            by_cases hlt2 : j < vs.length
            · have q2 : (j : Int) < (vs.length : Int) := by omega
              obtain ⟨P, O, rfl⟩ := hV5.addr (Nat.lt_of_le_of_lt (Nat.zero_le _) hlt2)
              obtain ⟨e1, e2, e3, e4⟩ := (hV5.below hb (Nat.le_refl _)).get j hlt2
              have hA := hatV _ (List.getElem_mem hlt2)
              have hp := parts_both (xs.map Fv.f) (ys.map Fv.f) (vs[j]'hlt2).f (by rw [← Hf4.out]; exact List.mem_map_of_mem (List.getElem_mem hlt2))
              generalize (vs[j]'hlt2) = p at *
              have h1 := has_at b d ys p wr (hm5.below hb (Nat.le_refl _)) (fun y h => (hy5 y h).below hb (Nat.le_refl _)) (hA.below hb (Nat.le_refl _))
              rw [hp] at h1
              clear hp
              go_wp2_with fail
              refine h1.mono ?_
              rintro e w6 ⟨rfl, hb6⟩
              clear e1 e2 e3 e4 h1
              go_wp2_with fail
              exact ⟨⟨j + 1, by simp, by omega, Below.then hb hb6⟩, by simp [intOf]; omega⟩
            · have q2 : ¬ (j : Int) < (vs.length : Int) := by omega
              have hb6 := Below.then hb (below_alloc wr (.cells #[] 30))
              have hU6 := hU5.below hb6 (Nat.le_refl _)
              have hown6 := ownsRow_empty wr
              have hbs : wr.heap.size ≤ (wr.alloc (.cells #[] 30)).heap.size := (below_alloc _ _).size
              go_wp2_with (at_builtin; refine wpList_append_fs _ rfl _ _ rfl wr.heap.size (.slice (some ⟨wr.heap.size, 0, none⟩) 0 0) [] us a3 c3 rfl hown6 rfl hU6 hbs (by simp; omega) ?ap)
              case ap =>
                intro v7 w7 ho7 hg7
                have B7 : Below wr.heap.size wr w7 := (below_alloc wr _).trans ((Below.refl _ _).grown hg7 hbs (fun k hk => by cases hk; exact Nat.le_refl _))
                have B57 := Below.then hb B7
                have hV7 := hV5.below B57 (Nat.le_refl _)
                have ho7' : w7.ownsRow wr.heap.size 30 4 v7 us.length (fcells us) := by simpa using ho7
                clear hU6 hown6 hg7 ho7
                go_wp2_with (at_builtin; refine wpList_append_fs _ rfl _ _ rfl wr.heap.size v7 us vs a4 c4 rfl ho7' rfl hV7 B7.size (by omega) ?ap2)
                case ap2 =>
                  intro v8 w8 ho8 hg8
                  have B8 : Below wr.heap.size wr w8 := B7.trans ((Below.refl _ _).grown hg8 B7.size (fun k hk => by
                    rcases ho7'.2 with ⟨h0, _⟩ | ⟨g', c', cur, hv, hgg, _⟩
                    · rw [h0] at hk; cases hk
                    · rw [hv] at hk; cases hk; exact hgg))
                  have ho8' : w8.ownsRow wr.heap.size 30 4 v8 (us ++ vs).length (fcells (us ++ vs)) := by simpa using ho8
                  have hlen : (us ++ vs).length ≤ 1954687338211 := by rw [List.length_append]; omega
                  obtain ⟨a8, c8, rfl, hO8⟩ := own_facts ho8' hlen
                  have B58 := Below.then hb B8
                  have hS := same_at a8 a c8 c (us ++ vs) xs w8 hO8.lies (hl5.below B58 (Nat.le_refl _)) (fun z h => by
                    rcases List.mem_append.1 h with h | h
                    · exact (hatU z h).below B58 (Nat.le_refl _)
                    · exact (hatV z h).below B58 (Nat.le_refl _)) (fun z h => (hx5 z h).below B58 (Nat.le_refl _))
                  rw [List.map_append, Hf3.out, Hf4.out, parts_sort, likeB_self] at hS
                  rw [List.length_append] at hS
                  clear ho8 ho8' hg8 ho7'
                  go_wp2_with fail
                  refine hS.mono ?_
                  rintro e w9 ⟨rfl, hb9⟩
                  go_wp2_with fail
                  refine (hV _).mono ?_
                  rintro e w10 ⟨rfl, hb10⟩
                  go_wp2_with fail
                  go_ret
                  exact ⟨rfl, Below.then B5 (Below.then (Below.then B58 hb9) hb10)⟩

end Go.Proofs.Ytdlhleblolcjpaa
