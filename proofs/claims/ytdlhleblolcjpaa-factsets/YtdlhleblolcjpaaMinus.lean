/-
  Minus, the program's and the reference's.
-/
import Derived.Test.YtdlhleblolcjpaaDel2
import Derived.Test.YtdlhleblolcjpaaHas
import Derived.Test.YtdlhleblolcjpaaRSorted
namespace Go.Proofs.Ytdlhleblolcjpaa
open Go.RowKit Go.Sort

theorem hasF_sortF (b : List F) (x : F) : hasF (sortF b) x = hasF b x := by
  rw [Bool.eq_iff_iff, hasF_iff, hasF_iff, mem_sortF]
theorem filter_map (zs us : List Fv) : (zs.filter (stays us)).map Fv.f = (zs.map Fv.f).filter fun x => !hasF (us.map Fv.f) x := by
  rw [List.filter_map]; rfl
theorem minusF_eq (a b : List F) : (sortF a).filter (fun x => !hasF (sortF b) x) = minusF a b := by
  unfold minusF
  congr 1
  funext x
  rw [hasF_sortF]

set_option maxHeartbeats 2000000 in
theorem minus_at (a a' : Option Addr) (c c' : Nat) (xs ys : List Fv) (w : World) (hx : Lies w a c xs) (hy : Lies w a' c' ys) (ax : ∀ x ∈ xs, Fv.At w x) (ay : ∀ y ∈ ys, Fv.At w y) :
    Calls Try.prog 26 #[.slice a xs.length c, .slice a' ys.length c'] w fun e w' => ∃ a2 c2 zs, e = .returned (.slice a2 zs.length c2) ∧ OwnF w' w.heap.size a2 c2 zs ∧ (∀ z ∈ zs, Fv.At w' z) ∧ zs.map Fv.f = minusF (xs.map Fv.f) (ys.map Fv.f) ∧ Below w.heap.size w w' := by
  go_enter Try.func26, Try.ntmps26
  go_wp2_with fail
  refine (ordered_at a' c' ys w hy ay).mono ?_
  rintro e w1 ⟨a1, c1, us, rfl, hO1, hin1, hf1, hb1⟩
  have Hf1 := hideP hf1; clear hf1
  go_wp2_with fail
  obtain ⟨w2, hw2⟩ : ∃ w2, w2 = w1.alloc (.cells #[.slice a1 us.length c1] 36) := ⟨_, rfl⟩
  have hb12 : Below w1.heap.size w1 w2 := by rw [hw2]; exact below_alloc _ _
  have hb02 := Below.then hb1 hb12
  have hcap : Cap w2 w1.heap.size a1 c1 us := by
    refine ⟨?_, hO1.lies.below hb12 (Nat.le_refl _), fun y h => (ay y (hin1 y h)).below hb02 (Nat.le_refl _), ?_⟩
    · rw [hw2, heap_cell (heap_alloc_new w1 _)]; rfl
    · rw [Hf1.out]; exact sortF_SS _
  have L2 : w1.heap.size < w2.heap.size := by rw [hw2]; simp
  rw [← hw2]
  clear hw2
  generalize w1.heap.size = Bx at *
  have hS := sorted_at a c xs w2 (hx.below hb02 (Nat.le_refl _)) (fun x h => (ax x h).below hb02 (Nat.le_refl _))
  refine hS.mono ?_
  rintro e w3 ⟨a3, c3, zs, rfl, hO3, hat3, hf3, hb3⟩
  have Hf3 := hideP hf3; clear hf3 hS
  have hb03 := Below.then hb02 hb3
  by_cases h0 : zs.length = 0
  · obtain rfl : zs = [] := List.eq_nil_of_length_eq_zero h0
    go_wp2_with fail
    refine (delete_none a3 c3 _ w3).mono ?_
    rintro e w4 ⟨rfl, rfl⟩
    go_wp2_with fail
    go_ret
    refine ⟨a3, c3, [], rfl, hO3.lower hb02.size, fun z h => by simp at h, ?_, hb03⟩
    rw [← minusF_eq, ← Hf3.out]; rfl
  · cases a3 with
    | none => exfalso; have := (hO3.void rfl).1; subst this; simp at h0
    | some ad =>
      obtain ⟨g, rfl, hg0, hg1, hrow⟩ := hO3.row ad rfl
      have hD := delete_at w2 w3 g c3 zs Bx a1 c1 us hcap hb3 hg0 hg1 hrow (fun z h => ⟨(hat3 z h).1, (hat3 z h).2.2.1 _ rfl⟩) hO3.room hO3.few
      have e1 := hideP (filter_map zs us)
      have e2 : Hid ((zs.filter (stays us)).map Fv.f = minusF (xs.map Fv.f) (ys.map Fv.f)) := by
        show _ = _
        rw [e1.out, Hf3.out, Hf1.out, minusF_eq]
      have e3 : ∀ z ∈ zs.filter (stays us), z ∈ zs := fun z h => (List.mem_filter.1 h).1
      have e4 : (zs.filter (stays us)).length ≤ zs.length := List.length_filter_le _ _
      generalize zs.filter (stays us) = L at *
      have E4 := hideP e4; clear e4 e1
      go_wp2_with fail
      refine hD.mono ?_
      rintro e w4 ⟨rfl, hrow4, hbut⟩
      go_wp2_with fail
      go_ret
      have hr := hO3.room; have hf := hO3.few; have e4 := E4.out
      refine ⟨some ⟨g, 0, none⟩, c3, L, rfl, ⟨by omega, hO3.most, by omega, (fun h => by cases h), fun ad ha => ?_⟩, fun z h => (hat3 z (e3 z h)).1.but ((hat3 z (e3 z h)).2.2.1 _ rfl) hbut, e2.out, hb03.trans (hbut.lower (Nat.le_trans hb02.size hg0) hb03.size)⟩
      cases ha
      exact ⟨g, rfl, Nat.le_trans hb02.size hg0, Nat.lt_of_lt_of_le hg1 hbut.size, hrow4⟩

/-- what is kept of the first k, in order -/
def foldM (l b : List F) (k : Nat) : List F := ((l.take k).filter fun x => !hasF b x).foldl ins []
theorem foldM_all (l b : List F) : foldM l b l.length = minusF l b := by
  unfold foldM
  rw [List.take_length]
  obtain ⟨h1, h2⟩ := foldl_ins (l.filter fun x => !hasF b x) [] List.Pairwise.nil
  refine h1.uniq (minusF_SS l b) fun x => ?_
  rw [h2, mem_minusF]
  simp [← hasF_iff b x]
theorem foldM_skip (l b : List F) (k : Nat) (h : k < l.length) (hb : hasF b l[k] = true) : foldM l b (k + 1) = foldM l b k := by
  unfold foldM
  rw [List.take_succ_eq_append_getElem h, List.filter_append]
  simp [hb]
theorem foldM_more (l b : List F) (k : Nat) (h : k < l.length) (hb : hasF b l[k] = false) : foldM l b (k + 1) = ins (foldM l b k) l[k] := by
  unfold foldM
  rw [List.take_succ_eq_append_getElem h, List.filter_append, List.foldl_append]
  simp [hb]

set_option maxHeartbeats 2000000 in
theorem refminus_at (a a' : Option Addr) (c c' : Nat) (xs ys : List Fv) (w : World) (hl : Lies w a c xs) (hy : Lies w a' c' ys) (hx : ∀ x ∈ xs, Fv.At w x) (ay : ∀ y ∈ ys, Fv.At w y) :
    Calls Try.prog 27 #[.slice a xs.length c, .slice a' ys.length c'] w fun e w' => ∃ a2 c2 zs, e = .returned (.slice a2 zs.length c2) ∧ OwnF w' w.heap.size a2 c2 zs ∧ (∀ z ∈ zs, z ∈ xs) ∧ zs.map Fv.f = minusF (xs.map Fv.f) (ys.map Fv.f) ∧ Below w.heap.size w w' := by
  have few := hl.few
  have hW := fun (a : Option Addr) (c : Nat) (us : List Fv) (x : Fv) (W : World) => with_at a c us x W w.heap.size
  have hH := fun (x : Fv) (W : World) (hW : Below w.heap.size w W) (h : Fv.At W x) => refhas_at a' c' ys x W (hy.below hW (Nat.le_refl _)) (fun y h => (ay y h).below hW (Nat.le_refl _)) h
  go_enter Try.func27, Try.ntmps27
  go_wp2_with fail
  go_loopw [5, 6] (fun v5 v6 wr => ∃ (k : Nat) (a2 : Option Addr) (c2 : Nat) (us : List Fv), v5 = .slice a2 us.length c2 ∧ v6 = .int .i64 (k : Int) ∧ k ≤ xs.length ∧ us.length ≤ k ∧ OwnF wr w.heap.size a2 c2 us ∧ (∀ y ∈ us, y ∈ xs) ∧ Hid (us.map Fv.f = foldM (xs.map Fv.f) (ys.map Fv.f) k) ∧ Below w.heap.size w wr) (fun _ v6 _ => xs.length - (intOf v6).toNat)
  case atStart => exact ⟨0, none, 0, [], rfl, rfl, by omega, Nat.le_refl _, OwnF.nil _ _, fun _ h => by simp at h, rfl, Below.refl _ _⟩
  case round =>
    obtain ⟨k, a2, c2, us, rfl, rfl, hk, hyl, hO, hin, hf, hb⟩ := hrel
    by_cases hlt : k < xs.length
    · have q2 : (k : Int) < (xs.length : Int) := by omega
      obtain ⟨P1, O1, rfl⟩ := hl.addr (Nat.lt_of_le_of_lt (Nat.zero_le _) hlt)
      obtain ⟨a1, a2', a3, a4⟩ := (hl.below hb (Nat.le_refl _)).get k hlt
      have hAk := (hx _ (List.getElem_mem hlt)).below hb (Nat.le_refl _)
      have hskip : Hid (hasF (ys.map Fv.f) (xs[k]'hlt).f = true → foldM (xs.map Fv.f) (ys.map Fv.f) (k + 1) = foldM (xs.map Fv.f) (ys.map Fv.f) k) := fun h => foldM_skip _ _ k (by simpa using hlt) (by rw [List.getElem_map]; exact h)
      have hmore : Hid (hasF (ys.map Fv.f) (xs[k]'hlt).f = false → foldM (xs.map Fv.f) (ys.map Fv.f) (k + 1) = ins (foldM (xs.map Fv.f) (ys.map Fv.f) k) (xs[k]'hlt).f) := fun h => by
        have := foldM_more (xs.map Fv.f) (ys.map Fv.f) k (by simpa using hlt) (by rw [List.getElem_map]; exact h)
        rw [this, List.getElem_map]
      have hmem : Hid ((xs[k]'hlt) ∈ xs) := List.getElem_mem hlt
      generalize (xs[k]'hlt) = p at *
      have hcall := hH p wr hb hAk
      have HW := hideP hW
      clear hH hW
      cases hr : hasF (ys.map Fv.f) p.f
      · simp only [hr] at hcall
        have hst := hideP (hmore.out hr)
        clear hr hskip hmore
        go_wp2_with fail
        refine hcall.mono ?_
        rintro e w2 ⟨rfl, hg2⟩
        have hb2 := hg2.below
        have d1 := (hb2.cell (p := ⟨P1, O1 + k * 4, none⟩) (cell_block a1)).trans a1
        have d2 := (hb2.cell (p := ⟨P1, O1 + k * 4 + 1, none⟩) (cell_block a2')).trans a2'
        have d3 := (hb2.cell (p := ⟨P1, O1 + k * 4 + 2, none⟩) (cell_block a3)).trans a3
        have d4 := (hb2.cell (p := ⟨P1, O1 + k * 4 + 3, none⟩) (cell_block a4)).trans a4
        have hb02 := Below.then hb hb2
        have hw := HW.out a2 c2 us p w2 (hO.below hb2) (fun y hy => (hx y (hin y hy)).below hb02 (Nat.le_refl _)) (hAk.below hb2 (Nat.le_refl _)) (by omega) hb02.size
        clear a1 a2' a3 a4 hcall
        go_wp2_with fail
        refine hw.mono ?_
        rintro e w3 ⟨a5, c5, zs, rfl, hO3, hz, hzf, hzl, hb3⟩
        have Hzf := hideP hzf; clear hzf
        go_wp2_with fail
        refine ⟨⟨k + 1, a5, c5, zs, rfl, by simp, by omega, by omega, hO3, fun z hz' => ?_, ?_, Below.then hb02 hb3⟩, by simp [intOf]; omega⟩
        · rcases hz z hz' with h | rfl
          · exact hin z h
          · exact hmem.out
        · show _ = _
          rw [Hzf.out, hf.out, hst.out]
      · simp only [hr] at hcall
        have hst := hideP (hskip.out hr)
        clear hr hskip hmore
        go_wp2_with fail
        refine hcall.mono ?_
        rintro e w2 ⟨rfl, hg2⟩
        clear a1 a2' a3 a4 hcall
        go_wp2_with fail
        refine ⟨⟨k + 1, a2, c2, us, rfl, by simp, by omega, by omega, hO.below hg2.below, hin, ?_, Below.then hb hg2.below⟩, by simp [intOf]; omega⟩
        show _ = _
        rw [hf.out, hst.out]
    · have q2 : ¬ (k : Int) < (xs.length : Int) := by omega
      have Hend : Hid (us.map Fv.f = minusF (xs.map Fv.f) (ys.map Fv.f)) := by
        show _ = _
        rw [hf.out, show k = (xs.map Fv.f).length by simp; omega]; exact foldM_all _ _
      go_wp2_with fail
      go_ret
      exact ⟨a2, c2, us, rfl, hO, hin, Hend.out, hb⟩

end Go.Proofs.Ytdlhleblolcjpaa
