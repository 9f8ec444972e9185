/-
  Minus, the program's and the reference's.
-/
import Derived.Test.YtdehimbfcilhpaaGreatDoorQDel2
import Derived.Test.YtdehimbfcilhpaaGreatDoorQHas
import Derived.Test.YtdehimbfcilhpaaGreatDoorQRSorted
namespace Go.Proofs.YtdehimbfcilhpaaGreatDoor
open Go.RowKit Go.Sort

theorem hasF_sortF (b : List F) (x : F) : hasF (sortF b) x = hasF b x := by
  rw [Bool.eq_iff_iff, hasF_iff, hasF_iff, mem_sortF]
theorem filter_map (zs us : List Fv) : (zs.filter (stays us)).map Fv.f = (zs.map Fv.f).filter fun x => !hasF (us.map Fv.f) x := by
  rw [List.filter_map]; rfl
theorem minusF_eq (a b : List F) : (sortF a).filter (fun x => !hasF (sortF b) x) = minusF a b := by
  unfold minusF
  congr 1
  funext x
  rw [hasF_sortF]

set_option maxHeartbeats 2000000 in
theorem minus_at (a a' : Option Addr) (c c' : Nat) (xs ys : List Fv) (w : World) (hx : Lies w a c xs) (hy : Lies w a' c' ys) (ax : ∀ x ∈ xs, Fv.At w x) (ay : ∀ y ∈ ys, Fv.At w y) :
    Calls Tryz.prog 22 #[.slice a xs.length c, .slice a' ys.length c'] w fun e w' => ∃ a2 c2 zs, e = .returned (.slice a2 zs.length c2) ∧ OwF w' w.heap.size a2 c2 zs ∧ (∀ z ∈ zs, Fv.At w' z) ∧ zs.map Fv.f = minusF (xs.map Fv.f) (ys.map Fv.f) ∧ Below w.heap.size w w' := by
  go_enter Tryz.func22, Tryz.ntmps22
  go_wp2_with fail
  refine (ordered_at a' c' ys w hy ay).mono ?_
  rintro e w1 ⟨a1, c1, us, rfl, hO1, hin1, hf1, hb1⟩
  have Hf1 := hideP hf1; clear hf1
  go_wp2_with fail
  obtain ⟨w2, hw2⟩ : ∃ w2, w2 = w1.alloc (.cells #[.slice a1 us.length c1] 24) := ⟨_, rfl⟩
  have hb12 : Below w1.heap.size w1 w2 := by rw [hw2]; exact below_alloc _ _
  have hb02 := Below.then hb1 hb12
  have hcap : Cap w2 w1.heap.size a1 c1 us := by
    refine ⟨?_, hO1.lies.below hb12 (Nat.le_refl _), fun y h => (ay y (hin1 y h)).below hb02 (Nat.le_refl _), ?_⟩
    · rw [hw2, heap_cell (heap_alloc_new w1 _)]; rfl
    · rw [Hf1.out]; exact sortF_SS _
  have L2 : w1.heap.size < w2.heap.size := by rw [hw2]; simp
  rw [← hw2]
  clear hw2
  generalize w1.heap.size = Bx at *
  have hS := sorted_at a c xs w2 (hx.below hb02 (Nat.le_refl _)) (fun x h => (ax x h).below hb02 (Nat.le_refl _))
  refine hS.mono ?_
  rintro e w3 ⟨a3, c3, zs, rfl, hO3, hat3, hf3, hb3⟩
  have Hf3 := hideP hf3; clear hf3 hS
  have hb03 := Below.then hb02 hb3
  by_cases h0 : zs.length = 0
  · obtain rfl : zs = [] := List.eq_nil_of_length_eq_zero h0
    go_wp2_with fail
    refine (delete_none a3 c3 _ w3).mono ?_
    rintro e w4 ⟨rfl, rfl⟩
    go_wp2_with fail
    go_ret
    refine ⟨a3, c3, [], rfl, hO3.lower hb02.size, fun z h => by simp at h, ?_, hb03⟩
    rw [← minusF_eq, ← Hf3.out]; rfl
  · cases a3 with
    | none => exfalso; have := (hO3.void rfl).1; subst this; simp at h0
    | some ad =>
      obtain ⟨g, rfl, hg0, hg1, hrow⟩ := hO3.row ad rfl
      have hD := delete_at w2 w3 g c3 zs Bx a1 c1 us hcap hb3 hg0 hg1 hrow (fun z h => ⟨(hat3 z h).1, (hat3 z h).2.2.1 _ rfl⟩) hO3.room hO3.few
      have e1 := hideP (filter_map zs us)
      have e2 : Hid ((zs.filter (stays us)).map Fv.f = minusF (xs.map Fv.f) (ys.map Fv.f)) := by
        show _ = _
        rw [e1.out, Hf3.out, Hf1.out, minusF_eq]
      have e3 : ∀ z ∈ zs.filter (stays us), z ∈ zs := fun z h => (List.mem_filter.1 h).1
      have e4 : (zs.filter (stays us)).length ≤ zs.length := List.length_filter_le _ _
      generalize zs.filter (stays us) = L at *
      have E4 := hideP e4; clear e4 e1
      go_wp2_with fail
      refine hD.mono ?_
      rintro e w4 ⟨rfl, hrow4, hbut⟩
      go_wp2_with fail
      go_ret
      have hr := hO3.room; have hf := hO3.few; have e4 := E4.out
      refine ⟨some ⟨g, 0, none⟩, c3, L, rfl, ⟨by omega, hO3.most, by omega, (fun h => by cases h), fun ad ha => ?_⟩, fun z h => (hat3 z (e3 z h)).1.but ((hat3 z (e3 z h)).2.2.1 _ rfl) hbut, e2.out, hb03.trans (hbut.lower (Nat.le_trans hb02.size hg0) hb03.size)⟩
      cases ha
      exact ⟨g, rfl, Nat.le_trans hb02.size hg0, Nat.lt_of_lt_of_le hg1 hbut.size, hrow4⟩

/-- what is kept of the first k, in order -/
def foldM (l b : List F) (k : Nat) : List F := ((l.take k).filter fun x => !hasF b x).foldl ins []
theorem foldM_all (l b : List F) : foldM l b l.length = minusF l b := by
  unfold foldM
  rw [List.take_length]
  obtain ⟨h1, h2⟩ := foldl_ins (l.filter fun x => !hasF b x) [] List.Pairwise.nil
  refine h1.uniq (minusF_SS l b) fun x => ?_
  rw [h2, mem_minusF]
  simp [← hasF_iff b x]
theorem foldM_skip (l b : List F) (k : Nat) (h : k < l.length) (hb : hasF b l[k] = true) : foldM l b (k + 1) = foldM l b k := by
  unfold foldM
  rw [List.take_succ_eq_append_getElem h, List.filter_append]
  simp [hb]
theorem foldM_more (l b : List F) (k : Nat) (h : k < l.length) (hb : hasF b l[k] = false) : foldM l b (k + 1) = ins (foldM l b k) l[k] := by
  unfold foldM
  rw [List.take_succ_eq_append_getElem h, List.filter_append, List.foldl_append]
  simp [hb]

end Go.Proofs.YtdehimbfcilhpaaGreatDoor
