/-
  The reference's Sorted.
-/
import Derived.Test.YtdlhleblolcjpaaWith
namespace Go.Proofs.Ytdlhleblolcjpaa
open Go.RowKit Go.Sort

theorem sortF_take (l : List F) (k : Nat) (h : k < l.length) : (l.take (k + 1)).foldl ins [] = ins ((l.take k).foldl ins []) l[k] := by
  rw [List.take_succ_eq_append_getElem h, List.foldl_append]; rfl
theorem sortF_all (l : List F) : (l.take l.length).foldl ins [] = sortF l := by rw [List.take_length]; unfold sortF; rfl

set_option maxHeartbeats 2000000 in
theorem refsorted_at (a : Option Addr) (cap : Nat) (xs : List Fv) (w : World) (hl : Lies w a cap xs) (hx : ∀ x ∈ xs, Fv.At w x) : Calls Try.prog 22 #[.slice a xs.length cap] w
    fun e w' => ∃ a' c' zs, e = .returned (.slice a' zs.length c') ∧ OwnF w' w.heap.size a' c' zs ∧ (∀ z ∈ zs, z ∈ xs) ∧ zs.map Fv.f = sortF (xs.map Fv.f) ∧ Below w.heap.size w w' := by
  have few := hl.few
  have hW := fun (a : Option Addr) (c : Nat) (ys : List Fv) (x : Fv) (W : World) => with_at a c ys x W w.heap.size
  go_enter Try.func22, Try.ntmps22
  go_wp2_with fail
  go_loopw [3, 4] (fun v3 v4 wr => ∃ (k : Nat) (a' : Option Addr) (c' : Nat) (ys : List Fv), v3 = .slice a' ys.length c' ∧ v4 = .int .i64 (k : Int) ∧ k ≤ xs.length ∧ ys.length ≤ k ∧ OwnF wr w.heap.size a' c' ys ∧ (∀ y ∈ ys, y ∈ xs) ∧ Hid (ys.map Fv.f = ((xs.map Fv.f).take k).foldl ins []) ∧ Below w.heap.size w wr) (fun _ v4 _ => xs.length - (intOf v4).toNat)
  case atStart => exact ⟨0, none, 0, [], rfl, rfl, by omega, Nat.le_refl _, OwnF.nil _ _, fun _ h => by simp at h, rfl, Below.refl _ _⟩
  case round =>
    obtain ⟨k, a', c', ys, rfl, rfl, hk, hyl, hO, hin, hf, hb⟩ := hrel
    by_cases hlt : k < xs.length
    · have q2 : (k : Int) < (xs.length : Int) := by omega
      obtain ⟨P1, O1, rfl⟩ := hl.addr (Nat.lt_of_le_of_lt (Nat.zero_le _) hlt)
      obtain ⟨a1, a2, a3, a4⟩ := (hl.below hb (Nat.le_refl _)).get k hlt
      have hcall := hW a' c' ys (xs[k]'hlt) wr hO (fun y hy => (hx y (hin y hy)).below hb (Nat.le_refl _)) ((hx _ (List.getElem_mem hlt)).below hb (Nat.le_refl _)) (by omega) hb.size
      have hst : Hid (((xs.map Fv.f).take (k + 1)).foldl ins [] = ins (((xs.map Fv.f).take k).foldl ins []) (xs[k]'hlt).f) := by
        show _ = _
        rw [sortF_take _ k (by simpa using hlt), List.getElem_map]
      have hmem : Hid ((xs[k]'hlt) ∈ xs) := List.getElem_mem hlt
      generalize (xs[k]'hlt) = p at *
      go_wp2_with fail
      refine hcall.mono ?_
      rintro e w2 ⟨a2', c2', zs, rfl, hO2, hz, hzf, hzl, hb2⟩
      have Hzf := hideP hzf; clear hzf
      go_wp2_with fail
      refine ⟨⟨k + 1, a2', c2', zs, rfl, by simp, by omega, by omega, hO2, fun z hz' => ?_, ?_, Below.then hb hb2⟩, by simp [intOf]; omega⟩
      · rcases hz z hz' with h | rfl
        · exact hin z h
        · exact hmem.out
      · show _ = _
        rw [Hzf.out, hf.out, hst.out]
    · have q2 : ¬ (k : Int) < (xs.length : Int) := by omega
      have Hend : Hid (ys.map Fv.f = sortF (xs.map Fv.f)) := by
        show _ = _
        rw [hf.out, show k = (xs.map Fv.f).length by simp; omega]; exact sortF_all _
      go_wp2_with fail
      go_ret
      exact ⟨a', c', ys, rfl, hO, hin, Hend.out, hb⟩

end Go.Proofs.Ytdlhleblolcjpaa
