/-
  The reference's Copy of facts, what it hands back as a row of its own.
-/
import Derived.Test.YtdehimbfcilhpaaGreatDoorQSorted
import Derived.Test.YtdehimbfcilhpaaGreatDoorQFr12
namespace Go.Proofs.YtdehimbfcilhpaaGreatDoor
open Go.RowKit Go.Lib Go.Shelf

theorem ownsK_empty5 (w : World) : (w.alloc (.cells #[] 56)).ownsRow w.heap.size 56 kK.k (.slice (some ⟨w.heap.size, 0, none⟩) 0 0) ([] : List K).length (([] : List K).flatMap kK.enc) :=
  ⟨rfl, .inr ⟨w.heap.size, 0, #[], rfl, Nat.le_refl _, heap_alloc_new w _, Nat.le_refl _, Nat.zero_le _, rfl, rfl⟩⟩

set_option maxRecDepth 100000 in
set_option maxHeartbeats 2000000 in
theorem rcopy5_at (a : Option Addr) (c : Nat) (xs : List Fv) (w : World) (h : Row fK w a c xs) (hx : ∀ x ∈ xs, Fv.At w x) (hf : xs.length ≤ 900000) (hk9 : ∀ x ∈ xs, x.ks.length ≤ 900000) :
    Calls Tryz.prog 13 #[.slice a xs.length c] w fun e w' => (∃ a' c' zs, e = .returned (.slice a' (List.length zs) c') ∧ OwF w' w.heap.size a' c' zs ∧ EachK w' zs ∧ zs.map Fv.f = xs.map Fv.f) ∧ Below w.heap.size w w' := by
  have iF : (Tryz.prog.info? 36).map (·.size) = some 4 := by kernel_rfl
  have iA : (Tryz.prog.info? 34).map (·.size) = some 1 := by kernel_rfl
  go_enter Tryz.func13, Tryz.ntmps13
  go_wp2_with fail
  go_loopw [3, 4, 5] (fun v3 v4 _ wr => ∃ (i : Nat) (zs : List Fv) (u : Option Addr) (cu : Nat), v3 = .slice u (List.length zs) cu ∧ v4 = .int .i64 (i : Int) ∧ i ≤ xs.length ∧ Hid (zs.length = i) ∧ OwnF w.heap.size wr (.slice u (List.length zs) cu) zs ∧ EachK wr zs ∧ Below w.heap.size w wr ∧ Hid (zs.map Fv.f = (xs.take i).map Fv.f)) (fun _ v4 _ _ => xs.length - (intOf v4).toNat)
  case atStart => exact ⟨0, [], none, 0, rfl, rfl, Nat.zero_le _, rfl, World.ownsRow_nil _ _ _ _, (fun _ h => by simp at h), Below.refl _ _, rfl⟩
  case round =>
    obtain ⟨i, zs, u, cu, rfl, rfl, hi, hk, OF, EK, B, HV⟩ := hrel
    by_cases hlt : i < xs.length
    · have q3 : (i : Int) < (xs.length : Int) := by omega
      obtain ⟨P1, O1, rfl⟩ := h.addr (Nat.lt_of_le_of_lt (Nat.zero_le _) hlt)
      have r1 : wr.rangeAt P1 (O1 + i * 4) (fv (xs[i]'hlt)) := (h.below B (Nat.le_refl _)).range i hlt
      have hA : Fv.At wr (xs[i]'hlt) := (hx _ (List.getElem_mem hlt)).below B (Nat.le_refl _)
      have hkl := hk9 _ (List.getElem_mem hlt)
      have hst : Hid ((xs.take (i + 1)).map Fv.f = (xs.take i).map Fv.f ++ [(xs[i]'hlt).f]) := by
        show _ = _
        rw [List.take_succ_eq_append_getElem hlt, List.map_append]; rfl
      generalize (xs[i]'hlt) = p at *
      have iQ : (Tryz.prog.info? 36).map (·.size) = some (fv p).length := iF
      have N4 := heap_alloc_new wr (.cells #[.string { data := #[] }, .string { data := #[] }, .string { data := #[] }, .slice none 0 0] 36)
      go_wp2_with (first | (refine wpList_load_mid rfl 36 _ rfl P1 (O1 + i * 4) rfl (fv p) _ r1 Tryz.underlying36 rfl iQ ?_) | (refine wpList_store_all rfl 36 _ _ rfl wr.heap.size 4 _ 36 (fv p) rfl rfl N4 rfl rfl iF rfl ?_; intro w4 H4 b4; have T4 := below_tok b4; have A5 := below_alloc w4 (.cells #[] 56); have o5 := ownsK_empty5 w4; have H5 := below_heap A5 H4; have c3 := (fv_cells H5).2.2.2; have RK : Row kK (w4.alloc (.cells #[] 56)) p.a p.cap p.ks := args_row ((hA.below T4 (Nat.le_refl _)).below A5 (Nat.le_refl _))) | (at_builtin; refine wpList_append_rec kK _ rfl _ _ 34 56 rfl _ 32 Tryz.underlying34 Tryz.iKk rfl (by decide) w4.heap.size (.slice (some ⟨w4.heap.size, 0, none⟩) 0 0) [] p.ks p.a p.ks.length p.cap rfl o5 rfl rfl RK A5.size (by simp only [List.length_nil]; omega) ?_; intro v6 w6 o6 g6; obtain ⟨u6, c6, rfl, R6, b6⟩ := own_row (D := kK) (xs := [] ++ p.ks) o6 (by simp only [List.nil_append]; omega); have H6 := Safe.grown (ty := 36) o5 g6 (by decide) _ _ H5; have T6 := T4.trans ((A5.trans (own_below o5 g6 A5.size)).mono T4.size)) | (refine wpList_store_cel rfl 34 _ _ rfl wr.heap.size 3 4 36 (.slice u6 p.ks.length c6) (fv ⟨p.at_, p.by_, p.pred, u6, c6, p.ks⟩).toArray rfl rfl H6 rfl (by omega) iA rfl rfl ?_; intro w7 H7 b7; have T7 : Below wr.heap.size wr w7 := T6.trans (b7.lower (Nat.le_refl _) T6.size); have A8 := below_alloc w7 (.cells (fv ⟨p.at_, p.by_, p.pred, u6, c6, p.ks⟩).toArray 36); have OF7 := ownsRow_keep OF (Safe.below T7 : Safe 36 _ _); have o8 := ownsRow_keep OF7 (Safe.below A8 : Safe 36 _ _); have R8 : Row fK (w7.alloc (.cells (fv ⟨p.at_, p.by_, p.pred, u6, c6, p.ks⟩).toArray 36)) (some ⟨w7.heap.size, 0, none⟩) 1 [⟨p.at_, p.by_, p.pred, u6, c6, p.ks⟩] := row_new fK w7 _ _ ⟨p.at_, p.by_, p.pred, u6, c6, p.ks⟩ rfl; have hb8 := Nat.le_trans (Nat.le_trans B.size T7.size) A8.size) | (refine wpList_load_all rfl 36 _ rfl wr.heap.size 4 36 (fv ⟨p.at_, p.by_, p.pred, u6, c6, p.ks⟩) _ rfl H7 rfl Tryz.underlying36 rfl iF ?_) | (refine wpList_build_one rfl 24 36 _ rfl (fv ⟨p.at_, p.by_, p.pred, u6, c6, p.ks⟩) _ 4 72 rfl rfl (by decide) (by decide) Tryz.underlying24 Tryz.iF4 ?_) | (at_builtin; refine wpList_append_rec fK _ rfl _ _ 24 36 rfl _ 72 Tryz.underlying24 Tryz.iFk rfl (by decide) w.heap.size (.slice u zs.length cu) zs [⟨p.at_, p.by_, p.pred, u6, c6, p.ks⟩] (some ⟨w7.heap.size, 0, none⟩) 1 1 rfl o8 rfl rfl R8 hb8 (by have := hk.out; simp only [List.length_cons, List.length_nil]; omega) ?_; intro v9 w9 o9 g9; obtain ⟨u9, c9, rfl, R9, _⟩ := own_row (D := fK) (xs := zs ++ [(⟨p.at_, p.by_, p.pred, u6, c6, p.ks⟩ : Fv)]) o9 (by have := hk.out; simp only [List.length_append, List.length_cons, List.length_nil]; omega)))
      have SK : Safe 56 w7 w9 := (Safe.below A8).trans (Safe.grown o8 g9 (by decide))
      have S67 : Safe 56 w6 w7 := Safe.but b7 H6 (by decide)
      refine ⟨⟨i + 1, zs ++ [(⟨p.at_, p.by_, p.pred, u6, c6, p.ks⟩ : Fv)], u9, c9, by rw [List.length_append]; rfl, by go_num, by omega, by show _ = _; rw [List.length_append, hk.out]; rfl, o9, fun z' hz' => ?_, (Below.then (Below.then B T7) A8).trans (own_below o8 g9 hb8), ?_⟩, by simp [intOf]; omega⟩
      · rcases List.mem_append.1 hz' with h1 | h1
        · exact ((EK z' h1).safe (Safe.below T7)).safe SK
        · rw [List.mem_singleton.1 h1]; exact (R6.safe S67).safe SK
      · show _ = _
        rw [List.map_append, HV.out, hst.out]; rfl
    · have q3 : ¬ (i : Int) < (xs.length : Int) := by omega
      have HV2 : Hid (zs.map Fv.f = xs.map Fv.f) := by
        show _ = _
        rw [HV.out, List.take_of_length_le (by omega)]
      obtain ⟨u', c', e', RF⟩ := own_facts OF (by have := hk.out; omega)
      cases e'
      clear HV OF
      go_wp2_with fail
      go_ret
      exact ⟨⟨u, cu, zs, rfl, RF, EK, HV2.out⟩, B⟩
end Go.Proofs.YtdehimbfcilhpaaGreatDoor
