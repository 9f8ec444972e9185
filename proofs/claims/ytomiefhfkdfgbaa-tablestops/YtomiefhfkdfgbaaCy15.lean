/-
  The reference's Copy of facts: rows and Args of its own.
-/
import Derived.Test.YtomiefhfkdfgbaaOr15
namespace Go.Proofs.Ytomiefhfkdfgbaa
open Go.RowKit Go.Shelf Go.Sort

/-- facts whose Args lie from base on -/
def EachN15 (base : Nat) (w : World) (zs : List Fv) : Prop := ∀ z ∈ zs, RowT kK 50 w z.a z.cap z.ks ∧ ∀ ad, z.a = some ad → base ≤ ad.block
theorem EachN15.safe {base : Nat} {w w' : World} {zs : List Fv} (h : EachN15 base w zs) (s : Safe 50 w w') : EachN15 base w' zs := fun z hz => ⟨(h z hz).1.safe s, (h z hz).2⟩
theorem fv_cells {w : World} {b : Nat} {x : Fv} (H : w.heap[b]? = some (.cells (fv x).toArray 34)) :
    w.cell? ⟨b, 0, none⟩ = some (str x.at_) ∧ w.cell? ⟨b, 1, none⟩ = some (str x.by_) ∧ w.cell? ⟨b, 2, none⟩ = some (str x.pred) ∧ w.cell? ⟨b, 3, none⟩ = some (.slice x.a x.ks.length x.cap) := by
  refine ⟨?_, ?_, ?_, ?_⟩ <;> (rw [heap_cell H]; rfl)

set_option maxRecDepth 100000 in
set_option maxHeartbeats 2000000 in
theorem rcopy15_at (a : Option Addr) (c : Nat) (xs : List Fv) (w : World) (h : Row fK w a c xs) (hx : ∀ x ∈ xs, Fv.At w x) (hf : xs.length ≤ 900000) (hk9 : ∀ x ∈ xs, x.ks.length ≤ 900000) :
    Calls Try.prog 30 #[.slice a xs.length c] w fun e w' => (∃ a' c' zs, e = .returned (.slice a' (List.length zs) c') ∧ RowT fK 34 w' a' c' zs ∧ (∀ ad, a' = some ad → w.heap.size ≤ ad.block ∧ ad.off = 0 ∧ ad.spot = none) ∧ EachN15 w.heap.size w' zs ∧ zs.map Fv.f = xs.map Fv.f) ∧ Below w.heap.size w w' := by
  have iF : (Try.prog.info? 34).map (·.size) = some 4 := by kernel_rfl
  have iA : (Try.prog.info? 32).map (·.size) = some 1 := by kernel_rfl
  go_enter Try.func30, Try.ntmps30
  go_wp2_with fail
  go_loopw [3, 4, 5] (fun v3 v4 _ wr => ∃ (i : Nat) (zs : List Fv) (u : Option Addr) (cu : Nat), v3 = .slice u (List.length zs) cu ∧ v4 = .int .i64 (i : Int) ∧ i ≤ xs.length ∧ Hid (zs.length = i) ∧ wr.ownsRow w.heap.size 34 fK.k (.slice u (List.length zs) cu) zs.length (zs.flatMap fK.enc) ∧ EachN15 w.heap.size wr zs ∧ Below w.heap.size w wr ∧ Hid (zs.map Fv.f = (xs.take i).map Fv.f)) (fun _ v4 _ _ => xs.length - (intOf v4).toNat)
  case atStart => exact ⟨0, [], none, 0, rfl, rfl, Nat.zero_le _, rfl, World.ownsRow_nil _ _ _ _, (fun _ h => by simp at h), Below.refl _ _, rfl⟩
  case round =>
    obtain ⟨i, zs, u, cu, rfl, rfl, hi, hk, OF, EK, B, HV⟩ := hrel
    by_cases hlt : i < xs.length
    · have q3 : (i : Int) < (xs.length : Int) := by omega
      obtain ⟨P1, O1, rfl⟩ := h.addr (Nat.lt_of_le_of_lt (Nat.zero_le _) hlt)
      have r1 : wr.rangeAt P1 (O1 + i * 4) (fv (xs[i]'hlt)) := (h.below B (Nat.le_refl _)).range i hlt
      have hA : Fv.At wr (xs[i]'hlt) := (hx _ (List.getElem_mem hlt)).below B (Nat.le_refl _)
      have hkl := hk9 _ (List.getElem_mem hlt)
      have hst : Hid ((xs.take (i + 1)).map Fv.f = (xs.take i).map Fv.f ++ [(xs[i]'hlt).f]) := by
        show _ = _
        rw [List.take_succ_eq_append_getElem hlt, List.map_append]; rfl
      generalize (xs[i]'hlt) = p at *
      have iQ : (Try.prog.info? 34).map (·.size) = some (fv p).length := iF
      have N4 := heap_alloc_new wr (.cells #[.string { data := #[] }, .string { data := #[] }, .string { data := #[] }, .slice none 0 0] 34)
      go_wp2_with (first | (refine wpList_load_mid rfl 34 _ rfl P1 (O1 + i * 4) rfl (fv p) _ r1 Try.underlying34 rfl iQ ?_) | (refine wpList_store_all rfl 34 _ _ rfl wr.heap.size 4 _ 34 (fv p) rfl rfl N4 rfl rfl iF rfl ?_; intro w4 H4 b4; have T4 := below_tok b4; have A5 := below_alloc w4 (.cells #[] 50); have o5 := ownsK_none w4; have H5 := below_heap A5 H4; have c3 := (fv_cells H5).2.2.2; have RK : Row kK (w4.alloc (.cells #[] 50)) p.a p.cap p.ks := args_row ((hA.below T4 (Nat.le_refl _)).below A5 (Nat.le_refl _))) | (at_builtin; refine wpList_append_rec kK _ rfl _ _ 32 50 rfl _ 32 Try.underlying32 Try.infoK rfl (by decide) w4.heap.size (.slice (some ⟨w4.heap.size, 0, none⟩) 0 0) [] p.ks p.a p.ks.length p.cap rfl o5 rfl rfl RK A5.size (by simp only [List.length_nil]; omega) ?_; intro v6 w6 o6 g6; obtain ⟨u6, c6, rfl, R6, b6⟩ := own_row (D := kK) (xs := [] ++ p.ks) o6 (by simp only [List.nil_append]; omega); have H6 := Safe.grown (ty := 34) o5 g6 (by decide) _ _ H5; have T6 := T4.trans ((A5.trans (own_below o5 g6 A5.size)).mono T4.size)) | (refine wpList_store_cel rfl 32 _ _ rfl wr.heap.size 3 4 34 (.slice u6 p.ks.length c6) (fv ⟨p.at_, p.by_, p.pred, u6, c6, p.ks⟩).toArray rfl rfl H6 rfl (by omega) iA rfl rfl ?_; intro w7 H7 b7; have T7 : Below wr.heap.size wr w7 := T6.trans (b7.lower (Nat.le_refl _) T6.size); have A8 := below_alloc w7 (.cells (fv ⟨p.at_, p.by_, p.pred, u6, c6, p.ks⟩).toArray 34); have OF7 := ownsRow_keep OF (Safe.below T7 : Safe 34 _ _); have o8 := ownsRow_keep OF7 (Safe.below A8 : Safe 34 _ _); have R8 : Row fK (w7.alloc (.cells (fv ⟨p.at_, p.by_, p.pred, u6, c6, p.ks⟩).toArray 34)) (some ⟨w7.heap.size, 0, none⟩) 1 [⟨p.at_, p.by_, p.pred, u6, c6, p.ks⟩] := row_new fK w7 _ _ ⟨p.at_, p.by_, p.pred, u6, c6, p.ks⟩ rfl; have hb8 := Nat.le_trans (Nat.le_trans B.size T7.size) A8.size) | (refine wpList_load_all rfl 34 _ rfl wr.heap.size 4 34 (fv ⟨p.at_, p.by_, p.pred, u6, c6, p.ks⟩) _ rfl H7 rfl Try.underlying34 rfl iF ?_) | (refine wpList_build_one rfl 41 34 _ rfl (fv ⟨p.at_, p.by_, p.pred, u6, c6, p.ks⟩) _ 4 72 rfl rfl (by decide) (by decide) Try.underlying41 Try.infoF ?_) | (at_builtin; refine wpList_append_rec fK _ rfl _ _ 41 34 rfl _ 72 Try.underlying41 Try.iFk15 rfl (by decide) w.heap.size (.slice u zs.length cu) zs [⟨p.at_, p.by_, p.pred, u6, c6, p.ks⟩] (some ⟨w7.heap.size, 0, none⟩) 1 1 rfl o8 rfl rfl R8 hb8 (by have := hk.out; simp only [List.length_cons, List.length_nil]; omega) ?_; intro v9 w9 o9 g9; obtain ⟨u9, c9, rfl, R9, _⟩ := own_row (D := fK) (xs := zs ++ [(⟨p.at_, p.by_, p.pred, u6, c6, p.ks⟩ : Fv)]) o9 (by have := hk.out; simp only [List.length_append, List.length_cons, List.length_nil]; omega)))
      have SK : Safe 50 w7 w9 := (Safe.below A8).trans (Safe.grown o8 g9 (by decide))
      have S67 : Safe 50 w6 w7 := Safe.but b7 H6 (by decide)
      refine ⟨⟨i + 1, zs ++ [(⟨p.at_, p.by_, p.pred, u6, c6, p.ks⟩ : Fv)], u9, c9, by rw [List.length_append]; rfl, by go_num, by omega, by show _ = _; rw [List.length_append, hk.out]; rfl, o9, fun z' hz' => ?_, (Below.then (Below.then B T7) A8).trans (own_below o8 g9 hb8), ?_⟩, by simp [intOf]; omega⟩
      · rcases List.mem_append.1 hz' with h1 | h1
        · exact ⟨((EK z' h1).1.safe (Safe.below T7)).safe SK, (EK z' h1).2⟩
        · rw [List.mem_singleton.1 h1]; exact ⟨(R6.safe S67).safe SK, fun ad ha => Nat.le_trans B.size (Nat.le_trans T4.size (b6 ad ha))⟩
      · show _ = _
        rw [List.map_append, HV.out, hst.out]; rfl
    · have q3 : ¬ (i : Int) < (xs.length : Int) := by omega
      have HV2 : Hid (zs.map Fv.f = xs.map Fv.f) := by
        show _ = _
        rw [HV.out, List.take_of_length_le (by omega)]
      obtain ⟨u', c', e', RF, hbb⟩ := own_row (D := fK) OF (by have := hk.out; omega)
      cases e'
      have hoo : ∀ ad, u = some ad → w.heap.size ≤ ad.block ∧ ad.off = 0 ∧ ad.spot = none := fun ad ha => by
        refine ⟨hbb ad ha, ?_⟩
        rcases OF.2 with ⟨hv, _⟩ | ⟨g, cap, cur, hv, _⟩
        · have e1 : u = none := by injection hv
          rw [e1] at ha; cases ha
        · have e1 : u = some ⟨g, 0, none⟩ := by injection hv
          rw [e1] at ha; cases ha; exact ⟨rfl, rfl⟩
      clear HV OF
      go_wp2_with fail
      go_ret
      exact ⟨⟨u, cu, zs, rfl, RF, hoo, EK, HV2.out⟩, B⟩
end Go.Proofs.Ytomiefhfkdfgbaa
