/-
  The reference's Unify.
-/
import Derived.Test.YtdehimbfcilhpaaGreatDoorQD1
import Derived.Test.YtdehimbfcilhpaaGreatDoorQE4
namespace Go.Proofs.YtdehimbfcilhpaaGreatDoor
open Go.RowKit Go.Lib Go.Shelf

theorem ownsB_empty (w : World) : (w.alloc (.cells #[] 99)).ownsRow w.heap.size 99 bK.k (.slice (some ⟨w.heap.size, 0, none⟩) 0 0) ([] : List Bd).length (([] : List Bd).flatMap bK.enc) :=
  ⟨rfl, .inr ⟨w.heap.size, 0, #[], rfl, Nat.le_refl _, heap_alloc_new w _, Nat.le_refl _, Nat.zero_le _, rfl, rfl⟩⟩

theorem tvk_cells {w : World} {b : Nat} {k : K} (H : w.heap[b]? = some (.cells (kv k).toArray 56)) : w.cell? ⟨b, 0, none⟩ = some (.bool k.num) ∧ w.cell? ⟨b, 1, none⟩ = some (.int .i64 k.n) ∧ w.cell? ⟨b, 2, none⟩ = some (str k.s) := by
  refine ⟨?_, ?_, ?_⟩ <;> (rw [heap_cell H]; rfl)
theorem tvt_cells {w : World} {b : Nat} {t : Tm} (H : w.heap[b]? = some (.cells (tv t).toArray 58)) :
    w.cell? ⟨b, 0, none⟩ = some (str t.v) ∧ w.cell? ⟨b, 1, none⟩ = some (.bool t.k.num) ∧ w.cell? ⟨b, 2, none⟩ = some (.int .i64 t.k.n) ∧ w.cell? ⟨b, 3, none⟩ = some (str t.k.s) := by
  refine ⟨?_, ?_, ?_, ?_⟩ <;> (rw [heap_cell H]; rfl)

set_option maxRecDepth 100000 in
set_option maxHeartbeats 1000000 in
theorem rUnify_at (t : Tm) (k : K) (a : Option Addr) (c : Nat) (L : List Bd) (w : World) (h : Row bK w a c L) (hf : L.length ≤ 900000) :
    Calls Tryz.prog 27 #[tval t, kval k, .slice a L.length c] w fun e w' => (∃ a' c', e = .returned (.tuple #[.slice a' (uniE t k L).length c', .bool (uniB t k L)]) ∧ Row bK w' a' c' (uniE t k L)) ∧ Below w.heap.size w w' := by
  have iK : (Tryz.prog.info? 56).map (·.size) = some 3 := by kernel_rfl
  have CS := hideP (uni_cases t k L)
  have N := hideP (fun W => rnone11_at t W)
  have EQ := hideP (fun v W => eqConst v k 9998 W)
  obtain ⟨h0, h1, A0⟩ := boxes2 w (.cells (tv t).toArray 58) (.cells (kv k).toArray 56)
  have T := hideP (rvalue_at t a c L _ (h.below A0 (Nat.le_refl _)))
  generalize valK t L = kk at *
  generalize valB t L = bb at *
  generalize uniE t k L = E1 at *
  generalize uniB t k L = B1 at *
  generalize Mt.nul t = q at *
  obtain ⟨v, ⟨x, n, s⟩⟩ := t
  obtain ⟨x', n', s'⟩ := k
  go_enter Tryz.func27, Tryz.ntmps27
  go_wp2_with fail
  refine T.out.mono ?_
  rintro e w1 ⟨rfl, b1⟩
  have B := Below.then A0 b1
  have g0 := below_heap b1 h0
  have g1 := below_heap b1 h1
  clear h0 h1 b1 T A0
  have H1 := heap_alloc_new w1 (.cells #[.bool false, .int .i64 0, .string { data := #[] }] 56)
  have A1 := below_alloc w1 (.cells #[.bool false, .int .i64 0, .string { data := #[] }] 56)
  have G0 := below_heap A1 g0
  have G1 := below_heap A1 g1
  have hn2 := heap_lt g1
  rcases CS.out with ⟨u, e1, e2, e3, e4, e5⟩ | ⟨u, e1, e2, e3, e4, e5⟩ | ⟨e1, e2, e3, e4, e5⟩ | ⟨e1, e2, e3, e4, e5⟩
  · have Q := EQ.out u
    rw [e3] at Q
    obtain ⟨y, m, z⟩ := u
    have e6 := e4.symm
    subst e1 e2 e6 e5
    simp only at Q
    clear CS e3 EQ N
    go_wp2_with (first | (refine wpList_store_all rfl 56 _ _ rfl w1.heap.size 3 _ 56 (kv ⟨y, m, z⟩) rfl rfl H1 rfl rfl iK rfl ?_; intro w2 H2 b2; have J0 := b2.heap (by omega) G0; have J1 := b2.heap (by omega) G1; have T2 := below_tok b2; have B2 := Below.then B T2; have A3 := below_alloc w2 (.cells #[] 99); have R3 := h.below (Below.then B2 A3) (Nat.le_refl _); have o3 := ownsB_empty w2) | (at_builtin; refine wpList_append_rec bK _ rfl _ _ 65 99 rfl _ 48 Tryz.underlying65 Tryz.iB rfl (by decide) w2.heap.size (.slice (some ⟨w2.heap.size, 0, none⟩) 0 0) [] L a L.length c rfl o3 rfl rfl R3 A3.size (by simp only [List.length_nil]; omega) ?_; intro v5 w5 o5 g5; obtain ⟨a5, c5, rfl, R5, _⟩ := own_row (D := bK) (xs := [] ++ L) o5 (by simp only [List.nil_append]; omega); have T5 := A3.trans (own_below o3 g5 A3.size); have I0 := below_heap T5 J0; have I1 := below_heap T5 J1; have I2 := below_heap T5 H2; obtain ⟨d0, d1, d2⟩ := tvk_cells I1; obtain ⟨c0, c1, c2⟩ := tvk_cells I2; obtain ⟨t0, t1, t2, t3⟩ := tvt_cells I0))
    have B5 := Below.then B2 T5
    have hB2 := B2.size
    have hb5 : w2.heap.size ≤ w5.heap.size := T5.size
    clear G0 G1 g0 g1 J0 J1 H1 H2 b2 T2 A1 A3 R3 o3 g5 T5 B B2 h hn2
    go_ret2
    exact ⟨⟨a5, c5, rfl, R5.row⟩, B5⟩
  · have Q := EQ.out u
    rw [e3] at Q
    obtain ⟨y, m, z⟩ := u
    have e6 := e4.symm
    subst e1 e2 e6 e5
    simp only at Q
    clear CS e3 EQ N
    go_wp2_with (first | (refine wpList_store_all rfl 56 _ _ rfl w1.heap.size 3 _ 56 (kv ⟨y, m, z⟩) rfl rfl H1 rfl rfl iK rfl ?_; intro w2 H2 b2; have J0 := b2.heap (by omega) G0; have J1 := b2.heap (by omega) G1; have T2 := below_tok b2; have B2 := Below.then B T2; have A3 := below_alloc w2 (.cells #[] 99); have R3 := h.below (Below.then B2 A3) (Nat.le_refl _); have o3 := ownsB_empty w2) | (at_builtin; refine wpList_append_rec bK _ rfl _ _ 65 99 rfl _ 48 Tryz.underlying65 Tryz.iB rfl (by decide) w2.heap.size (.slice (some ⟨w2.heap.size, 0, none⟩) 0 0) [] L a L.length c rfl o3 rfl rfl R3 A3.size (by simp only [List.length_nil]; omega) ?_; intro v5 w5 o5 g5; obtain ⟨a5, c5, rfl, R5, _⟩ := own_row (D := bK) (xs := [] ++ L) o5 (by simp only [List.nil_append]; omega); have T5 := A3.trans (own_below o3 g5 A3.size); have I0 := below_heap T5 J0; have I1 := below_heap T5 J1; have I2 := below_heap T5 H2; obtain ⟨d0, d1, d2⟩ := tvk_cells I1; obtain ⟨c0, c1, c2⟩ := tvk_cells I2; obtain ⟨t0, t1, t2, t3⟩ := tvt_cells I0))
    have B5 := Below.then B2 T5
    have hB2 := B2.size
    have hb5 : w2.heap.size ≤ w5.heap.size := T5.size
    clear G0 G1 g0 g1 J0 J1 H1 H2 b2 T2 A1 A3 R3 o3 g5 T5 B B2 h hn2
    go_ret2
    exact ⟨⟨none, 0, rfl, Row.nil _ _⟩, B5⟩
  · subst e1 e2 e3 e4 e5
    clear CS EQ
    go_wp2_with (first | (refine wpList_store_all rfl 56 _ _ rfl w1.heap.size 3 _ 56 (kv k0) rfl rfl H1 rfl rfl iK rfl ?_; intro w2 H2 b2; have J0 := b2.heap (by omega) G0; have J1 := b2.heap (by omega) G1; have T2 := below_tok b2; have B2 := Below.then B T2; have A3 := below_alloc w2 (.cells #[] 99); have R3 := h.below (Below.then B2 A3) (Nat.le_refl _); have o3 := ownsB_empty w2) | (at_builtin; refine wpList_append_rec bK _ rfl _ _ 65 99 rfl _ 48 Tryz.underlying65 Tryz.iB rfl (by decide) w2.heap.size (.slice (some ⟨w2.heap.size, 0, none⟩) 0 0) [] L a L.length c rfl o3 rfl rfl R3 A3.size (by simp only [List.length_nil]; omega) ?_; intro v5 w5 o5 g5; obtain ⟨a5, c5, rfl, R5, _⟩ := own_row (D := bK) (xs := [] ++ L) o5 (by simp only [List.nil_append]; omega); have T5 := A3.trans (own_below o3 g5 A3.size); have I0 := below_heap T5 J0; have I1 := below_heap T5 J1; have I2 := below_heap T5 H2; obtain ⟨d0, d1, d2⟩ := tvk_cells I1; obtain ⟨c0, c1, c2⟩ := tvk_cells I2; obtain ⟨t0, t1, t2, t3⟩ := tvt_cells I0))
    have B5 := Below.then B2 T5
    have hB2 := B2.size
    have hb5 : w2.heap.size ≤ w5.heap.size := T5.size
    clear G0 G1 g0 g1 J0 J1 H1 H2 b2 T2 A1 A3 R3 o3 g5 T5 B B2 h hn2
    refine (N.out _).mono ?_
    rintro e w6 ⟨rfl, b6⟩
    go_wp2_with fail
    go_ret2
    exact ⟨⟨none, 0, rfl, Row.nil _ _⟩, Below.then B5 b6⟩
  · subst e1 e2 e3 e4 e5
    clear CS EQ
    go_wp2_with (first | (refine wpList_store_all rfl 56 _ _ rfl w1.heap.size 3 _ 56 (kv k0) rfl rfl H1 rfl rfl iK rfl ?_; intro w2 H2 b2; have J0 := b2.heap (by omega) G0; have J1 := b2.heap (by omega) G1; have T2 := below_tok b2; have B2 := Below.then B T2; have A3 := below_alloc w2 (.cells #[] 99); have R3 := h.below (Below.then B2 A3) (Nat.le_refl _); have o3 := ownsB_empty w2) | (at_builtin; refine wpList_append_rec bK _ rfl _ _ 65 99 rfl _ 48 Tryz.underlying65 Tryz.iB rfl (by decide) w2.heap.size (.slice (some ⟨w2.heap.size, 0, none⟩) 0 0) [] L a L.length c rfl o3 rfl rfl R3 A3.size (by simp only [List.length_nil]; omega) ?_; intro v5 w5 o5 g5; obtain ⟨a5, c5, rfl, R5, _⟩ := own_row (D := bK) (xs := [] ++ L) o5 (by simp only [List.nil_append]; omega); have T5 := A3.trans (own_below o3 g5 A3.size); have I0 := below_heap T5 J0; have I1 := below_heap T5 J1; have I2 := below_heap T5 H2; obtain ⟨d0, d1, d2⟩ := tvk_cells I1; obtain ⟨c0, c1, c2⟩ := tvk_cells I2; obtain ⟨t0, t1, t2, t3⟩ := tvt_cells I0))
    have B5 := Below.then B2 T5
    have hB2 := B2.size
    have hb5 : w2.heap.size ≤ w5.heap.size := T5.size
    clear G0 G1 g0 g1 J0 J1 H1 H2 b2 T2 A1 A3 R3 o3 g5 T5 B B2 h hn2
    refine (N.out _).mono ?_
    rintro e w6 ⟨rfl, b6⟩
    have B6 := Below.then B5 b6
    obtain ⟨f0, f1, f2⟩ := tvk_cells (below_heap b6 I1)
    obtain ⟨j0, _, _, _⟩ := tvt_cells (below_heap b6 I0)
    have A7 := below_alloc w6 (.cells #[str v, .bool x', .int .i64 n', str s'] 99)
    have o6 : w6.ownsRow w2.heap.size 99 bK.k (.slice a5 L.length c5) L.length (L.flatMap bK.enc) := ownsRow_keep o5 (Safe.below b6 : Safe 99 _ _)
    have o7 := ownsRow_keep o6 (Safe.below A7 : Safe 99 _ _)
    have R7 : Row bK (w6.alloc (.cells #[str v, .bool x', .int .i64 n', str s'] 99)) (some ⟨w6.heap.size, 0, none⟩) 1 [(v, ⟨x', n', s'⟩)] := row_new bK w6 _ _ (v, ⟨x', n', s'⟩) rfl
    have hb7 : w2.heap.size ≤ (w6.alloc (.cells #[str v, .bool x', .int .i64 n', str s'] 99)).heap.size := Nat.le_trans hb5 (Nat.le_trans b6.size A7.size)
    have hw2 : w.heap.size ≤ w2.heap.size := hB2
    clear I0 I1 I2 d0 d1 d2 c0 c1 c2 t0 t1 t2 t3 b6 o5 o6 N
    go_wp2_with (at_builtin; refine wpList_append_rec bK _ rfl _ _ 65 99 rfl _ 48 Tryz.underlying65 Tryz.iB rfl (by decide) w2.heap.size (.slice a5 L.length c5) L [(v, ⟨x', n', s'⟩)] (some ⟨w6.heap.size, 0, none⟩) 1 1 rfl o7 rfl rfl R7 hb7 (by simp only [List.length_cons, List.length_nil]; omega) ?_; intro v8 w8 o8 g8; obtain ⟨a8, c8, rfl, R8, _⟩ := own_row (D := bK) (xs := L ++ [(v, ⟨x', n', s'⟩)]) o8 (by simp only [List.length_append, List.length_cons, List.length_nil]; omega))
    go_ret2
    exact ⟨⟨a8, c8, by rw [List.length_append]; rfl, R8.row⟩, (Below.then B6 A7).trans ((own_below o7 g8 hb7).mono hw2)⟩
end Go.Proofs.YtdehimbfcilhpaaGreatDoor
