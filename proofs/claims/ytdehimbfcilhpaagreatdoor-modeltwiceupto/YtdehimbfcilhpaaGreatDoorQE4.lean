/-
  The program's unify.
-/
import Derived.Test.YtdehimbfcilhpaaGreatDoorQD1
namespace Go.Proofs.YtdehimbfcilhpaaGreatDoor
open Go.RowKit Go.Lib Go.Shelf

def uniE (t : Tm) (k : K) (L : Mt.Env) : Mt.Env := (Mt.uni t k L).getD []
def uniB (t : Tm) (k : K) (L : Mt.Env) : Bool := (Mt.uni t k L).isSome
theorem uniE_len (t : Tm) (k : K) (L : Mt.Env) : (uniE t k L).length ≤ L.length + 1 := by
  unfold uniE
  cases h : Mt.uni t k L with
  | none => simp
  | some e => exact Mt.uni_len h
theorem uni_cases (t : Tm) (k : K) (L : Mt.Env) :
    (∃ v, valK t L = v ∧ valB t L = true ∧ sameK v k = true ∧ uniE t k L = L ∧ uniB t k L = true) ∨ (∃ v, valK t L = v ∧ valB t L = true ∧ sameK v k = false ∧ uniE t k L = [] ∧ uniB t k L = false) ∨
    (valK t L = k0 ∧ valB t L = false ∧ Mt.nul t = true ∧ uniE t k L = [] ∧ uniB t k L = false) ∨ (valK t L = k0 ∧ valB t L = false ∧ Mt.nul t = false ∧ uniE t k L = L ++ [(t.v, k)] ∧ uniB t k L = true) := by
  unfold valK valB uniE uniB Mt.uni
  cases hv : Mt.val t L with
  | some v =>
    simp only
    cases hs : sameK v k with
    | true =>
      have : Mt.eqK v k = true := hs
      exact .inl ⟨v, rfl, rfl, hs, by rw [if_pos this]; rfl, by rw [if_pos this]; rfl⟩
    | false =>
      have : ¬ Mt.eqK v k = true := by rw [show Mt.eqK v k = false from hs]; decide
      exact .inr (.inl ⟨v, rfl, rfl, hs, by rw [if_neg this]; rfl, by rw [if_neg this]; rfl⟩)
  | none =>
    simp only
    cases hn : Mt.nul t with
    | true => exact .inr (.inr (.inl ⟨rfl, rfl, rfl, rfl, rfl⟩))
    | false => exact .inr (.inr (.inr ⟨rfl, rfl, rfl, rfl, rfl⟩))

set_option maxRecDepth 100000 in
set_option maxHeartbeats 1000000 in
theorem munify_at (t : Tm) (k : K) (base : Nat) (a : Option Addr) (c : Nat) (L : List Bd) (w : World) (hE : EnvAt base w (.slice a L.length c) L) (hb : base ≤ w.heap.size) (hf : L.length ≤ 1000000) :
    Calls Tryz.prog 109 #[tval t, kval k, .slice a L.length c] w fun e w' => (∃ a' c', e = .returned (.tuple #[.slice a' (uniE t k L).length c', .bool (uniB t k L)]) ∧ EnvAt base w' (.slice a' (uniE t k L).length c') (uniE t k L)) ∧ Below base w w' ∧ ∀ ty : TypeId, ty ≠ 99 → Safe ty w w' := by
  have iK : (Tryz.prog.info? 56).map (·.size) = some 3 := by kernel_rfl
  have CS := hideP (uni_cases t k L)
  have R := (hE.row' (by omega)).2
  have N := hideP (fun W => mnone_at t W)
  have EQ := hideP (fun v W => eqConst v k 9998 W)
  have BX := boxes2 w (.cells (tv t).toArray 58) (.cells (kv k).toArray 56)
  have T := hideP (mvalue_at t a c L _ (R.below BX.2.2 (Nat.le_refl _)))
  generalize hE1 : uniE t k L = E1 at *
  generalize hB1 : uniB t k L = B1 at *
  have HB := hideP BX
  clear BX hE1 hB1
  obtain ⟨v, ⟨x, n, s⟩⟩ := t
  obtain ⟨x', n', s'⟩ := k
  go_enter Tryz.func109, Tryz.ntmps109
  go_wp2_with fail
  refine T.out.mono ?_
  rintro e w1 ⟨rfl, b1⟩
  obtain ⟨h1, h2, h3⟩ := HB.out
  have B := Below.then h3 b1
  have g1 := below_heap b1 h1
  have g2 := below_heap b1 h2
  have hE2 := hE.then B hb
  have hb1 : base ≤ w1.heap.size := Nat.le_trans hb B.size
  clear h1 h2 h3 b1 T HB R hE
  rcases CS.out with ⟨u, e1, e2, e3, rfl, rfl⟩ | ⟨u, e1, e2, e3, rfl, rfl⟩ | ⟨e1, e2, e3, rfl, rfl⟩ | ⟨e1, e2, e3, rfl, rfl⟩
  · rw [e1, e2]
    have Q := EQ.out u
    rw [e3] at Q
    clear CS e1 e2 e3 EQ N
    obtain ⟨y, m, z⟩ := u
    simp only at Q
    have H1 := heap_alloc_new w1 (.cells #[.bool false, .int .i64 0, .string { data := #[] }] 56)
    have A1 := below_alloc w1 (.cells #[.bool false, .int .i64 0, .string { data := #[] }] 56)
    have G2 := below_heap A1 g2
    have G1 := below_heap A1 g1
    have hn2 := heap_lt g2
    go_wp2_with (refine wpList_store_all rfl 56 _ _ rfl w1.heap.size 3 _ 56 (kv ⟨y, m, z⟩) rfl rfl H1 rfl rfl iK rfl ?_; intro w2 H2 b2; have J2 := b2.heap (by omega) G2; have c0 : w2.cell? ⟨w1.heap.size, 0, none⟩ = some (.bool y) := (by rw [heap_cell H2]; rfl); have c1 : w2.cell? ⟨w1.heap.size, 1, none⟩ = some (.int .i64 m) := (by rw [heap_cell H2]; rfl); have c2 : w2.cell? ⟨w1.heap.size, 2, none⟩ = some (str z) := (by rw [heap_cell H2]; rfl); have d0 : w2.cell? ⟨w.heap.size + 1, 0, none⟩ = some (.bool x') := (by rw [heap_cell J2]; rfl); have d1 : w2.cell? ⟨w.heap.size + 1, 1, none⟩ = some (.int .i64 n') := (by rw [heap_cell J2]; rfl); have d2 : w2.cell? ⟨w.heap.size + 1, 2, none⟩ = some (str s') := (by rw [heap_cell J2]; rfl))
    go_ret2
    have T2 := below_tok b2
    have X := Below.then B T2
    exact ⟨⟨a, c, rfl, hE2.then T2 hb1⟩, X.mono hb, fun _ _ => Safe.below X⟩
  · rw [e1, e2]
    have Q := EQ.out u
    rw [e3] at Q
    clear CS e1 e2 e3 EQ N
    obtain ⟨y, m, z⟩ := u
    simp only at Q
    have H1 := heap_alloc_new w1 (.cells #[.bool false, .int .i64 0, .string { data := #[] }] 56)
    have A1 := below_alloc w1 (.cells #[.bool false, .int .i64 0, .string { data := #[] }] 56)
    have G2 := below_heap A1 g2
    have G1 := below_heap A1 g1
    have hn2 := heap_lt g2
    go_wp2_with (refine wpList_store_all rfl 56 _ _ rfl w1.heap.size 3 _ 56 (kv ⟨y, m, z⟩) rfl rfl H1 rfl rfl iK rfl ?_; intro w2 H2 b2; have J2 := b2.heap (by omega) G2; have c0 : w2.cell? ⟨w1.heap.size, 0, none⟩ = some (.bool y) := (by rw [heap_cell H2]; rfl); have c1 : w2.cell? ⟨w1.heap.size, 1, none⟩ = some (.int .i64 m) := (by rw [heap_cell H2]; rfl); have c2 : w2.cell? ⟨w1.heap.size, 2, none⟩ = some (str z) := (by rw [heap_cell H2]; rfl); have d0 : w2.cell? ⟨w.heap.size + 1, 0, none⟩ = some (.bool x') := (by rw [heap_cell J2]; rfl); have d1 : w2.cell? ⟨w.heap.size + 1, 1, none⟩ = some (.int .i64 n') := (by rw [heap_cell J2]; rfl); have d2 : w2.cell? ⟨w.heap.size + 1, 2, none⟩ = some (str s') := (by rw [heap_cell J2]; rfl))
    go_ret2
    have T2 := below_tok b2
    have X := Below.then B T2
    exact ⟨⟨none, 0, rfl, EnvAt.nil _ _⟩, X.mono hb, fun _ _ => Safe.below X⟩
  · rw [e1, e2]
    rw [e3] at N
    clear CS e1 e2 e3 EQ
    have H1 := heap_alloc_new w1 (.cells #[.bool false, .int .i64 0, .string { data := #[] }] 56)
    have A1 := below_alloc w1 (.cells #[.bool false, .int .i64 0, .string { data := #[] }] 56)
    have G2 := below_heap A1 g2
    have G1 := below_heap A1 g1
    have hn2 := heap_lt g2
    go_wp2_with (refine wpList_store_all rfl 56 _ _ rfl w1.heap.size 3 _ 56 (kv k0) rfl rfl H1 rfl rfl iK rfl ?_; intro w2 H2 b2; have J2 := b2.heap (by omega) G2; have J1 := b2.heap (by omega) G1; have c0 : w2.cell? ⟨w.heap.size, 0, none⟩ = some (str v) := (by rw [heap_cell J1]; rfl); have c1 : w2.cell? ⟨w.heap.size, 1, none⟩ = some (.bool x) := (by rw [heap_cell J1]; rfl); have c2 : w2.cell? ⟨w.heap.size, 2, none⟩ = some (.int .i64 n) := (by rw [heap_cell J1]; rfl); have c3 : w2.cell? ⟨w.heap.size, 3, none⟩ = some (str s) := (by rw [heap_cell J1]; rfl); have T2 := below_tok b2)
    refine (N.out w2).mono ?_
    rintro e w3 ⟨rfl, b3⟩
    have X := Below.then (Below.then B T2) b3
    go_wp2_with fail
    go_ret2
    exact ⟨⟨none, 0, rfl, EnvAt.nil _ _⟩, X.mono hb, fun _ _ => Safe.below X⟩
  · rw [e1, e2]
    rw [e3] at N
    clear CS e1 e2 e3 EQ
    have H1 := heap_alloc_new w1 (.cells #[.bool false, .int .i64 0, .string { data := #[] }] 56)
    have A1 := below_alloc w1 (.cells #[.bool false, .int .i64 0, .string { data := #[] }] 56)
    have G2 := below_heap A1 g2
    have G1 := below_heap A1 g1
    have hn2 := heap_lt g2
    go_wp2_with (refine wpList_store_all rfl 56 _ _ rfl w1.heap.size 3 _ 56 (kv k0) rfl rfl H1 rfl rfl iK rfl ?_; intro w2 H2 b2; have J2 := b2.heap (by omega) G2; have J1 := b2.heap (by omega) G1; have c0 : w2.cell? ⟨w.heap.size, 0, none⟩ = some (str v) := (by rw [heap_cell J1]; rfl); have c1 : w2.cell? ⟨w.heap.size, 1, none⟩ = some (.bool x) := (by rw [heap_cell J1]; rfl); have c2 : w2.cell? ⟨w.heap.size, 2, none⟩ = some (.int .i64 n) := (by rw [heap_cell J1]; rfl); have c3 : w2.cell? ⟨w.heap.size, 3, none⟩ = some (str s) := (by rw [heap_cell J1]; rfl); have T2 := below_tok b2)
    refine (N.out w2).mono ?_
    rintro e w3 ⟨rfl, b3⟩
    have X := Below.then (Below.then B T2) b3
    have hE3 := (hE2.then T2 hb1).then b3 (Nat.le_trans hb1 T2.size)
    have I2 := below_heap b3 J2
    have I1 := below_heap b3 J1
    have hb3 : base ≤ w3.heap.size := Nat.le_trans hb X.size
    clear c0 c1 c2 c3 J1 J2 T2 b3 H2 b2 G1 G2 A1 H1 hE2 N B g1 g2 hn2
    have r0 : w3.cell? ⟨w.heap.size, 0, none⟩ = some (str v) := (by rw [heap_cell I1]; rfl)
    have d0 : w3.cell? ⟨w.heap.size + 1, 0, none⟩ = some (.bool x') := (by rw [heap_cell I2]; rfl)
    have d1 : w3.cell? ⟨w.heap.size + 1, 1, none⟩ = some (.int .i64 n') := (by rw [heap_cell I2]; rfl)
    have d2 : w3.cell? ⟨w.heap.size + 1, 2, none⟩ = some (str s') := (by rw [heap_cell I2]; rfl)
    have A4 := below_alloc w3 (.cells #[str v, .bool x', .int .i64 n', str s'] 99)
    have hE4 := hE3.then A4 hb3
    have R4 : Row bK (w3.alloc (.cells #[str v, .bool x', .int .i64 n', str s'] 99)) (some ⟨w3.heap.size, 0, none⟩) 1 [(v, ⟨x', n', s'⟩)] := row_new bK w3 _ _ (v, ⟨x', n', s'⟩) rfl
    go_wp2_with (at_builtin; refine wpList_append_env _ rfl _ _ rfl base a c L (v, ⟨x', n', s'⟩) ⟨w3.heap.size, 0, none⟩ rfl hE4 rfl R4 (Nat.le_trans hb3 A4.size) hf ?_; intro a5 c5 w5 E5 B5 S5)
    go_ret2
    exact ⟨⟨a5, c5, by rw [List.length_append]; rfl, E5⟩, ((Below.then X A4).mono hb).trans B5, fun ty hty => (Safe.below (Below.then X A4)).trans (S5 ty hty)⟩
end Go.Proofs.YtdehimbfcilhpaaGreatDoor
