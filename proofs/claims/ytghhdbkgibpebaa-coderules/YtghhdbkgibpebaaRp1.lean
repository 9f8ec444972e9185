/-
  The reference lays terms.
-/
import Derived.Test.YtghhdbkgibpebaaRLay
import Derived.Test.YtghhdbkgibpebaaRt1
namespace Go.Proofs.Ytghhdbkgibpebaa
open Go.RowKit Go.Sort

theorem term_cases (t : Tm) : (noneB t = true ∧ termB t = [0]) ∨ (noneB t = false ∧ t.v = [] ∧ termB t = [2] ++ constB t.k) ∨ (noneB t = false ∧ (∃ x r, t.v = x :: r) ∧ termB t = [1] ++ textB t.v) := by
  obtain ⟨v, k⟩ := t
  unfold noneB termB kindT
  cases v with
  | nil => cases zeroK k <;> simp
  | cons x r => simp

set_option maxRecDepth 100000 in
set_option maxHeartbeats 4000000 in
theorem rputTerm_at (base : Nat) (v : Value) (l : List UInt8) (t : Tm) (w : World) (hown : OwnB w base v l) (hbase : base ≤ w.heap.size) (hk : KIn t.k) (hr : (l ++ termB t).length ≤ 100000000000000) :
    Calls Try.prog 83 #[v, tval t] w fun e w' => ∃ v', e = .returned v' ∧ OwnB w' base v' (l ++ termB t) ∧ Grows base w w' := by
  have mixed : Try.prog.follows .mixedOrders = true := by kernel_rfl
  have hN := fun W => rnone_at t W
  have hcs := term_cases t
  obtain ⟨tv, ⟨nm, n, s⟩⟩ := t
  simp only at hk hcs
  have H0 := heap_alloc_new w (.cells #[str tv, .bool nm, .int .i64 n, str s] 51)
  have B0 := below_alloc w (.cells #[str tv, .bool nm, .int .i64 n, str s] 51)
  have hlt : w.heap.size < (w.alloc (.cells #[str tv, .bool nm, .int .i64 n, str s] 51)).heap.size := by simp
  rcases hcs with ⟨hn, hB⟩ | ⟨hn, hv, hB⟩ | ⟨hn, ⟨x, r, hv⟩, hB⟩
  · rw [hB] at hr ⊢
    rw [hn] at hN
    go_enter Try.func83, Try.ntmps83
    go_wp2_with fail
    refine (hN _).mono ?_; rintro e w0 ⟨rfl, g0⟩
    have Bw := Below.then B0 g0.below
    have O0 := hown.below Bw
    have z0 := Bw.size
    have BA := below_alloc w0 (.cells #[.int .u8 0] 5)
    have OA := O0.below BA
    have hA := holds_new w0 [0] #[.int .u8 0] 5 rfl
    have zA : base ≤ (w0.alloc (.cells #[.int .u8 0] 5)).heap.size := Nat.le_trans hbase (Nat.le_trans z0 BA.size)
    have gA : Grows base w (w0.alloc (.cells #[.int .u8 0] 5)) := Grows.of_below (Below.then Bw BA) hbase
    go_wp2_with (at_builtin; refine run_ob rfl _ _ rfl rfl OA 1 rfl rfl hA zA (Nat.le_trans hr (by decide)) ?_; intro v1 w1 o1 g1)
    go_ret
    exact ⟨v1, rfl, o1, gA.trans g1⟩
  · subst hv
    rw [hB, ← List.append_assoc] at hr
    rw [hB, ← List.append_assoc]
    rw [hn] at hN
    have hr1 : (l ++ [(2 : UInt8)]).length ≤ 100000000000000 := by simp only [List.length_append] at hr ⊢; omega
    have hC := fun (v : Value) (W : World) (h : OwnB W base v (l ++ [2])) (hb : base ≤ W.heap.size) => rputConst_at base v (l ++ [2]) ⟨nm, n, s⟩ W h hb hk hr
    go_enter Try.func83, Try.ntmps83
    go_wp2_with fail
    refine (hN _).mono ?_; rintro e w0 ⟨rfl, g0⟩
    have H1 := below_heap g0.below H0
    have Bw := Below.then B0 g0.below
    have O0 := hown.below Bw
    have z0 := Bw.size
    have c0 := heap_cell H1 0
    simp at c0
    clear g0 H0 B0 hlt
    go_wp2_with fail
    have BD : Below w0.heap.size w0 w0.drew := (Below.refl _ _).drew
    have BA := Below.then BD (below_alloc w0.drew (.cells #[.int .u8 2] 5))
    have OA := O0.below BA
    have hA := holds_new w0.drew [2] #[.int .u8 2] 5 rfl
    have zA : base ≤ (w0.drew.alloc (.cells #[.int .u8 2] 5)).heap.size := Nat.le_trans hbase (Nat.le_trans z0 BA.size)
    have gA : Grows base w0 (w0.drew.alloc (.cells #[.int .u8 2] 5)) := Grows.of_below BA (Nat.le_trans hbase z0)
    have gD : Grows base w0 w0.drew := Grows.of_below BD (Nat.le_trans hbase z0)
    have g0 : Grows base w w0 := Grows.of_below Bw hbase
    have kk : ∀ W, Grows base w0 W → W.cell? ⟨w.heap.size, 1, none⟩ = some (.bool nm) ∧ W.cell? ⟨w.heap.size, 2, none⟩ = some (.int .i64 n) ∧ W.cell? ⟨w.heap.size, 3, none⟩ = some (str s) := fun W h => ⟨h.cell H1 (by decide) 1 rfl, h.cell H1 (by decide) 2 rfl, h.cell H1 (by decide) 3 rfl⟩
    go_region_held3 (fun W => W.cell? ⟨w.heap.size, 1, none⟩ = some (.bool nm) ∧ W.cell? ⟨w.heap.size, 2, none⟩ = some (.int .i64 n) ∧ W.cell? ⟨w.heap.size, 3, none⟩ = some (str s)) (first | exact kk _ gD | exact kk _ gA | exact kk _ g1 | exact kk _ g2)
      (first
        | (refine step_ob (by rfl) _ _ rfl base v l [2] ⟨w0.drew.heap.size, 0, none⟩ 1 1 rfl OA rfl rfl hA zA (Nat.le_trans hr1 (by decide)) ?_; intro v1 w1 o1 b1; have g1 := gA.trans b1)
        | (go_at_call 34; refine (hC v1 w1 o1 (Nat.le_trans zA b1.size)).mono ?_; rintro e w2 ⟨v2, rfl, o2, b2⟩; have g2 := g1.trans b2))
    go_wp2_with fail
    go_ret
    exact ⟨v2, rfl, o2, g0.trans g2⟩
  · subst hv
    rw [hB, ← List.append_assoc] at hr
    rw [hB, ← List.append_assoc]
    rw [hn] at hN
    have hr1 : (l ++ [(1 : UInt8)]).length ≤ 100000000000000 := by simp only [List.length_append] at hr ⊢; omega
    have hC := fun (v : Value) (W : World) (h : OwnB W base v (l ++ [1])) (hb : base ≤ W.heap.size) => rputText5_at base v (l ++ [1]) (x :: r) W h hb hr
    go_enter Try.func83, Try.ntmps83
    go_wp2_with fail
    refine (hN _).mono ?_; rintro e w0 ⟨rfl, g0⟩
    have H1 := below_heap g0.below H0
    have Bw := Below.then B0 g0.below
    have O0 := hown.below Bw
    have z0 := Bw.size
    have c0 := heap_cell H1 0
    simp at c0
    clear g0 H0 B0 hlt
    go_wp2_with fail
    have BD : Below w0.heap.size w0 w0.drew := (Below.refl _ _).drew
    have BA := Below.then BD (below_alloc w0.drew (.cells #[.int .u8 1] 5))
    have OA := O0.below BA
    have hA := holds_new w0.drew [1] #[.int .u8 1] 5 rfl
    have zA : base ≤ (w0.drew.alloc (.cells #[.int .u8 1] 5)).heap.size := Nat.le_trans hbase (Nat.le_trans z0 BA.size)
    have gA : Grows base w0 (w0.drew.alloc (.cells #[.int .u8 1] 5)) := Grows.of_below BA (Nat.le_trans hbase z0)
    have gD : Grows base w0 w0.drew := Grows.of_below BD (Nat.le_trans hbase z0)
    have g0 : Grows base w w0 := Grows.of_below Bw hbase
    have kk : ∀ W, Grows base w0 W → W.cell? ⟨w.heap.size, 0, none⟩ = some (str (x :: r)) := fun W h => h.cell H1 (by decide) 0 rfl
    go_region_held3 (fun W => W.cell? ⟨w.heap.size, 0, none⟩ = some (str (x :: r))) (first | exact kk _ gD | exact kk _ gA | exact kk _ g1 | exact kk _ g2)
      (first
        | (refine step_ob (by rfl) _ _ rfl base v l [1] ⟨w0.drew.heap.size, 0, none⟩ 1 1 rfl OA rfl rfl hA zA (Nat.le_trans hr1 (by decide)) ?_; intro v1 w1 o1 b1; have g1 := gA.trans b1)
        | (go_at_call 32; refine (hC v1 w1 o1 (Nat.le_trans zA b1.size)).mono ?_; rintro e w2 ⟨v2, rfl, o2, b2⟩; have g2 := g1.trans b2))
    go_wp2_with fail
    go_ret
    exact ⟨v2, rfl, o2, g0.trans g2⟩
end Go.Proofs.Ytghhdbkgibpebaa
