/-
  The program lays numbers, texts and constants behind a row of its own.
-/
import Derived.Deep.RegionHeld3
import Derived.StillTailTactics
import Derived.Deep.LoopGhost
import Derived.Test.YtghhdbkgibpebaaOb
import Derived.Test.YtghhdbkgibpebaaTk
namespace Go.Proofs.Ytghhdbkgibpebaa
open Go.RowKit Go.Sort

theorem int_len (n : Int) (h0 : -9223372036854775808 ≤ n) (h1 : n ≤ 9223372036854775807) : (intB n).length ≤ 10 := Pm.vb_len10 _ (Pm.tb_lt n h0 h1)

set_option maxHeartbeats 1000000 in
theorem appendInt5_at (base : Nat) (v : Value) (l : List UInt8) (n : Int) (w : World) (hown : OwnB w base v l) (hbase : base ≤ w.heap.size) (h0 : -9223372036854775808 ≤ n) (h1 : n ≤ 9223372036854775807) (hr : (l ++ intB n).length ≤ 140737488355328) :
    Calls Try.prog 76 #[v, .int .i64 n] w fun e w' => ∃ v', e = .returned v' ∧ OwnB w' base v' (l ++ intB n) ∧ Grows base w w' := by
  have hP := fun W => putInt_ex none 0 0 (intB n).length [] (intB n) n W rfl (Holds.nil W) (by omega) h0 h1 rfl rfl
  generalize intB n = B at *
  go_enter Try.func76, Try.ntmps76
  go_wp2_with fail
  refine (hP _).mono ?_; rintro e w1 ⟨g, cap, rfl, ho1, hb1⟩
  go_wp2_with (at_builtin; refine run_ob rfl _ _ rfl rfl (hown.below hb1) B.length rfl rfl ho1.holds (Nat.le_trans hbase hb1.size) hr ?ap)
  intro v2 w2 ho2 hb2
  go_wp2_with fail
  go_ret
  exact ⟨v2, rfl, ho2, (Grows.of_below hb1 hbase).trans hb2⟩

set_option maxHeartbeats 1000000 in
theorem appendText5_at (base : Nat) (v : Value) (l s : List UInt8) (w : World) (hown : OwnB w base v l) (hbase : base ≤ w.heap.size) (hr : (l ++ textB s).length ≤ 140737488355328) :
    Calls Try.prog 62 #[v, str s] w fun e w' => ∃ v', e = .returned v' ∧ OwnB w' base v' (l ++ textB s) ∧ Grows base w w' := by
  have hs : s.length ≤ 140737488355328 := by simp only [textB, List.length_append] at hr; omega
  have hP := fun W => putText_ex none 0 0 (textB s).length [] s (textB s) W rfl (Holds.nil W) (by omega) rfl rfl
  generalize textB s = B at *
  go_enter Try.func62, Try.ntmps62
  go_wp2_with fail
  refine (hP _).mono ?_; rintro e w1 ⟨g, cap, rfl, ho1, hb1⟩
  go_wp2_with (at_builtin; refine run_ob rfl _ _ rfl rfl (hown.below hb1) B.length rfl rfl ho1.holds (Nat.le_trans hbase hb1.size) hr ?ap)
  intro v2 w2 ho2 hb2
  go_wp2_with fail
  go_ret
  exact ⟨v2, rfl, ho2, (Grows.of_below hb1 hbase).trans hb2⟩

set_option maxRecDepth 100000 in
set_option maxHeartbeats 4000000 in
theorem appendConst5_at (base : Nat) (v : Value) (l : List UInt8) (k : K) (w : World) (hown : OwnB w base v l) (hbase : base ≤ w.heap.size) (hk : KIn k) (hr : (l ++ constB k).length ≤ 140737488355328) :
    Calls Try.prog 64 #[v, kval k] w fun e w' => ∃ v', e = .returned v' ∧ OwnB w' base v' (l ++ constB k) ∧ Grows base w w' := by
  have mixed : Try.prog.follows .mixedOrders = true := by kernel_rfl
  obtain ⟨nm, n, s⟩ := k
  obtain ⟨h0, h1⟩ := hk
  simp only at h0 h1
  cases nm
  · have hB : l ++ constB ⟨false, n, s⟩ = l ++ [1] ++ textB s := by simp [constB]
    rw [hB] at hr ⊢
    have hr1 : (l ++ [(1 : UInt8)]).length ≤ 140737488355328 := by simp only [List.length_append] at hr ⊢; omega
    have hC := fun (v : Value) (W : World) (h : OwnB W base v (l ++ [1])) (hb : base ≤ W.heap.size) => appendText5_at base v (l ++ [1]) s W h hb hr
    go_enter Try.func64, Try.ntmps64
    go_wp2_with fail
    have H0 := heap_alloc_new w (.cells #[.bool false, .int .i64 n, str s] 49)
    have B0 := below_alloc w (.cells #[.bool false, .int .i64 n, str s] 49)
    have O0 := hown.below B0
    have z0 := B0.size
    generalize w.alloc (.cells #[.bool false, .int .i64 n, str s] 49) = w0 at *
    have BD : Below w0.heap.size w0 w0.drew := (Below.refl _ _).drew
    have BA := Below.then BD (below_alloc w0.drew (.cells #[.int .u8 1] 5))
    have OA := O0.below BA
    have hA := holds_new w0.drew [1] #[.int .u8 1] 5 rfl
    have zA : base ≤ (w0.drew.alloc (.cells #[.int .u8 1] 5)).heap.size := Nat.le_trans hbase (Nat.le_trans z0 BA.size)
    have gA : Grows base w0 (w0.drew.alloc (.cells #[.int .u8 1] 5)) := Grows.of_below BA (Nat.le_trans hbase z0)
    have gD : Grows base w0 w0.drew := Grows.of_below BD (Nat.le_trans hbase z0)
    have g0 : Grows base w w0 := Grows.of_below B0 hbase
    have kk : ∀ W, Grows base w0 W → W.cell? ⟨w.heap.size, 2, none⟩ = some (str s) := fun W h => h.cell H0 (by decide) 2 rfl
    go_region_held3 (fun W => W.cell? ⟨w.heap.size, 2, none⟩ = some (str s)) (first | exact kk _ gD | exact kk _ gA | exact kk _ g1 | exact kk _ g2)
      (first
        | (refine step_ob (by rfl) _ _ rfl base v l [1] ⟨w0.drew.heap.size, 0, none⟩ 1 1 rfl OA rfl rfl hA zA hr1 ?_; intro v1 w1 o1 b1; have g1 := gA.trans b1)
        | (go_at_call 62; refine (hC v1 w1 o1 (Nat.le_trans zA b1.size)).mono ?_; rintro e w2 ⟨v2, rfl, o2, b2⟩; have g2 := g1.trans b2))
    go_wp2_with fail
    go_ret
    exact ⟨v2, rfl, o2, g0.trans g2⟩
  · have hB : l ++ constB ⟨true, n, s⟩ = l ++ [0] ++ intB n := by simp [constB]
    rw [hB] at hr ⊢
    have hr1 : (l ++ [(0 : UInt8)]).length ≤ 140737488355328 := by simp only [List.length_append] at hr ⊢; omega
    have hC := fun (v : Value) (W : World) (h : OwnB W base v (l ++ [0])) (hb : base ≤ W.heap.size) => appendInt5_at base v (l ++ [0]) n W h hb h0 h1 hr
    go_enter Try.func64, Try.ntmps64
    go_wp2_with fail
    have H0 := heap_alloc_new w (.cells #[.bool true, .int .i64 n, str s] 49)
    have B0 := below_alloc w (.cells #[.bool true, .int .i64 n, str s] 49)
    have O0 := hown.below B0
    have z0 := B0.size
    generalize w.alloc (.cells #[.bool true, .int .i64 n, str s] 49) = w0 at *
    have BD : Below w0.heap.size w0 w0.drew := (Below.refl _ _).drew
    have BA := Below.then BD (below_alloc w0.drew (.cells #[.int .u8 0] 5))
    have OA := O0.below BA
    have hA := holds_new w0.drew [0] #[.int .u8 0] 5 rfl
    have zA : base ≤ (w0.drew.alloc (.cells #[.int .u8 0] 5)).heap.size := Nat.le_trans hbase (Nat.le_trans z0 BA.size)
    have gA : Grows base w0 (w0.drew.alloc (.cells #[.int .u8 0] 5)) := Grows.of_below BA (Nat.le_trans hbase z0)
    have gD : Grows base w0 w0.drew := Grows.of_below BD (Nat.le_trans hbase z0)
    have g0 : Grows base w w0 := Grows.of_below B0 hbase
    have kk : ∀ W, Grows base w0 W → W.cell? ⟨w.heap.size, 1, none⟩ = some (.int .i64 n) := fun W h => h.cell H0 (by decide) 1 rfl
    go_region_held3 (fun W => W.cell? ⟨w.heap.size, 1, none⟩ = some (.int .i64 n)) (first | exact kk _ gD | exact kk _ gA | exact kk _ g1 | exact kk _ g2)
      (first
        | (refine step_ob (by rfl) _ _ rfl base v l [0] ⟨w0.drew.heap.size, 0, none⟩ 1 1 rfl OA rfl rfl hA zA hr1 ?_; intro v1 w1 o1 b1; have g1 := gA.trans b1)
        | (go_at_call 76; refine (hC v1 w1 o1 (Nat.le_trans zA b1.size)).mono ?_; rintro e w2 ⟨v2, rfl, o2, b2⟩; have g2 := g1.trans b2))
    go_wp2_with fail
    go_ret
    exact ⟨v2, rfl, o2, g0.trans g2⟩
end Go.Proofs.Ytghhdbkgibpebaa

/-
  The program lays terms and lists behind a row of its own.
-/
namespace Go.Proofs.Ytghhdbkgibpebaa
open Go.RowKit Go.Sort

theorem termB_kind (t : Tm) : (kindT t = 0 ∧ termB t = [0]) ∨ (kindT t = 1 ∧ termB t = [1] ++ textB t.v) ∨ (kindT t = 2 ∧ termB t = [2] ++ constB t.k) := by
  unfold termB kindT
  cases t.v.isEmpty <;> cases zeroK t.k <;> simp

set_option maxRecDepth 100000 in
set_option maxHeartbeats 4000000 in
theorem appendTerm5_at (base : Nat) (v : Value) (l : List UInt8) (t : Tm) (w : World) (hown : OwnB w base v l) (hbase : base ≤ w.heap.size) (hk : KIn t.k) (hr : (l ++ termB t).length ≤ 140737488355328) :
    Calls Try.prog 77 #[v, tval t] w fun e w' => ∃ v', e = .returned v' ∧ OwnB w' base v' (l ++ termB t) ∧ Grows base w w' := by
  have hK := fun W => kindOf_at t W
  have hc := termB_kind t
  obtain ⟨vr, ⟨nm, n, s⟩⟩ := t
  simp only at hk hc
  generalize termB ⟨vr, ⟨nm, n, s⟩⟩ = B at *
  have hr1 : ∀ b : UInt8, (∃ r, B = [b] ++ r) → (l ++ [b]).length ≤ 140737488355328 := fun b ⟨r, h⟩ => by
    rw [h] at hr; simp only [List.length_append] at hr ⊢; omega
  generalize kindT ⟨vr, ⟨nm, n, s⟩⟩ = kd at *
  have hT := fun (v : Value) (l : List UInt8) (W : World) (h : OwnB W base v l) (hb : base ≤ W.heap.size) (hr : (l ++ textB vr).length ≤ 140737488355328) => appendText5_at base v l vr W h hb hr
  have hC := fun (v : Value) (l : List UInt8) (W : World) (h : OwnB W base v l) (hb : base ≤ W.heap.size) (hr : (l ++ constB ⟨nm, n, s⟩).length ≤ 140737488355328) => appendConst5_at base v l ⟨nm, n, s⟩ W h hb hk hr
  go_enter Try.func77, Try.ntmps77
  go_wp2_with fail
  refine (hK _).mono ?_; rintro e w1 ⟨rfl, hg1⟩
  have B1 := Below.then (below_alloc w _) hg1.below
  have H1 := below_heap hg1.below (heap_alloc_new w (.cells #[str vr, .bool nm, .int .i64 n, str s] 51))
  have O1 := hown.below B1
  have G1 : Grows base w w1 := Grows.of_below B1 hbase
  clear hg1 hK
  have hb1 : base ≤ w1.heap.size := Nat.le_trans hbase B1.size
  generalize hS : w.heap.size = S at *

  have hA0 := holds_new w1 [0] #[.int .u8 0] 5 rfl
  have hA1 := holds_new w1 [1] #[.int .u8 1] 5 rfl
  have hA2 := holds_new w1 [2] #[.int .u8 2] 5 rfl
  have OA := fun o : Obj => O1.below (below_alloc w1 o)
  have zA := fun o : Obj => Nat.le_trans hb1 (below_alloc w1 o).size
  have gA := fun o : Obj => G1.trans (Grows.of_below (below_alloc w1 o) hb1)
  rcases hc with ⟨rfl, rfl⟩ | ⟨rfl, rfl⟩ | ⟨rfl, rfl⟩

  · go_wp2_with (at_builtin; refine run_ob rfl _ _ rfl rfl (OA _) 1 rfl rfl hA0 (zA _) (hr1 0 ⟨[], rfl⟩) ?_)
    intro v2 w2 ho2 g2
    go_wp2_with fail
    go_ret
    exact ⟨v2, rfl, ho2, (gA _).trans g2⟩
  · have q1 := hr1 1 ⟨_, rfl⟩
    go_wp2_with (at_builtin; refine run_ob rfl _ _ rfl rfl (OA _) 1 rfl rfl hA1 (zA _) q1 ?_)
    intro v2 w2 ho2 g2
    have g2' := (Grows.of_below (below_alloc w1 (.cells #[.int .u8 1] 5)) hb1).trans g2
    have H2 := g2'.calm S _ _ H1 (by decide)
    have b0 := heap_cell H2 0
    simp at b0
    go_wp2_with fail
    refine (hT v2 _ w2 ho2 (Nat.le_trans hb1 g2'.size) (by simpa using hr)).mono ?_; rintro e w3 ⟨v3, rfl, ho3, g3⟩
    go_wp2_with fail
    go_ret
    exact ⟨v3, rfl, by simpa using ho3, (G1.trans g2').trans g3⟩
  · have q1 := hr1 2 ⟨_, rfl⟩
    go_wp2_with (at_builtin; refine run_ob rfl _ _ rfl rfl (OA _) 1 rfl rfl hA2 (zA _) q1 ?_)
    intro v2 w2 ho2 g2
    have g2' := (Grows.of_below (below_alloc w1 (.cells #[.int .u8 2] 5)) hb1).trans g2
    have H2 := g2'.calm S _ _ H1 (by decide)
    have b1 := heap_cell H2 1; have b2 := heap_cell H2 2; have b3 := heap_cell H2 3
    simp at b1 b2 b3
    go_wp2_with fail
    refine (hC v2 _ w2 ho2 (Nat.le_trans hb1 g2'.size) (by simpa using hr)).mono ?_; rintro e w3 ⟨v3, rfl, ho3, g3⟩
    go_wp2_with fail
    go_ret
    exact ⟨v3, rfl, by simpa using ho3, (G1.trans g2').trans g3⟩
end Go.Proofs.Ytghhdbkgibpebaa
