/-
  The reference lays numbers, texts, constants and facts.
-/
import Derived.Test.YtghhdbkgibpebaaLen5
import Derived.Deep.RegionHeld3
namespace Go.Proofs.Ytghhdbkgibpebaa
open Go.RowKit Go.Sort

theorem rputInt5_at (base : Nat) (v : Value) (l : List UInt8) (n : Int) (w : World) (hown : OwnB w base v l) (hbase : base ≤ w.heap.size) (h0 : -9223372036854775808 ≤ n) (h1 : n ≤ 9223372036854775807) (hr : (l ++ intB n).length ≤ 100000000000000) :
    Calls Try.prog 33 #[v, .int .i64 n] w fun e w' => ∃ v', e = .returned v' ∧ OwnB w' base v' (l ++ intB n) ∧ Grows base w w' := by
  obtain ⟨a, c, rfl, hh, _⟩ := hown.holds
  have hl : l.length ≤ 100000000000000 := by rw [List.length_append] at hr; omega
  refine (rputInt_ex a l.length c _ l _ n w rfl hh (by omega) h0 h1 rfl rfl).mono ?_
  rintro e w' ⟨g, cap, rfl, ho, hb⟩
  exact ⟨_, rfl, (OwnB.of_own ho).lower hbase, Grows.of_below hb hbase⟩
theorem rputText5_at (base : Nat) (v : Value) (l s : List UInt8) (w : World) (hown : OwnB w base v l) (hbase : base ≤ w.heap.size) (hr : (l ++ textB s).length ≤ 100000000000000) :
    Calls Try.prog 32 #[v, str s] w fun e w' => ∃ v', e = .returned v' ∧ OwnB w' base v' (l ++ textB s) ∧ Grows base w w' := by
  obtain ⟨a, c, rfl, hh, _⟩ := hown.holds
  have hl : l.length + s.length ≤ 100000000000000 := by unfold textB at hr; simp only [List.length_append] at hr; omega
  refine (rputText_ex a l.length c _ l s (l ++ textB s) w rfl hh (by omega) (by unfold textB; rw [List.append_assoc]) rfl).mono ?_
  rintro e w' ⟨g, cap, rfl, ho, hb⟩
  exact ⟨_, rfl, (OwnB.of_own ho).lower hbase, Grows.of_below hb hbase⟩

set_option maxRecDepth 100000 in
set_option maxHeartbeats 4000000 in
theorem rputConst_at (base : Nat) (v : Value) (l : List UInt8) (k : K) (w : World) (hown : OwnB w base v l) (hbase : base ≤ w.heap.size) (hk : KIn k) (hr : (l ++ constB k).length ≤ 100000000000000) :
    Calls Try.prog 34 #[v, kval k] w fun e w' => ∃ v', e = .returned v' ∧ OwnB w' base v' (l ++ constB k) ∧ Grows base w w' := by
  have mixed : Try.prog.follows .mixedOrders = true := by kernel_rfl
  obtain ⟨nm, n, s⟩ := k
  obtain ⟨h0, h1⟩ := hk
  simp only at h0 h1
  cases nm
  · have hB : l ++ constB ⟨false, n, s⟩ = l ++ [1] ++ textB s := by simp [constB]
    rw [hB] at hr ⊢
    have hr1 : (l ++ [(1 : UInt8)]).length ≤ 100000000000000 := by simp only [List.length_append] at hr ⊢; omega
    have hC := fun (v : Value) (W : World) (h : OwnB W base v (l ++ [1])) (hb : base ≤ W.heap.size) => rputText5_at base v (l ++ [1]) s W h hb hr
    go_enter Try.func34, Try.ntmps34
    go_wp2_with fail
    have H0 := heap_alloc_new w (.cells #[.bool false, .int .i64 n, str s] 49)
    have B0 := below_alloc w (.cells #[.bool false, .int .i64 n, str s] 49)
    have O0 := hown.below B0
    have z0 := B0.size
    generalize w.alloc (.cells #[.bool false, .int .i64 n, str s] 49) = w0 at *
    have BD : Below w0.heap.size w0 w0.drew := (Below.refl _ _).drew
    have BA := Below.then BD (below_alloc w0.drew (.cells #[.int .u8 1] 5))
    have OA := O0.below BA
    have hA := holds_new w0.drew [1] #[.int .u8 1] 5 rfl
    have zA : base ≤ (w0.drew.alloc (.cells #[.int .u8 1] 5)).heap.size := Nat.le_trans hbase (Nat.le_trans z0 BA.size)
    have gA : Grows base w0 (w0.drew.alloc (.cells #[.int .u8 1] 5)) := Grows.of_below BA (Nat.le_trans hbase z0)
    have gD : Grows base w0 w0.drew := Grows.of_below BD (Nat.le_trans hbase z0)
    have g0 : Grows base w w0 := Grows.of_below B0 hbase
    have kk : ∀ W, Grows base w0 W → W.cell? ⟨w.heap.size, 2, none⟩ = some (str s) := fun W h => h.cell H0 (by decide) 2 rfl
    go_region_held3 (fun W => W.cell? ⟨w.heap.size, 2, none⟩ = some (str s)) (first | exact kk _ gD | exact kk _ gA | exact kk _ g1 | exact kk _ g2)
      (first
        | (refine step_ob (by rfl) _ _ rfl base v l [1] ⟨w0.drew.heap.size, 0, none⟩ 1 1 rfl OA rfl rfl hA zA (Nat.le_trans hr1 (by decide)) ?_; intro v1 w1 o1 b1; have g1 := gA.trans b1)
        | (go_at_call 32; refine (hC v1 w1 o1 (Nat.le_trans zA b1.size)).mono ?_; rintro e w2 ⟨v2, rfl, o2, b2⟩; have g2 := g1.trans b2))
    go_wp2_with fail
    go_ret
    exact ⟨v2, rfl, o2, g0.trans g2⟩
  · have hB : l ++ constB ⟨true, n, s⟩ = l ++ [0] ++ intB n := by simp [constB]
    rw [hB] at hr ⊢
    have hr1 : (l ++ [(0 : UInt8)]).length ≤ 100000000000000 := by simp only [List.length_append] at hr ⊢; omega
    have hC := fun (v : Value) (W : World) (h : OwnB W base v (l ++ [0])) (hb : base ≤ W.heap.size) => rputInt5_at base v (l ++ [0]) n W h hb h0 h1 hr
    go_enter Try.func34, Try.ntmps34
    go_wp2_with fail
    have H0 := heap_alloc_new w (.cells #[.bool true, .int .i64 n, str s] 49)
    have B0 := below_alloc w (.cells #[.bool true, .int .i64 n, str s] 49)
    have O0 := hown.below B0
    have z0 := B0.size
    generalize w.alloc (.cells #[.bool true, .int .i64 n, str s] 49) = w0 at *
    have BD : Below w0.heap.size w0 w0.drew := (Below.refl _ _).drew
    have BA := Below.then BD (below_alloc w0.drew (.cells #[.int .u8 0] 5))
    have OA := O0.below BA
    have hA := holds_new w0.drew [0] #[.int .u8 0] 5 rfl
    have zA : base ≤ (w0.drew.alloc (.cells #[.int .u8 0] 5)).heap.size := Nat.le_trans hbase (Nat.le_trans z0 BA.size)
    have gA : Grows base w0 (w0.drew.alloc (.cells #[.int .u8 0] 5)) := Grows.of_below BA (Nat.le_trans hbase z0)
    have gD : Grows base w0 w0.drew := Grows.of_below BD (Nat.le_trans hbase z0)
    have g0 : Grows base w w0 := Grows.of_below B0 hbase
    have kk : ∀ W, Grows base w0 W → W.cell? ⟨w.heap.size, 1, none⟩ = some (.int .i64 n) := fun W h => h.cell H0 (by decide) 1 rfl
    go_region_held3 (fun W => W.cell? ⟨w.heap.size, 1, none⟩ = some (.int .i64 n)) (first | exact kk _ gD | exact kk _ gA | exact kk _ g1 | exact kk _ g2)
      (first
        | (refine step_ob (by rfl) _ _ rfl base v l [0] ⟨w0.drew.heap.size, 0, none⟩ 1 1 rfl OA rfl rfl hA zA (Nat.le_trans hr1 (by decide)) ?_; intro v1 w1 o1 b1; have g1 := gA.trans b1)
        | (go_at_call 33; refine (hC v1 w1 o1 (Nat.le_trans zA b1.size)).mono ?_; rintro e w2 ⟨v2, rfl, o2, b2⟩; have g2 := g1.trans b2))
    go_wp2_with fail
    go_ret
    exact ⟨v2, rfl, o2, g0.trans g2⟩

set_option maxRecDepth 100000 in
set_option maxHeartbeats 4000000 in
theorem rputFact_at (a : Option Addr) (c : Nat) (l : List UInt8) (x : Fv) (w : World) (ha : Holds w a c l) (hx : Fv.At w x) (hi : ∀ k ∈ x.ks, KIn k) (hl : l.length ≤ 10000000000000) :
    Calls Try.prog 13 #[.slice a l.length c, x.val] w fun e w' => ∃ v', e = .returned (.tuple #[v', errno (okB x.f)]) ∧ OwnB w' w.heap.size v' (bif okB x.f then l ++ factB x.f else l) ∧ Below w.heap.size w w' := by
  have hC := fun W (h : Below w.heap.size w W) => refcheck_at x W (hx.below h (Nat.le_refl _))
  have hT := fun (v : Value) (l s : List UInt8) (W : World) (h : OwnB W w.heap.size v l) (hb : w.heap.size ≤ W.heap.size) (hr : (l ++ textB s).length ≤ 100000000000000) => rputText5_at w.heap.size v l s W h hb hr
  have hfl := fun (hok : okB x.f = true) => fact_len (f := x.f) hi hok
  have hfB : l ++ factB x.f = l ++ textB x.at_ ++ textB x.by_ ++ textB x.pred ++ intB (x.ks.length : Int) ++ x.ks.flatMap constB := by simp [factB, listB, Fv.f, List.append_assoc]
  simp only [errno] at hC ⊢
  have hlen2 : okB x.f = true → (l ++ textB x.at_ ++ textB x.by_ ++ textB x.pred ++ intB (x.ks.length : Int) ++ x.ks.flatMap constB).length ≤ 100000000000000 := fun h => by
    rw [← hfB, List.length_append]; have := hfl h; omega
  rw [hfB]
  have hks := hx.row
  clear hfB hfl
  generalize okB x.f = ok at *
  obtain ⟨x1, x2, x3, xa, xc, xk⟩ := x
  simp only at hlen2 hi hks
  have few := hks.few
  have hK := fun (k : K) (hk : k ∈ xk) (v : Value) (l : List UInt8) (W : World) (h : OwnB W w.heap.size v l) (hb : w.heap.size ≤ W.heap.size) (hr : (l ++ constB k).length ≤ 100000000000000) => rputConst_at w.heap.size v l k W h hb (hi k hk) hr
  go_enter Try.func13, Try.ntmps13
  have B0 := Below.then (below_alloc w (.cells #[str x1, str x2, str x3, .slice xa xk.length xc] 24)) (below_alloc _ (.cells #[] 5))
  have H0 := below_heap (below_alloc _ (.cells #[] 5)) (heap_alloc_new w (.cells #[str x1, str x2, str x3, .slice xa xk.length xc] 24))
  have O0 := own_new (w.alloc (.cells #[str x1, str x2, str x3, .slice xa xk.length xc] 24)) [] #[] rfl (by unfold maxLen; simp)
  have S0 : (w.alloc (.cells #[str x1, str x2, str x3, .slice xa xk.length xc] 24)).heap.size = w.heap.size + 1 := by simp
  have O1 : OwnB ((w.alloc (.cells #[str x1, str x2, str x3, .slice xa xk.length xc] 24)).alloc (.cells #[] 5)) w.heap.size (.slice (some ⟨w.heap.size + 1, 0, none⟩) 0 0) [] := by
    have := (OwnB.of_own O0).lower (base' := w.heap.size) (by omega)
    rw [S0] at this; exact this
  go_wp2_with (at_builtin; refine run_ob rfl _ _ rfl rfl O1 l.length rfl rfl (ha.below B0) B0.size (by simp; omega) ?_)
  intro v1 w1 o1 g1
  have o1' : OwnB w1 w.heap.size v1 l := o1
  have H1 := g1.calm _ _ _ H0 (by decide)
  have B1 := B0.trans g1.below
  clear H0 B0 g1 ha O0 O1 S0 o1
  have b0 := heap_cell H1 0; have b1 := heap_cell H1 1; have b2 := heap_cell H1 2; have b3 := heap_cell H1 3
  simp at b0 b1 b2 b3
  go_wp2_with fail
  refine (hC _ B1).mono ?_; rintro e w2 ⟨rfl, hb2⟩
  have o2 := o1'.below hb2
  have H2 := below_heap hb2 H1
  have B2 := B1.trans (hb2.mono B1.size)
  clear b0 b1 b2 b3 o1' H1 B1 hb2 hC
  have b0 := heap_cell H2 0; have b1 := heap_cell H2 1; have b2 := heap_cell H2 2; have b3 := heap_cell H2 3
  simp at b0 b1 b2 b3
  cases ok
  · go_wp2_with fail
    go_ret2
    exact ⟨v1, rfl, o2, B2⟩
  · have hL := hlen2 rfl
    have hr4 : (l ++ textB x1 ++ textB x2 ++ textB x3 ++ intB (xk.length : Int)).length ≤ 100000000000000 := by simp only [List.length_append] at hL ⊢; omega
    have hr3 : (l ++ textB x1 ++ textB x2 ++ textB x3).length ≤ 100000000000000 := by simp only [List.length_append] at hr4 ⊢; omega
    have hr2 : (l ++ textB x1 ++ textB x2).length ≤ 100000000000000 := by simp only [List.length_append] at hr3 ⊢; omega
    have hr1 : (l ++ textB x1).length ≤ 100000000000000 := by simp only [List.length_append] at hr2 ⊢; omega
    clear hlen2
    go_wp2_with fail
    refine (hT v1 l x1 w2 o2 B2.size hr1).mono ?_; rintro e w3 ⟨v3, rfl, o3, g3⟩
    have H3 := g3.calm _ _ _ H2 (by decide)
    have B3 := B2.trans g3.below
    clear b0 b1 b2 b3 H2 B2 g3
    have b1 := heap_cell H3 1
    simp at b1
    go_wp2_with fail
    refine (hT v3 _ x2 w3 o3 B3.size hr2).mono ?_; rintro e w4 ⟨v4, rfl, o4, g4⟩
    have H4 := g4.calm _ _ _ H3 (by decide)
    have B4 := B3.trans g4.below
    clear b1 H3 B3 g4
    have b2 := heap_cell H4 2
    simp at b2
    go_wp2_with fail
    refine (hT v4 _ x3 w4 o4 B4.size hr3).mono ?_; rintro e w5 ⟨v5, rfl, o5, g5⟩
    have H5 := g5.calm _ _ _ H4 (by decide)
    have B5 := B4.trans g5.below
    clear b2 H4 B4 g5
    have b3 := heap_cell H5 3
    simp at b3
    go_wp2_with fail
    refine (rputInt5_at w.heap.size v5 _ (xk.length : Int) w5 o5 B5.size (by omega) (by omega) hr4).mono ?_; rintro e w6 ⟨v6, rfl, o6, g6⟩
    have H6 := g6.calm _ _ _ H5 (by decide)
    have B6 := B5.trans g6.below
    clear b3 H5 B5 g6 hr1 hr2 hr3 hr4 hT
    generalize hLL : l ++ textB x1 ++ textB x2 ++ textB x3 ++ intB (xk.length : Int) = L at *
    have HLL := hideP hLL; clear hLL
    go_wp2_with fail
    go_loopw [6, 7] (fun v6 v7 wr => ∃ k : Nat, v7 = .int .i64 (k : Int) ∧ k ≤ xk.length ∧ OwnB wr w.heap.size v6 (L ++ (xk.take k).flatMap constB) ∧ wr.heap[w.heap.size]? = some (.cells #[str x1, str x2, str x3, .slice xa xk.length xc] 24) ∧ Below w.heap.size w wr) (fun _ v7 _ => xk.length - (intOf v7).toNat)
    case atStart => exact ⟨0, rfl, by omega, by simpa using o6, H6, B6⟩
    case round =>
      obtain ⟨k, rfl, hk, ho, HW, hb⟩ := hrel
      have b3 := heap_cell HW 3
      simp at b3
      by_cases hlt : k < xk.length
      · have q2 : (k : Int) < (xk.length : Int) := by omega
        obtain ⟨P1, O1, rfl⟩ := hks.addr (Nat.lt_of_le_of_lt (Nat.zero_le _) hlt)
        have hR := (hks.below hb (Nat.le_refl _)).range k hlt
        have hm := List.getElem_mem hlt
        have hst := hideP (take_bytes constB xk k hlt)
        have hl1 : (L ++ (xk.take k).flatMap constB ++ constB (xk[k]'hlt)).length ≤ 100000000000000 := by
          refine Nat.le_trans ?_ hL
          rw [List.append_assoc, ← take_bytes constB xk k hlt]
          have e : xk.flatMap constB = (xk.take (k + 1)).flatMap constB ++ (xk.drop (k + 1)).flatMap constB := by rw [← List.flatMap_append, List.take_append_drop]
          rw [e]; simp only [List.length_append]; omega
        generalize (xk[k]'hlt) = p at *
        have a1 := hR 0 _ rfl; have a2 := hR 1 _ rfl; have a3 := hR 2 _ rfl
        change wr.cell? ⟨P1, O1 + k * 3, none⟩ = some (.bool p.num) at a1
        change wr.cell? ⟨P1, O1 + k * 3 + 1, none⟩ = some (.int .i64 p.n) at a2
        change wr.cell? ⟨P1, O1 + k * 3 + 2, none⟩ = some (str p.s) at a3
        go_wp2_with fail
        refine (hK p hm _ _ wr ho hb.size hl1).mono ?_; rintro e w8 ⟨v8, rfl, o8, g8⟩
        go_wp2_with fail
        refine ⟨⟨k + 1, by simp, by omega, ?_, g8.calm _ _ _ HW (by decide), hb.trans g8.below⟩, by simp [intOf]; omega⟩
        rw [hst.out, ← List.append_assoc]; exact o8
      · have q2 : ¬ (k : Int) < (xk.length : Int) := by omega
        have e : xk.take k = xk := List.take_of_length_le (by omega)
        rw [e] at ho
        go_wp2_with fail
        go_ret2
        refine ⟨u6, rfl, ?_, hb⟩
        rw [← HLL.out] at ho
        simpa [List.append_assoc] using ho
end Go.Proofs.Ytghhdbkgibpebaa
