/-
  CodeSames, walked: whether two facts, and two rules, are the same, is the document's.
-/
import Derived.Test.YtghhdbkgibpebaaRs2
import Derived.Test.YtghhdbkgibpebaaLive5
import Derived.Test.YtghhdbkgibpebaaOpenR
import Derived.Test.YtghhdbkgibpebaaQb
namespace Go.Proofs.Ytghhdbkgibpebaa
open Go.ChangeShapes Go.WideShapes Go.ChangeAt Go.RowKit Go.Sort

theorem okWide_arr {P : Program} {w : World} {r : Reach} {base : Nat} {t e : TypeId} {n : Nat} {v : Value} (ht : P.underlying t = some (.array n e)) (h : Value.okWide P w r base t v) : ∃ cs, v = .agg cs ∧ cs.size = P.cellsOf t := by
  simp only [Value.okWide, ht] at h
  obtain ⟨cs, h1, h2, _⟩ := h
  exact ⟨cs, h1, h2⟩
theorem Try.cellsTwo : Try.prog.cellsOf 56 = 22 := by kernel_rfl
set_option maxRecDepth 100000 in
theorem open_two {H : Type} {enc : TypeId × Value → H} {W : World} {base : Nat} {v : Value} {d : DataW H} {p : List MemPlace} (hw : ∀ n ∈ d.weights Try.prog 56, n ≤ reachBytes) (hv : Value.okWide Try.prog W .any base 56 v) (ht : DataW.Trod enc Try.prog W 0 (fun _ => true) true 56 v d p) :
    ∃ x y : Rv, v = .agg (rv x ++ rv y).toArray ∧ Rv.At W x ∧ Rv.At W y := by
  obtain ⟨cs, rfl, hs⟩ := okWide_arr Try.underlying56 hv
  obtain ⟨fuel, hf⟩ := ht
  obtain ⟨xs, m, _, hx, hl, hlen, he⟩ := DataW.trod_array Try.underlying56 hf
  obtain ⟨q0, q1, rfl⟩ := two2 hlen
  rw [Try.cellsTwo] at hl
  rw [Try.cellsR] at he
  simp only [Prod.mk.injEq] at hx
  have hwt : ∀ q ∈ [q0, q1], ∀ n ∈ q.1.weights Try.prog 55, n ≤ reachBytes := fun q hq n hn => hw n (by
    rw [hx.1, DataW.weights]
    simp only [Try.underlying56]
    exact weightsAll_mem (d := q.1) (List.mem_map.2 ⟨q, hq, rfl⟩) n hn)
  obtain ⟨x, e0, hX, _⟩ := cells_rule (he 0 (by omega)) (hwt q0 (by simp))
  obtain ⟨y, e1, hY, _⟩ := cells_rule (he 1 (by omega)) (hwt q1 (by simp))
  refine ⟨x, y, ?_, hX, hY⟩
  simp only [Value.cells] at e0 e1 hl
  have : cs.toList = rv x ++ rv y := by
    rw [← e0, ← e1]
    simp only [Nat.zero_mul, List.drop_zero, Nat.one_mul]
    rw [List.take_of_length_le (l := cs.toList.drop 11) (by rw [List.length_drop]; omega), List.take_append_drop]
  rw [← this]

set_option maxRecDepth 100000 in
set_option maxHeartbeats 8000000 in
theorem codeSames_walk (f g : Fv) (x y : Rv) (w : World) (hf : Fv.At w f) (hg : Fv.At w g) (hx : Rv.At w x) (hy : Rv.At w y) :
    Calls Try.prog 6 #[f.val, g.val, .agg (rv x ++ rv y).toArray] w fun e w' => e = .returned (.bool true) ∧ Below w.heap.size w w' := by
  have mixed : Try.prog.follows .mixedOrders = true := by kernel_rfl
  have hV := fun (W : World) => live5_at W
  have hself : sameR x.r x.r = true := (sameR_iff _ _).2 rfl
  have hA := fun W (h : Below w.heap.size w W) => sameRule_at x y W (hx.below h (Nat.le_refl _)) (hy.below h (Nat.le_refl _))
  have hB := fun W (h : Below w.heap.size w W) => rsameRule_at x y W (hx.below h (Nat.le_refl _)) (hy.below h (Nat.le_refl _))
  have hC := fun W (h : Below w.heap.size w W) => sameRule_at x x W (hx.below h (Nat.le_refl _)) (hx.below h (Nat.le_refl _))
  have hD := fun W (h : Below w.heap.size w W) => sameFact_at f g W (hf.below h (Nat.le_refl _)) (hg.below h (Nat.le_refl _))
  have hE := fun W (h : Below w.heap.size w W) => reforder_at f g W (hf.below h (Nat.le_refl _)) (hg.below h (Nat.le_refl _))
  rw [hself] at hC
  generalize sameR x.r y.r = s at *
  generalize cF f.f g.f = r at *
  clear hf hg hx hy hself
  obtain ⟨x1, x2, x3, xa, xc, xk⟩ := f; obtain ⟨y1, y2, y3, ya, yc, yk⟩ := g
  obtain ⟨⟨v1, ⟨a1, b1, c1⟩⟩, p, ad, cap, ts, ⟨v2, ⟨a2, b2, c2⟩⟩, ba, bc, ls⟩ := x
  obtain ⟨⟨v3, ⟨a3, b3, c3⟩⟩, p', ad', cap', ts', ⟨v4, ⟨a4, b4, c4⟩⟩, ba', bc', ls'⟩ := y
  show Calls _ _ #[_, _, .agg #[str v1, .bool a1, .int .i64 b1, str c1, str p, .slice ad ts.length cap, str v2, .bool a2, .int .i64 b2, str c2, .slice ba ls.length bc, str v3, .bool a3, .int .i64 b3, str c3, str p', .slice ad' ts'.length cap', str v4, .bool a4, .int .i64 b4, str c4, .slice ba' ls'.length bc']] _ _
  go_enter Try.func6, Try.ntmps6
  go_wp2_with fail
  have B2 := Below.then (Below.then (below_alloc w (.cells #[str x1, str x2, str x3, .slice xa xk.length xc] 24)) (below_alloc _ (.cells #[str y1, str y2, str y3, .slice ya yk.length yc] 24))) (below_alloc _ (.cells #[str v1, .bool a1, .int .i64 b1, str c1, str p, .slice ad ts.length cap, str v2, .bool a2, .int .i64 b2, str c2, .slice ba ls.length bc, str v3, .bool a3, .int .i64 b3, str c3, str p', .slice ad' ts'.length cap', str v4, .bool a4, .int .i64 b4, str c4, .slice ba' ls'.length bc'] 56))
  have H1 := below_heap (below_alloc _ (.cells #[str v1, .bool a1, .int .i64 b1, str c1, str p, .slice ad ts.length cap, str v2, .bool a2, .int .i64 b2, str c2, .slice ba ls.length bc, str v3, .bool a3, .int .i64 b3, str c3, str p', .slice ad' ts'.length cap', str v4, .bool a4, .int .i64 b4, str c4, .slice ba' ls'.length bc'] 56)) (below_heap (below_alloc _ (.cells #[str y1, str y2, str y3, .slice ya yk.length yc] 24)) (heap_alloc_new w (.cells #[str x1, str x2, str x3, .slice xa xk.length xc] 24)))
  have H2 := below_heap (below_alloc _ (.cells #[str v1, .bool a1, .int .i64 b1, str c1, str p, .slice ad ts.length cap, str v2, .bool a2, .int .i64 b2, str c2, .slice ba ls.length bc, str v3, .bool a3, .int .i64 b3, str c3, str p', .slice ad' ts'.length cap', str v4, .bool a4, .int .i64 b4, str c4, .slice ba' ls'.length bc'] 56)) (heap_alloc_new (w.alloc (.cells #[str x1, str x2, str x3, .slice xa xk.length xc] 24)) (.cells #[str y1, str y2, str y3, .slice ya yk.length yc] 24))
  have H3 := heap_alloc_new ((w.alloc (.cells #[str x1, str x2, str x3, .slice xa xk.length xc] 24)).alloc (.cells #[str y1, str y2, str y3, .slice ya yk.length yc] 24)) (.cells #[str v1, .bool a1, .int .i64 b1, str c1, str p, .slice ad ts.length cap, str v2, .bool a2, .int .i64 b2, str c2, .slice ba ls.length bc, str v3, .bool a3, .int .i64 b3, str c3, str p', .slice ad' ts'.length cap', str v4, .bool a4, .int .i64 b4, str c4, .slice ba' ls'.length bc'] 56)
  rw [show (w.alloc (.cells #[str x1, str x2, str x3, .slice xa xk.length xc] 24)).heap.size = w.heap.size + 1 by simp] at H2
  rw [show ((w.alloc (.cells #[str x1, str x2, str x3, .slice xa xk.length xc] 24)).alloc (.cells #[str y1, str y2, str y3, .slice ya yk.length yc] 24)).heap.size = w.heap.size + 1 + 1 by simp] at H3
  generalize ((w.alloc (.cells #[str x1, str x2, str x3, .slice xa xk.length xc] 24)).alloc (.cells #[str y1, str y2, str y3, .slice ya yk.length yc] 24)).alloc (.cells #[str v1, .bool a1, .int .i64 b1, str c1, str p, .slice ad ts.length cap, str v2, .bool a2, .int .i64 b2, str c2, .slice ba ls.length bc, str v3, .bool a3, .int .i64 b3, str c3, str p', .slice ad' ts'.length cap', str v4, .bool a4, .int .i64 b4, str c4, .slice ba' ls'.length bc'] 56) = w2 at *
  have hA' := fun q : BelowBy w2 => hA q.w (Below.then B2 q.h)
  have hB' := fun q : BelowBy w2 => hB q.w (Below.then B2 q.h)
  have hC' := fun q : BelowBy w2 => hC q.w (Below.then B2 q.h)
  have hD' := fun q : BelowBy w2 => hD q.w (Below.then B2 q.h)
  have hE' := fun q : BelowBy w2 => hE q.w (Below.then B2 q.h)
  clear hA hB hC hD hE
  have f0 : w2.cell? ⟨w.heap.size, 0, none⟩ = some (str x1) := by rw [heap_cell H1]; rfl
  have f1 : w2.cell? ⟨w.heap.size, 1, none⟩ = some (str x2) := by rw [heap_cell H1]; rfl
  have f2 : w2.cell? ⟨w.heap.size, 2, none⟩ = some (str x3) := by rw [heap_cell H1]; rfl
  have f3 : w2.cell? ⟨w.heap.size, 3, none⟩ = some (.slice xa xk.length xc) := by rw [heap_cell H1]; rfl
  have g0 : w2.cell? ⟨w.heap.size + 1, 0, none⟩ = some (str y1) := by rw [heap_cell H2]; rfl
  have g1 : w2.cell? ⟨w.heap.size + 1, 1, none⟩ = some (str y2) := by rw [heap_cell H2]; rfl
  have g2 : w2.cell? ⟨w.heap.size + 1, 2, none⟩ = some (str y3) := by rw [heap_cell H2]; rfl
  have g3 : w2.cell? ⟨w.heap.size + 1, 3, none⟩ = some (.slice ya yk.length yc) := by rw [heap_cell H2]; rfl
  have h0 : w2.cell? ⟨w.heap.size + 1 + 1, 0, none⟩ = some (str v1) := by rw [heap_cell H3]; rfl
  have h1 : w2.cell? ⟨w.heap.size + 1 + 1, 1, none⟩ = some (.bool a1) := by rw [heap_cell H3]; rfl
  have h2 : w2.cell? ⟨w.heap.size + 1 + 1, 2, none⟩ = some (.int .i64 b1) := by rw [heap_cell H3]; rfl
  have h3 : w2.cell? ⟨w.heap.size + 1 + 1, 3, none⟩ = some (str c1) := by rw [heap_cell H3]; rfl
  have h4 : w2.cell? ⟨w.heap.size + 1 + 1, 4, none⟩ = some (str p) := by rw [heap_cell H3]; rfl
  have h5 : w2.cell? ⟨w.heap.size + 1 + 1, 5, none⟩ = some (.slice ad ts.length cap) := by rw [heap_cell H3]; rfl
  have h6 : w2.cell? ⟨w.heap.size + 1 + 1, 6, none⟩ = some (str v2) := by rw [heap_cell H3]; rfl
  have h7 : w2.cell? ⟨w.heap.size + 1 + 1, 7, none⟩ = some (.bool a2) := by rw [heap_cell H3]; rfl
  have h8 : w2.cell? ⟨w.heap.size + 1 + 1, 8, none⟩ = some (.int .i64 b2) := by rw [heap_cell H3]; rfl
  have h9 : w2.cell? ⟨w.heap.size + 1 + 1, 9, none⟩ = some (str c2) := by rw [heap_cell H3]; rfl
  have h10 : w2.cell? ⟨w.heap.size + 1 + 1, 10, none⟩ = some (.slice ba ls.length bc) := by rw [heap_cell H3]; rfl
  have h11 : w2.cell? ⟨w.heap.size + 1 + 1, 11, none⟩ = some (str v3) := by rw [heap_cell H3]; rfl
  have h12 : w2.cell? ⟨w.heap.size + 1 + 1, 12, none⟩ = some (.bool a3) := by rw [heap_cell H3]; rfl
  have h13 : w2.cell? ⟨w.heap.size + 1 + 1, 13, none⟩ = some (.int .i64 b3) := by rw [heap_cell H3]; rfl
  have h14 : w2.cell? ⟨w.heap.size + 1 + 1, 14, none⟩ = some (str c3) := by rw [heap_cell H3]; rfl
  have h15 : w2.cell? ⟨w.heap.size + 1 + 1, 15, none⟩ = some (str p') := by rw [heap_cell H3]; rfl
  have h16 : w2.cell? ⟨w.heap.size + 1 + 1, 16, none⟩ = some (.slice ad' ts'.length cap') := by rw [heap_cell H3]; rfl
  have h17 : w2.cell? ⟨w.heap.size + 1 + 1, 17, none⟩ = some (str v4) := by rw [heap_cell H3]; rfl
  have h18 : w2.cell? ⟨w.heap.size + 1 + 1, 18, none⟩ = some (.bool a4) := by rw [heap_cell H3]; rfl
  have h19 : w2.cell? ⟨w.heap.size + 1 + 1, 19, none⟩ = some (.int .i64 b4) := by rw [heap_cell H3]; rfl
  have h20 : w2.cell? ⟨w.heap.size + 1 + 1, 20, none⟩ = some (str c4) := by rw [heap_cell H3]; rfl
  have h21 : w2.cell? ⟨w.heap.size + 1 + 1, 21, none⟩ = some (.slice ba' ls'.length bc') := by rw [heap_cell H3]; rfl
  have F0 := cell_kept f0; have G0 := cell_kept g0
  have F1 := cell_kept f1; have G1 := cell_kept g1
  have F2 := cell_kept f2; have G2 := cell_kept g2
  have F3 := cell_kept f3; have G3 := cell_kept g3
  have K0 := cell_kept h0
  have K1 := cell_kept h1
  have K2 := cell_kept h2
  have K3 := cell_kept h3
  have K4 := cell_kept h4
  have K5 := cell_kept h5
  have K6 := cell_kept h6
  have K7 := cell_kept h7
  have K8 := cell_kept h8
  have K9 := cell_kept h9
  have K10 := cell_kept h10
  have K11 := cell_kept h11
  have K12 := cell_kept h12
  have K13 := cell_kept h13
  have K14 := cell_kept h14
  have K15 := cell_kept h15
  have K16 := cell_kept h16
  have K17 := cell_kept h17
  have K18 := cell_kept h18
  have K19 := cell_kept h19
  have K20 := cell_kept h20
  have K21 := cell_kept h21
  clear f0 g0 f1 g1 f2 g2 f3 g3 h0 h1 h2 h3 h4 h5 h6 h7 h8 h9 h10 h11 h12 h13 h14 h15 h16 h17 h18 h19 h20 h21 H1 H2 H3
  have hr : (decide (r = 0) == (r == 0)) = true := by by_cases h : r = 0 <;> simp [h]
  haveI : Inhabited (BelowBy w2) := ⟨⟨w2, Below.refl _ _⟩⟩
  refine wp_region_quiet_below (by assumption) (by kernel_rfl) ?_
  repeat (quiet_step (first
    | (go_at_call 26; refine Calls.below_of_grew (hD' _))
    | (go_at_call 17; refine Calls.below_of_grew (hE' _))
    | (go_at_call_of 27 [Value.agg #[str v3, Value.bool a3, Value.int IntKind.i64 b3, str c3, str p', Value.slice ad' ts'.length cap', str v4, Value.bool a4, Value.int IntKind.i64 b4, str c4, Value.slice ba' ls'.length bc']]; refine Calls.below_of (hA' _))
    | (go_at_call 28; refine Calls.below_of (hB' _))
    | (go_at_call 27; refine Calls.below_of (hC' _))
    | (go_at_call 10; refine Calls.below_of (hV _))))
  refine wpQuiet_nil ?_
  intro _ hw'
  obtain ⟨⟨w3, hb3⟩, rfl⟩ := hw'
  go_wp2_with fail
  go_ret
  exact ⟨rfl, Below.then B2 hb3⟩
end Go.Proofs.Ytghhdbkgibpebaa
