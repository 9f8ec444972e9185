/-
  How terms, literals, rules and slices of them that came in are opened.
-/
import Derived.Test.YtghhdbkgibpebaaOpen
namespace Go.Proofs.Ytghhdbkgibpebaa
open Go.ChangeShapes Go.WideShapes Go.ChangeAt Go.RowKit

theorem Try.cellsT : Try.prog.cellsOf 51 = 4 := by kernel_rfl
theorem Try.cellsTs : Try.prog.cellsOf 52 = 1 := by kernel_rfl
theorem Try.cellsL : Try.prog.cellsOf 80 = 10 := by kernel_rfl
theorem Try.cellsLs : Try.prog.cellsOf 53 = 1 := by kernel_rfl
theorem Try.cellsR : Try.prog.cellsOf 55 = 11 := by kernel_rfl
theorem Try.bytesT : Try.prog.bytesOf 51 = 48 := by kernel_rfl
theorem Try.bytesL : Try.prog.bytesOf 80 = 136 := by kernel_rfl
theorem Try.bytesR : Try.prog.bytesOf 55 = 160 := by kernel_rfl

theorem ten {l : List Value} (h : l.length = 10) : ∃ a0 a1 a2 a3 a4 a5 a6 a7 a8 a9, l = [a0, a1, a2, a3, a4, a5, a6, a7, a8, a9] := by
  match l, h with
  | [a0, a1, a2, a3, a4, a5, a6, a7, a8, a9], _ => exact ⟨a0, a1, a2, a3, a4, a5, a6, a7, a8, a9, rfl⟩
theorem eleven {l : List Value} (h : l.length = 11) : ∃ a0 a1 a2 a3 a4 a5 a6 a7 a8 a9 b0, l = [a0, a1, a2, a3, a4, a5, a6, a7, a8, a9, b0] := by
  match l, h with
  | [a0, a1, a2, a3, a4, a5, a6, a7, a8, a9, b0], _ => exact ⟨a0, a1, a2, a3, a4, a5, a6, a7, a8, a9, b0, rfl⟩
theorem trod_struct5 {H : Type} {enc : TypeId × Value → H} {P : Program} {w : World} {base : Nat} {spare : Nat → Bool} {held : Bool} {t : TypeId} {f0 f1 f2 f3 f4 : Field} {fuel : Nat} {cs : List Value} {x : DataW H × List MemPlace} (ht : P.underlying t = some (.struct #[f0, f1, f2, f3, f4])) (h : DataW.trod enc P w base spare held fuel t cs = some x) :
    ∃ y0 y1 y2 y3 y4 n, x.1 = .agg [y0.1, y1.1, y2.1, y3.1, y4.1] ∧ cs.length = P.cellsOf t ∧ DataW.trod enc P w base spare held n f0.type ((cs.drop f0.offset).take (P.cellsOf f0.type)) = some y0 ∧
      DataW.trod enc P w base spare held n f1.type ((cs.drop f1.offset).take (P.cellsOf f1.type)) = some y1 ∧ DataW.trod enc P w base spare held n f2.type ((cs.drop f2.offset).take (P.cellsOf f2.type)) = some y2 ∧
      DataW.trod enc P w base spare held n f3.type ((cs.drop f3.offset).take (P.cellsOf f3.type)) = some y3 ∧ DataW.trod enc P w base spare held n f4.type ((cs.drop f4.offset).take (P.cellsOf f4.type)) = some y4 := by
  obtain ⟨xs, n, _, rfl, hl, hlen, hf⟩ := DataW.trod_struct ht h
  match xs, hlen with
  | [y0, y1, y2, y3, y4], _ => exact ⟨y0, y1, y2, y3, y4, n, by simp, hl, by simpa using hf 0 f0 rfl, by simpa using hf 1 f1 rfl, by simpa using hf 2 f2 rfl, by simpa using hf 3 f3 rfl, by simpa using hf 4 f4 rfl⟩

theorem cells_term {H : Type} {enc : TypeId × Value → H} {W : World} {fuel : Nat} {cs : List Value} {x : DataW H × List MemPlace} (h : DataW.trod enc Try.prog W 0 (fun _ => true) true fuel 51 cs = some x) : ∃ t : Tm, cs = tv t ∧ KIn t.k := by
  obtain ⟨y0, y1, n, _, hl, h0, h1⟩ := trod_struct2 Try.underlying51 h
  rw [Try.cellsT] at hl
  obtain ⟨c0, c1, c2, c3, rfl⟩ := four4 hl
  simp only [Try.cellsK, Try.cellsS, List.drop_zero, List.drop_succ_cons, List.take_succ_cons, List.take_zero] at h0 h1
  obtain ⟨s, e0, _, _⟩ := DataW.trod_string Try.underlying9 h0
  obtain ⟨k, e1, hk⟩ := cells_const h1
  obtain ⟨l, hs⟩ := str_of s
  simp only [List.cons.injEq, and_true, kv] at e0 e1
  exact ⟨⟨l, k⟩, by rw [e0, e1.1, e1.2.1, e1.2.2, hs]; rfl, hk⟩
theorem cells_terms {H : Type} {enc : TypeId × Value → H} {W : World} {fuel : Nat} {cs : List Value} {x : DataW H × List MemPlace} (h : DataW.trod enc Try.prog W 0 (fun _ => true) true fuel 52 cs = some x) (hw : ∀ n ∈ x.1.weights Try.prog 52, n ≤ reachBytes) :
    ∃ a c xs, cs = [.slice a (List.length xs) c] ∧ Row tK W a c xs ∧ ∀ t ∈ xs, KIn t.k := by
  obtain ⟨a, c, xs, h1, h2, _, _, h3⟩ := cells_row tK 52 51 48 Try.underlying52 Try.cellsT Try.bytesT (by omega) (fun t : Tm => KIn t.k) (fun h _ => cells_term h) h hw
  exact ⟨a, c, xs, h1, h2, h3⟩
theorem cells_lit {H : Type} {enc : TypeId × Value → H} {W : World} {fuel : Nat} {cs : List Value} {x : DataW H × List MemPlace} (h : DataW.trod enc Try.prog W 0 (fun _ => true) true fuel 80 cs = some x) (hw : ∀ n ∈ x.1.weights Try.prog 80, n ≤ reachBytes) : ∃ v : Lv, cs = lv v ∧ (Lv.At W v ∧ LIn v.l) := by
  obtain ⟨y0, y1, y2, y3, n, rfl, hl, h0, h1, h2, h3⟩ := Joins.trod_struct4 Try.underlying80 h
  rw [Try.cellsL] at hl
  obtain ⟨a0, a1, a2, a3, a4, a5, a6, a7, a8, a9, rfl⟩ := ten hl
  simp only [Try.cellsT, Try.cellsTs, Try.cellsS, List.drop_zero, List.drop_succ_cons, List.take_succ_cons, List.take_zero] at h0 h1 h2 h3
  obtain ⟨t0, e0, k0⟩ := cells_term h0
  obtain ⟨s1, e1, _⟩ := DataW.trod_string Try.underlying9 h1
  obtain ⟨a, c, ts, e2, hA, k2⟩ := cells_terms h2 (fun n hn => hw n (by
    rw [DataW.weights]
    simp only [Try.underlying80, List.map_cons, List.map_nil, DataW.weightsEach, List.mem_append]
    exact .inr (.inr (.inl hn))))
  obtain ⟨t3, e3, k3⟩ := cells_term h3
  obtain ⟨l1, hs1⟩ := str_of s1
  simp only [List.cons.injEq, and_true, tv] at e0 e1 e2 e3
  exact ⟨⟨t0, l1, a, c, ts, t3⟩, by rw [e0.1, e0.2.1, e0.2.2.1, e0.2.2.2, e1, e2, e3.1, e3.2.1, e3.2.2.1, e3.2.2.2, hs1]; rfl, hA, k0, k3, k2⟩
theorem cells_rule {H : Type} {enc : TypeId × Value → H} {W : World} {fuel : Nat} {cs : List Value} {x : DataW H × List MemPlace} (h : DataW.trod enc Try.prog W 0 (fun _ => true) true fuel 55 cs = some x) (hw : ∀ n ∈ x.1.weights Try.prog 55, n ≤ reachBytes) : ∃ v : Rv, cs = rv v ∧ (Rv.At W v ∧ RIn v.r) := by
  obtain ⟨y0, y1, y2, y3, y4, n, hx, hl, h0, h1, h2, h3, h4⟩ := trod_struct5 Try.underlying55 h
  rw [hx] at hw
  rw [Try.cellsR] at hl
  obtain ⟨a0, a1, a2, a3, a4, a5, a6, a7, a8, a9, a10, rfl⟩ := eleven hl
  simp only [Try.cellsT, Try.cellsTs, Try.cellsLs, Try.cellsS, List.drop_zero, List.drop_succ_cons, List.take_succ_cons, List.take_zero] at h0 h1 h2 h3 h4
  obtain ⟨t0, e0, k0⟩ := cells_term h0
  obtain ⟨s1, e1, _⟩ := DataW.trod_string Try.underlying9 h1
  obtain ⟨a, c, ts, e2, hA, k2⟩ := cells_terms h2 (fun n hn => hw n (by
    rw [DataW.weights]
    simp only [Try.underlying55, List.map_cons, List.map_nil, DataW.weightsEach, List.mem_append]
    exact .inr (.inr (.inl hn))))
  obtain ⟨t3, e3, k3⟩ := cells_term h3
  obtain ⟨a', c', ls, e4, hL, _, _, k4⟩ := cells_row lK 53 80 136 Try.underlying53 Try.cellsL Try.bytesL (by omega) (fun v : Lv => Lv.At W v ∧ LIn v.l) (fun h hw => cells_lit h hw) h4 (fun n hn => hw n (by
    rw [DataW.weights]
    simp only [Try.underlying55, List.map_cons, List.map_nil, DataW.weightsEach, List.mem_append]
    exact .inr (.inr (.inr (.inr (.inl hn))))))
  obtain ⟨l1, hs1⟩ := str_of s1
  simp only [List.cons.injEq, and_true, tv] at e0 e1 e2 e3 e4
  refine ⟨⟨t0, l1, a, c, ts, t3, a', c', ls⟩, by rw [e0.1, e0.2.1, e0.2.2.1, e0.2.2.2, e1, e2, e3.1, e3.2.1, e3.2.2.1, e3.2.2.2, e4, hs1]; rfl, ⟨hA, hL, fun l hl => (k4 l hl).1⟩, k0, k3, k2, fun l hl => ?_⟩
  obtain ⟨v, hv, rfl⟩ := List.mem_map.1 hl
  exact (k4 v hv).2
set_option maxRecDepth 100000 in
theorem open_rules {H : Type} {enc : TypeId × Value → H} {W : World} {base : Nat} {v : Value} {d : DataW H} {p : List MemPlace} (hw : ∀ n ∈ d.weights Try.prog 38, n ≤ reachBytes) (hv : Value.okWide Try.prog W .any base 38 v) (ht : DataW.Trod enc Try.prog W 0 (fun _ => true) true 38 v d p) :
    ∃ a c xs, v = .slice a (List.length xs) c ∧ Row rK W a c xs ∧ (∀ x ∈ xs, Rv.At W x) ∧ ∀ x ∈ xs, RIn x.r := by
  obtain ⟨a, len, cap, rfl⟩ := okWide_slice Try.underlying38 hv
  obtain ⟨fuel, hf⟩ := ht
  obtain ⟨a', c', xs, h1, h2, _, _, h3⟩ := cells_row rK 38 55 160 Try.underlying38 Try.cellsR Try.bytesR (by omega) (fun v : Rv => Rv.At W v ∧ RIn v.r) (fun h hw => cells_rule h hw) hf hw
  simp only [Value.cells, List.cons.injEq, and_true] at h1
  exact ⟨a', c', xs, h1, h2, fun x hx => (h3 x hx).1, fun x hx => (h3 x hx).2⟩
set_option maxRecDepth 100000 in
theorem open_facts {H : Type} {enc : TypeId × Value → H} {W : World} {base : Nat} {v : Value} {d : DataW H} {p : List MemPlace} (hw : ∀ n ∈ d.weights Try.prog 27, n ≤ reachBytes) (hv : Value.okWide Try.prog W .any base 27 v) (ht : DataW.Trod enc Try.prog W 0 (fun _ => true) true 27 v d p) :
    ∃ a c xs, v = .slice a (List.length xs) c ∧ Lies W a c xs ∧ (∀ x ∈ xs, Fv.At W x) ∧ ∀ x ∈ xs, ∀ k ∈ x.ks, KIn k := by
  obtain ⟨a, len, cap, rfl⟩ := okWide_slice Try.underlying27 hv
  obtain ⟨fuel, hf⟩ := ht
  obtain ⟨a', c', xs, h1, h2, h3, h4, h5⟩ := cells_row fK 27 24 72 Try.underlying27 Try.cellsF Try.bytesF (by omega) (fun v : Fv => Fv.At W v ∧ ∀ k ∈ v.ks, KIn k) (fun h hw => cells_fact h hw) hf hw
  simp only [Value.cells, List.cons.injEq, and_true] at h1
  exact ⟨a', c', xs, h1, ⟨h2.room, h3, by unfold reachBytes at h4; omega, h2.void, h2.cells⟩, fun x hx => (h5 x hx).1, fun x hx => (h5 x hx).2⟩
/-- two rules, by value -/
theorem two2 {α : Type} {l : List α} (h : l.length = 2) : ∃ a b, l = [a, b] := by
  match l, h with
  | [a, b], _ => exact ⟨a, b, rfl⟩
end Go.Proofs.Ytghhdbkgibpebaa
