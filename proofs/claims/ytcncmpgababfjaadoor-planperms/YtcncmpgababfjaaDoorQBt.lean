/-
  A slice literal of two records.
-/
import Derived.Test.YtcncmpgababfjaaDoorQBs
namespace Go.Proofs.YtcncmpgababfjaaDoor
open Go.RowKit

theorem fold_splice_at (b : Nat) : ∀ (vs : List Value) (o : Nat) (C : Array Value), (vs.zipIdx o).foldl (fun cs x => cs.setIfInBounds (b + x.2) x.1) C = splice C (b + o) vs
  | [], _, _ => rfl
  | v :: r, o, C => by
    rw [List.zipIdx_cons, List.foldl_cons, splice, Nat.add_assoc, ← fold_splice_at b r (o + 1)]
theorem splice_mid : ∀ (vs a b c : List Value), b.length = vs.length → splice (a ++ (b ++ c)).toArray a.length vs = (a ++ (vs ++ c)).toArray
  | [], a, b, c, h => by
    have : b = [] := List.eq_nil_of_length_eq_zero h
    subst this; rfl
  | v :: r, a, [], c, h => by simp at h
  | v :: r, a, u :: b, c, h => by
    rw [splice]
    have e : (a ++ (u :: b ++ c)).toArray.setIfInBounds a.length v = ((a ++ [v]) ++ (b ++ c)).toArray := by
      rw [List.setIfInBounds_toArray]; congr 1
      rw [List.set_append_right _ _ (Nat.le_refl _)]; simp
    rw [e, show a.length + 1 = (a ++ [v]).length by simp, splice_mid r (a ++ [v]) b c (by simpa using h)]
    simp
theorem wpList_build_two {P : Program} {ops : Array Oper} {rest : List Oper} {o : Oper} {a : Act} {w : World} {Q : Exit → Act → World → Prop} (hg : o.guard = none) (t e : TypeId) (x y : Operand) (ho : o.op = .buildSlice t 2 #[(0, x), (1, y)])
    (vs us : List Value) (z : Value) (k bytes : Nat) (hx : a.eval x = .agg vs.toArray) (hy : a.eval y = .agg us.toArray) (hk : vs.length = k) (hk2 : us.length = k) (hk0 : 0 < k) (hk1 : k ≤ 1000)
    (hu : P.underlying t = some (.slice e)) (hi : (P.info? e).map (fun i => (i.zero, i.size, i.bytes)) = some (some z, k, bytes))
    (CC : Array Value) (hCC : (vs ++ us).toArray = CC) (h : wpList P ops Q rest (a.put o.dst (.slice (some ⟨w.heap.size, 0, none⟩) 2 2)) (w.alloc (.cells CC e))) : wpList P ops Q (o :: rest) a w := by
  subst hCC
  obtain ⟨i0, h0, h1, h2, h3⟩ := info_parts hi
  refine wpList_buildSlice hg t e 2 _ ho _ i0 z hu h0 h1 (by rw [h2]; omega) (by rw [h2]; omega) ?_ h
  rw [h2]
  generalize hC : (Array.range (2 * k)).map (z.cells[· % z.cells.size]!) = C
  have hs : C.size = 2 * k := by rw [← hC]; simp
  have e1 : ((#[(0, x), (1, y)] : Array (Nat × Operand)).map fun (i, x) => (i, a.eval x)).toList = [(0, .agg vs.toArray), (1, .agg us.toArray)] := by simp [hx, hy]
  rw [e1]
  have hc : (Value.agg vs.toArray).cells = vs.toArray := rfl
  have hc2 : (Value.agg us.toArray).cells = us.toArray := rfl
  have hl : C.toList = C.toList.take k ++ C.toList.drop k := (List.take_append_drop _ _).symm
  have s1 : splice C 0 vs = (vs ++ C.toList.drop k).toArray := by
    have := splice_mid vs [] (C.toList.take k) (C.toList.drop k) (by simp; omega)
    simpa using this
  have s2 : splice (vs ++ C.toList.drop k).toArray k us = (vs ++ us).toArray := by
    have := splice_list us vs (C.toList.drop k) (by simp; omega)
    rwa [hk] at this
  have f1 := fold_splice_at 0 vs 0 C
  have f2 := fold_splice_at k us 0 (vs ++ C.toList.drop k).toArray
  rw [Nat.add_zero] at f1 f2
  rw [s1] at f1
  rw [s2] at f2
  have hz : vs.toArray.zipIdx = (vs.zipIdx 0).toArray := by simp
  have hz2 : us.toArray.zipIdx = (us.zipIdx 0).toArray := by simp
  unfold Instr.fill
  simp only [hc, List.size_toArray, hk]
  rw [if_neg (by simp [hs]; omega)]
  rw [hz]
  simp only [List.foldl_toArray', Nat.zero_mul]
  rw [show (fun (cs : Array Value) (x : Value × Nat) => match x with | (c, j) => cs.setIfInBounds (0 + j) c) = fun cs x => cs.setIfInBounds (0 + x.2) x.1 from rfl, f1]
  unfold Instr.fill
  simp only [hc2, List.size_toArray, hk2]
  rw [if_neg (by simp [hs, hk]; omega)]
  rw [hz2]
  simp only [List.foldl_toArray', Nat.one_mul]
  rw [show (fun (cs : Array Value) (x : Value × Nat) => match x with | (c, j) => cs.setIfInBounds (k + j) c) = fun cs x => cs.setIfInBounds (k + x.2) x.1 from rfl, f2]
  unfold Instr.fill
  rfl
/-- a row of two records just made -/
theorem row_two {α : Type} (D : Kd α) (w : World) (c : Array Value) (t : TypeId) (x y : α) (h : c.toList = D.enc x ++ D.enc y) : Row D (w.alloc (.cells c t)) (some ⟨w.heap.size, 0, none⟩) 2 [x, y] :=
  ⟨by simp, by simp, (fun h => by cases h), fun ad ha j u hu => by
    cases ha
    rw [Addr.add_lit, heap_cell (heap_alloc_new w _), Nat.zero_add, ← Array.getElem?_toList, h]
    simpa using hu⟩
end Go.Proofs.YtcncmpgababfjaaDoor
