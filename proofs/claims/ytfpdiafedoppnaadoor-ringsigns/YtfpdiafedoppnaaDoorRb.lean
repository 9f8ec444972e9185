/-
  Steps of regions that draw their order: a value, a slice of one record, append of records; a principal built.
-/
import Derived.Test.YtfpdiafedoppnaaDoorRg
import Derived.Great.BuildSlice
namespace Go.Proofs.YtfpdiafedoppnaaDoor
open Go.RowKit

theorem wpOp_of {P : Program} {ops : Array Oper} {Q : Exit → Act → World → Prop} {i : Nat} {K : Act → World → Prop} {a : Act} {w : World} {o : Oper} (hi : ops[i]? = some o) (hgd : o.guard = none) (h : o.wp P a w K Q) : wpOp P ops Q i K a w := by
  unfold wpOp
  simp only [hi]
  rw [if_pos (by unfold Region.wanted; rw [hgd])]
  exact .inl h
theorem wp_value {P : Program} {Q : Exit → Act → World → Prop} {K : Act → World → Prop} {a : Act} {w w' : World} {o : Oper} {v : Value} (he : (execOp a.eval o).run P w = .ok (.value v) w') (h : K (a.put o.dst v) w') : o.wp P a w K Q := by
  unfold Oper.wp
  rw [he]
  exact h

theorem wpOp_load_cel {P : Program} {ops : Array Oper} {Q : Exit → Act → World → Prop} {i : Nat} {K : Act → World → Prop} {a : Act} {w : World} {o : Oper} (hi : ops[i]? = some o) (hgd : o.guard = none) (ty : TypeId) (x : Operand) (ho : o.op = .load ty x) (V off : Nat) (v : Value)
    (hx : a.eval x = .pointer (some ⟨V, off, none⟩)) (hag : ∀ w, (isAgg ty).run P w = .ok false w) (hc : w.cell? ⟨V, off, none⟩ = some v) (h : K (a.put o.dst v) w) : wpOp P ops Q i K a w := by
  refine wpOp_of hi hgd ?_
  unfold Oper.wp execOp
  simp [ho, hx, Instr.loadAt, Instr.sureAddr, loadVar, hag, hc, Result.andThen]
  exact h
/-- one cell stored into a block that is known whole -/
theorem wpOp_store_cel {P : Program} {ops : Array Oper} {Q : Exit → Act → World → Prop} {i : Nat} {K : Act → World → Prop} {a : Act} {w : World} {op : Oper} (hix : ops[i]? = some op) (hgd : op.guard = none) (ty : TypeId) (x y : Operand) (ho : op.op = .store ty x y)
    (V o n : Nat) (T : TypeId) (v : Value) (C' : Array Value) {C : Array Value} (hx : a.eval x = .pointer (some ⟨V, o, none⟩)) (hy : a.eval y = v) (hH : w.heap[V]? = some (.cells C T))
    (hsz : C.size = n) (hin : o < n) (hi : (P.info? ty).map (·.size) = some 1) (h1 : v.oneCell' = true) (hC : C.setIfInBounds o v = C')
    (h : ∀ w', w'.heap[V]? = some (.cells C' T) → But V w w' → K (a.put op.dst undef) w') : wpOp P ops Q i K a w := by
  refine wpOp_of hix hgd ?_
  have hc : v.cells = #[v] := by cases v <;> first | rfl | cases h1
  have ht := there_block hH o 1 (by omega)
  have hst : (storeVar ty ⟨V, o, none⟩ v).run P w = .ok () (w.setCells V o [v]) := by
    have := run_storeCells_cells (P := P) V o [v] 0 w (fun j hj => by simpa using (ht j (by simpa using hj)).1) (fun j hj => by simpa using (ht j (by simpa using hj)).2) (fun u hu => by simp at hu; subst hu; exact h1)
    cases hq : P.info? ty with
    | none => simp [hq] at hi
    | some i =>
      have hs : i.size = 1 := by simpa [hq] using hi
      simpa [storeVar, sizeOf, typeInfo, hq, hc, hs] using this
  unfold Oper.wp execOp
  simp only [ho, hx, hy, Instr.storeAt, Instr.sureAddr, Sem.run_bind, Sem.run_pure, Result.andThen_ok, hst]
  exact h _ (by rw [← hC]; exact heap_setCells V T [v] o C w hH) (But.cells _ _ _ (But.refl V w))
/-- a slice literal of one record -/
theorem wp_build2 {P : Program} {Q : Exit → Act → World → Prop} {K : Act → World → Prop} {a : Act} {w : World} {o : Oper} (t : TypeId) (x y : Operand) (ho : o.op = .build t #[(0, x), (1, y)]) (vx vy v : Value) (hx : a.eval x = vx) (hy : a.eval y = vy) (hr : (Instr.build t #[(0, vx), (1, vy)]).run P w = .ok v w)
    (h : K (a.put o.dst v) w) : o.wp P a w K Q := by
  unfold Oper.wp execOp
  simp [ho, hx, hy, hr, Result.andThen]
  exact h
theorem run_build2 {P : Program} {a : Act} {w : World} {o : Oper} (t : TypeId) (x y : Operand) (ho : o.op = .build t #[(0, x), (1, y)]) (vx vy v : Value) (hx : a.eval x = vx) (hy : a.eval y = vy) (hr : (Instr.build t #[(0, vx), (1, vy)]).run P w = .ok v w) :
    (execOp a.eval o).run P w = .ok (.value v) w := by
  unfold execOp
  simp [ho, hx, hy, hr, Result.andThen]
theorem fold_splice : ∀ (vs : List Value) (o : Nat) (C : Array Value), (vs.zipIdx o).foldl (fun cs x => cs.setIfInBounds x.2 x.1) C = splice C o vs
  | [], _, _ => rfl
  | v :: r, o, C => by rw [List.zipIdx_cons, List.foldl_cons, splice]; exact fold_splice r (o + 1) _
theorem fold_splice_at : ∀ (vs : List Value) (j o : Nat) (C : Array Value), (vs.zipIdx j).foldl (fun cs x => cs.setIfInBounds (o + x.2) x.1) C = splice C (o + j) vs
  | [], _, _, _ => rfl
  | v :: r, j, o, C => by rw [List.zipIdx_cons, List.foldl_cons, splice]; exact fold_splice_at r (j + 1) o _
theorem splice_size : ∀ (vs : List Value) (o : Nat) (C : Array Value), (splice C o vs).size = C.size
  | [], _, _ => rfl
  | v :: r, o, C => by rw [splice, splice_size]; simp
/-- one part of a record or a slice laid -/
theorem fill_one (place : Nat → Option (Nat × Nat)) (C : Array Value) (i off size : Nat) (v : Value) (rest : List (Nat × Value)) (vs : List Value) (hv : v.cells = vs.toArray) (hp : place i = some (off, size)) (hs : vs.length = size) (hc : off + size ≤ C.size) :
    Instr.fill place C ((i, v) :: rest) = Instr.fill place (splice C off vs) rest := by
  rw [Instr.fill]
  simp only [hp, hv, List.size_toArray, hs]
  rw [if_neg (by simp; omega)]
  have hz : vs.toArray.zipIdx = (vs.zipIdx 0).toArray := by simp
  rw [hz]
  simp only [List.foldl_toArray']
  have := fold_splice_at vs 0 off C
  rw [Nat.add_zero] at this
  rw [← this]

theorem wp_build_one {P : Program} {o : Oper} {a : Act} {w : World} {K : Act → World → Prop} {Q : Exit → Act → World → Prop} (t e : TypeId) (x : Operand) (ho : o.op = .buildSlice t 1 #[(0, x)])
    (vs : List Value) (z : Value) (k bytes : Nat) (hx : a.eval x = .agg vs.toArray) (hk : vs.length = k) (hk0 : 0 < k) (hk1 : k ≤ 1000)
    (hu : P.underlying t = some (.slice e)) (hi : (P.info? e).map (fun i => (i.zero, i.size, i.bytes)) = some (some z, k, bytes))
    (h : K (a.put o.dst (.slice (some ⟨w.heap.size, 0, none⟩) 1 1)) (w.alloc (.cells vs.toArray e))) : o.wp P a w K Q := by
  obtain ⟨i0, h0, h1, h2, h3⟩ := info_parts hi
  refine wp_buildSlice t e 1 _ ho _ i0 z hu h0 h1 (by rw [h2]; omega) (by rw [h2]; omega) ?_ h
  rw [h2]
  generalize hC : (Array.range (1 * k)).map (z.cells[· % z.cells.size]!) = C
  have hs : C.size = k := by rw [← hC]; simp
  have e1 : ((#[(0, x)] : Array (Nat × Operand)).map fun (i, x) => (i, a.eval x)).toList = [(0, .agg vs.toArray)] := by simp [hx]
  rw [e1, fill_one _ C 0 0 k _ [] vs rfl (by simp) hk (by omega), Instr.fill, splice_all C vs (by omega)]

/-- append(row, records...) -/
theorem wp_append_rec {α : Type} {P : Program} (D : Kd α) (w : World) {o : Oper} {a : Act} {K : Act → World → Prop} {Q : Exit → Act → World → Prop} (s x : Operand) (t e : TypeId)
    (ho : o.op = .call { callee := .builtin .append, args := #[s, x], argTypes := #[t, t] }) (z : Value) (bytes : Nat) (ht : P.underlying t = some (.slice e)) (hinfo : (P.info? e).map (fun i => (i.zero, i.size, i.bytes)) = some (some z, D.k, bytes)) (hzs : z.cells.size = D.k)
    (base : Nat) (v : Value) (ys xs : List α) (ad : Addr) (m c : Nat) (hs : a.eval s = v) (hown : w.ownsRow base e D.k v ys.length (ys.flatMap D.enc)) (hx : a.eval x = .slice (some ad) m c) (hm : xs.length = m) (hl : Row D w (some ad) c xs) (hbase : base ≤ w.heap.size)
    (hfew : bytes * (ys.length + xs.length) ≤ 140737488355328) (hmax : ys.length + xs.length ≤ 9000000000000)
    (h : ∀ v' w', w'.ownsRow base e D.k v' (ys ++ xs).length ((ys ++ xs).flatMap D.enc) → w.grownBy w' v.ownBlock → K (a.put o.dst v') w') : o.wp P a w K Q := by
  obtain ⟨i0, hi, hz0, hz1, hz2⟩ := info_parts hinfo
  subst hm
  refine wp_append_own w s x t ho base e i0 z D.k bytes ht hi hz0 hz1 hz2 hzs D.pos _ ys.length _ hs hown ad xs.length c (xs.flatMap D.enc) hx (flat_len D.enc D.k D.len xs) (hl.cells ad rfl) (Row.flat_one D xs) (by unfold maxLen; omega) ?_ hbase ?_
  · rw [Nat.mul_comm]; exact hfew
  intro v' w' ho' hg' hn'
  exact h v' w' (by rw [List.length_append, List.flatMap_append]; exact ho') hg'

theorem Tryd.infoPrincipal3 : (Tryd.prog.info? 63).map (fun i => (i.zero, i.size, i.bytes)) = some (some (.agg (str [] :: cs (Sm.zeros 32)).toArray), 33, 48) := by kernel_rfl
theorem Tryd.zeroPrincipal (w : World) : (zeroValue 63).run Tryd.prog w = .ok (.agg (str [] :: cs (Sm.zeros 32)).toArray) w := by kernel_rfl
theorem build_principal (n K : List UInt8) (hK : K.length = 32) (w : World) : (Instr.build 63 #[(0, str n), (1, ba K)]).run Tryd.prog w = .ok (.agg (str n :: cs K).toArray) w := by
  have hu := Tryd.underlying63
  have hs1 := Tryd.sizeOf9
  have hs2 := Tryd.sizeOf42
  have hl : (cs K).length = 32 := by rw [cs_length, hK]
  have e1 : splice (str [] :: cs (Sm.zeros 32)).toArray 0 [str n] = (str n :: cs (Sm.zeros 32)).toArray := rfl
  have e2 : splice (str n :: cs (Sm.zeros 32)).toArray 1 (cs K) = (str n :: cs K).toArray := splice_list (cs K) [str n] (cs (Sm.zeros 32)) (by rw [hl]; rfl)
  unfold Instr.build
  simp only [Sem.run_bind, Tryd.zeroPrincipal w, Result.andThen_ok, run_underlying hu]
  have hm : ∀ w, (Array.mapM (fun (f : Field) => do let s ← sizeOf f.type; pure (f.offset, s)) #[{ name := "name", type := 9, offset := 0, embedded := false, tag := "", pkgPath := "avowal/ring", byteOffset := 0 }, { name := "key", type := 42, offset := 1, embedded := false, tag := "", pkgPath := "avowal/ring", byteOffset := 16 }] : Sem (Array (Nat × Nat))).run Tryd.prog w = .ok #[(0, 1), (1, 32)] w := fun w => by kernel_rfl
  rw [hm w]
  simp only [Result.andThen_ok, Value.cells]
  rw [fill_one _ _ 0 0 1 (str n) _ [str n] rfl rfl rfl (by decide), e1, fill_one _ (str n :: cs (Sm.zeros 32)).toArray 1 1 32 (ba K) _ (cs K) rfl rfl hl (show 33 ≤ _ from Nat.le_refl 33), e2]
  rfl
end Go.Proofs.YtfpdiafedoppnaaDoor
