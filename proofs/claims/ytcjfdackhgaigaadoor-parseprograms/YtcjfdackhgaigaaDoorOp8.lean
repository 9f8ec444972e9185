/-
  Steps of a region that draws its order, one by one: a cell read, a cell stored, a slice literal of one record, append of one, a call by its contract.
-/
import Derived.Test.YtcjfdackhgaigaaDoorQd
import Derived.Deep.RegionHeld3
namespace Go.Proofs.YtcjfdackhgaigaaDoor
open Go.RowKit Go.Lib Go.Shelf

theorem wpOp_of {P : Program} {ops : Array Oper} {Q : Exit → Act → World → Prop} {i : Nat} {K : Act → World → Prop} {a : Act} {w : World} {o : Oper} (hi : ops[i]? = some o) (hgd : o.guard = none) (h : o.wp P a w K Q) : wpOp P ops Q i K a w := by
  unfold wpOp
  simp only [hi]
  rw [if_pos (by unfold Region.wanted; rw [hgd])]
  exact .inl h
/-- one cell read -/
theorem wpOp_load_cel {P : Program} {ops : Array Oper} {Q : Exit → Act → World → Prop} {i : Nat} {K : Act → World → Prop} {a : Act} {w : World} {o : Oper} (hi : ops[i]? = some o) (hgd : o.guard = none) (ty : TypeId) (x : Operand) (ho : o.op = .load ty x) (V off : Nat) (v : Value)
    (hx : a.eval x = .pointer (some ⟨V, off, none⟩)) (hag : ∀ w, (isAgg ty).run P w = .ok false w) (hc : w.cell? ⟨V, off, none⟩ = some v) (h : K (a.put o.dst v) w) : wpOp P ops Q i K a w := by
  refine wpOp_of hi hgd ?_
  unfold Oper.wp execOp
  simp [ho, hx, Instr.loadAt, Instr.sureAddr, loadVar, hag, hc, Result.andThen]
  exact h
/-- one cell stored into a block that is known whole -/
theorem wpOp_store_cel {P : Program} {ops : Array Oper} {Q : Exit → Act → World → Prop} {i : Nat} {K : Act → World → Prop} {a : Act} {w : World} {op : Oper} (hix : ops[i]? = some op) (hgd : op.guard = none) (ty : TypeId) (x y : Operand) (ho : op.op = .store ty x y)
    (V o n : Nat) (T : TypeId) (v : Value) (C' : Array Value) {C : Array Value} (hx : a.eval x = .pointer (some ⟨V, o, none⟩)) (hy : a.eval y = v) (hH : w.heap[V]? = some (.cells C T))
    (hsz : C.size = n) (hin : o < n) (hi : (P.info? ty).map (·.size) = some 1) (h1 : v.oneCell' = true) (hC : C.setIfInBounds o v = C')
    (h : ∀ w', w'.heap[V]? = some (.cells C' T) → But V w w' → K (a.put op.dst undef) w') : wpOp P ops Q i K a w := by
  refine wpOp_of hix hgd ?_
  have hc : v.cells = #[v] := by cases v <;> first | rfl | cases h1
  have ht := there_block hH o 1 (by omega)
  have hst : (storeVar ty ⟨V, o, none⟩ v).run P w = .ok () (w.setCells V o [v]) := by
    have := run_storeCells_cells (P := P) V o [v] 0 w (fun j hj => by simpa using (ht j (by simpa using hj)).1) (fun j hj => by simpa using (ht j (by simpa using hj)).2) (fun u hu => by simp at hu; subst hu; exact h1)
    cases hq : P.info? ty with
    | none => simp [hq] at hi
    | some i =>
      have hs : i.size = 1 := by simpa [hq] using hi
      simpa [storeVar, sizeOf, typeInfo, hq, hc, hs] using this
  unfold Oper.wp execOp
  simp only [ho, hx, hy, Instr.storeAt, Instr.sureAddr, Sem.run_bind, Sem.run_pure, Result.andThen_ok, hst]
  exact h _ (by rw [← hC]; exact heap_setCells V T [v] o C w hH) (But.cells _ _ _ (But.refl V w))
/-- a slice literal of one record -/
theorem wpOp_build_one {P : Program} {ops : Array Oper} {Q : Exit → Act → World → Prop} {i : Nat} {K : Act → World → Prop} {a : Act} {w : World} {o : Oper} (hix : ops[i]? = some o) (hgd : o.guard = none) (t e : TypeId) (x : Operand) (ho : o.op = .buildSlice t 1 #[(0, x)])
    (vs : List Value) (z : Value) (k bytes : Nat) (hx : a.eval x = .agg vs.toArray) (hk : vs.length = k) (hk0 : 0 < k) (hk1 : k ≤ 1000)
    (hu : P.underlying t = some (.slice e)) (hi : (P.info? e).map (fun i => (i.zero, i.size, i.bytes)) = some (some z, k, bytes))
    (h : K (a.put o.dst (.slice (some ⟨w.heap.size, 0, none⟩) 1 1)) (w.alloc (.cells vs.toArray e))) : wpOp P ops Q i K a w := by
  refine wpOp_of hix hgd ?_
  obtain ⟨i0, h0, h1, h2, h3⟩ := info_parts hi
  refine wp_buildSlice t e 1 _ ho _ i0 z hu h0 h1 (by rw [h2]; omega) (by rw [h2]; omega) ?_ h
  rw [h2]
  generalize hC : (Array.range (1 * k)).map (z.cells[· % z.cells.size]!) = C
  have hs : C.size = k := by rw [← hC]; simp
  have e1 : ((#[(0, x)] : Array (Nat × Operand)).map fun (i, x) => (i, a.eval x)).toList = [(0, .agg vs.toArray)] := by simp [hx]
  rw [e1]
  have hc : (Value.agg vs.toArray).cells = vs.toArray := rfl
  unfold Instr.fill
  simp only [hc, List.size_toArray, hk]
  rw [if_neg (by simp [hs])]
  unfold Instr.fill
  have hz : vs.toArray.zipIdx = (vs.zipIdx 0).toArray := by simp
  rw [hz]
  simp only [List.foldl_toArray']
  have := fold_splice vs 0 C
  simp only [Nat.zero_mul] at *
  rw [show (fun (cs : Array Value) (x : Value × Nat) => match x with | (c, j) => cs.setIfInBounds (0 + j) c) = fun cs x => cs.setIfInBounds (0 + x.2) x.1 from rfl]
  rw [this, splice_all C vs (by omega)]
/-- append(row, a record) -/
theorem wpOp_append_rec {α : Type} {P : Program} (D : Kd α) {ops : Array Oper} {Q : Exit → Act → World → Prop} {i : Nat} {K : Act → World → Prop} {a : Act} {w : World} {o : Oper} (hix : ops[i]? = some o) (hgd : o.guard = none) (s x : Operand) (t e : TypeId)
    (ho : o.op = .call { callee := .builtin .append, args := #[s, x], argTypes := #[t, t] }) (z : Value) (bytes : Nat) (ht : P.underlying t = some (.slice e)) (hinfo : (P.info? e).map (fun i => (i.zero, i.size, i.bytes)) = some (some z, D.k, bytes)) (hzs : z.cells.size = D.k) (hby : bytes ≤ 160)
    (base : Nat) (v : Value) (ys xs : List α) (ad : Addr) (m c : Nat) (hs : a.eval s = v) (hown : w.ownsRow base e D.k v ys.length (ys.flatMap D.enc)) (hx : a.eval x = .slice (some ad) m c) (hm : xs.length = m) (hl : Row D w (some ad) c xs) (hbase : base ≤ w.heap.size)
    (hfew : ys.length + xs.length ≤ 879609302220)
    (h : ∀ v' w', w'.ownsRow base e D.k v' (ys ++ xs).length ((ys ++ xs).flatMap D.enc) → w.grownBy w' v.ownBlock → K (a.put o.dst v') w') : wpOp P ops Q i K a w := by
  refine wpOp_of hix hgd ?_
  obtain ⟨i0, hi, hz0, hz1, hz2⟩ := info_parts hinfo
  subst hm
  refine wp_append_own w s x t ho base e i0 z D.k bytes ht hi hz0 hz1 hz2 hzs D.pos _ ys.length _ hs hown ad xs.length c (xs.flatMap D.enc) hx (flat_len D.enc D.k D.len xs) (hl.cells ad rfl) (Row.flat_one D xs) (by unfold maxLen; omega) ?_ hbase ?_
  · refine Nat.le_trans (Nat.mul_le_mul hfew hby) (by decide)
  intro v' w' ho' hg' hn'
  exact h v' w' (by rw [List.length_append, List.flatMap_append]; exact ho') hg'
/-- the call of a function by its contract, in a region that draws its order -/
theorem wpOp_call {P : Program} {ops : Array Oper} {Q : Exit → Act → World → Prop} {i : Nat} {K : Act → World → Prop} {a : Act} {w : World} {o : Oper} {f : FuncId} {args : Array Value} {R : Value → World → Prop} (hi : ops[i]? = some o) (hgd : o.guard = none)
    (he : (execOp a.eval o).run P w = .ok (.enter f args) w) (hc : Calls P f args w fun e w' => ∃ v, e = .returned v ∧ R v w') (h : ∀ v w', R v w' → K (a.put o.dst v) w') : wpOp P ops Q i K a w := by
  refine wpOp_of hi hgd ?_
  unfold Oper.wp
  rw [he]
  exact hc.mono fun e w' ⟨v, h1, h2⟩ => by subst h1; exact h v w' h2

/-- what is known behind 'r.Body = append(r.Body, p.literal())' -/
structure Rel8 (p E S : Nat) (w wc : World) (h0 : Tm) (pr : List UInt8) (sl : Value) (tt : Tm) (a8 : Option Addr) (c8 : Nat) (ts : List Tm) (s : Ps.St) (xs : List Lv) (v : Value) : Prop where
  but : But p w wc
  own : wc.heap[S + 1]? = some (.cells (rcs h0 pr sl tt v).toArray 54)
  res : wc.heap[S]? = some (.cells (rcs t0 [] (.slice none 0 0) t0 (.slice none 0 0)).toArray 54)
  row : wc.ownsRow w.heap.size 58 10 v xs.length (xs.flatMap lv)
  each : ∀ y ∈ xs, Lv.At wc y
  args : RowT tK 50 wc a8 c8 ts
  at_ : QAt wc p E s
theorem Rel8.below {p E S : Nat} {w wc wd : World} {h0 : Tm} {pr : List UInt8} {sl : Value} {tt : Tm} {a8 : Option Addr} {c8 : Nat} {ts : List Tm} {s : Ps.St} {xs : List Lv} {v : Value} (h : Rel8 p E S w wc h0 pr sl tt a8 c8 ts s xs v) (hb : Below wc.heap.size wc wd) : Rel8 p E S w wd h0 pr sl tt a8 c8 ts s xs v :=
  ⟨h.but.below hb, below_heap hb h.own, below_heap hb h.res, ownsRow_keep h.row (Safe.below hb), fun y hy => (h.each y hy).safe (Safe.below hb), h.args.safe (Safe.below hb), h.at_.below hb⟩
/-- a part of the parser was read, which changes the state -/
theorem Rel8.next {p E S : Nat} {w wc wd : World} {h0 : Tm} {pr : List UInt8} {sl : Value} {tt : Tm} {a8 : Option Addr} {c8 : Nat} {ts : List Tm} {s s' : Ps.St} {xs : List Lv} {v : Value} (h : Rel8 p E S w wc h0 pr sl tt a8 c8 ts s xs v) (hb : But p wc wd) (hq : QAt wd p E s') (hp : p < S) : Rel8 p E S w wd h0 pr sl tt a8 c8 ts s' xs v :=
  ⟨h.but.trans hb, hb.heap (by omega) h.own, hb.heap (by omega) h.res, ownsRow_keep h.row (h.at_.safe hb (by decide)), fun y hy => (h.each y hy).safe (h.at_.safe hb (by decide)), h.args.safe (h.at_.safe hb (by decide)), hq⟩
theorem Rel8.cell {p E S : Nat} {w wc : World} {h0 : Tm} {pr : List UInt8} {sl : Value} {tt : Tm} {a8 : Option Addr} {c8 : Nat} {ts : List Tm} {s : Ps.St} {xs : List Lv} {v : Value} (h : Rel8 p E S w wc h0 pr sl tt a8 c8 ts s xs v) : wc.cell? ⟨S + 1, 10, none⟩ = some v := by
  rw [heap_cell h.own]; rfl
theorem Rel8.grow {p E S : Nat} {w w2 w4 : World} {h0 : Tm} {pr : List UInt8} {sl : Value} {tt : Tm} {a8 : Option Addr} {c8 : Nat} {ts : List Tm} {s : Ps.St} {ys : List Lv} {x : Lv} {v : Value} (h : Rel8 p E S w w2 h0 pr sl tt a8 c8 ts s ys v)
    (g4 : (w2.alloc (.cells (lv x).toArray 58)).grownBy w4 v.ownBlock) : w4.heap[S + 1]? = some (.cells (rcs h0 pr sl tt v).toArray 54) := by
  have h' := h.below (below_alloc w2 (.cells (lv x).toArray 58))
  exact Safe.grown h'.row g4 (by decide) _ _ h'.own
theorem Rel8.fin {p E S : Nat} {w w2 w4 w5 : World} {h0 : Tm} {pr : List UInt8} {sl : Value} {tt : Tm} {a8 : Option Addr} {c8 : Nat} {ts : List Tm} {s : Ps.St} {ys : List Lv} {x : Lv} {v v4 : Value} (h : Rel8 p E S w w2 h0 pr sl tt a8 c8 ts s ys v) (hx : Lv.At w2 x) (HS : w.heap.size = S)
    (o4 : w4.ownsRow w.heap.size 58 10 v4 (ys ++ [x]).length ((ys ++ [x]).flatMap lv)) (g4 : (w2.alloc (.cells (lv x).toArray 58)).grownBy w4 v.ownBlock)
    (V5 : w5.heap[S + 1]? = some (.cells (rcs h0 pr sl tt v4).toArray 54)) (b5 : But (S + 1) w4 w5) : Rel8 p E S w w5 h0 pr sl tt a8 c8 ts s (ys ++ [x]) v4 := by
  have V4 := h.grow g4
  have h' := h.below (below_alloc w2 (.cells (lv x).toArray 58))
  have hx' := hx.safe (Safe.below (below_alloc w2 (.cells (lv x).toArray 58)))
  have sT := (Safe.grown (ty := 50) h'.row g4 (by decide)).trans (Safe.but b5 V4 (by decide))
  refine ⟨(h'.but.low (grown_low h'.row g4 h'.but.size)).fresh b5 (by omega), V5, b5.heap (by omega) (Safe.grown h'.row g4 (by decide) _ _ h'.res), ownsRow_keep o4 (Safe.but b5 V4 (by decide)), fun y hy => ?_, h'.args.safe sT, (h'.at_.grown h'.row g4 (by decide) (by decide)).but b5 V4 (by decide) (by decide)⟩
  rcases List.mem_append.1 hy with h1 | h1
  · exact (h'.each y h1).safe sT
  · obtain rfl := List.mem_singleton.1 h1
    exact hx'.safe sT
end Go.Proofs.YtcjfdackhgaigaaDoor
