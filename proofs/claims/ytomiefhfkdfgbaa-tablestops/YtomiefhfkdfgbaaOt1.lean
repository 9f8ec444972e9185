/-
  Steps of a region that draws its order, under a condition that holds all along.
-/
import Derived.Test.YtomiefhfkdfgbaaBs
import Derived.Test.YtomiefhfkdfgbaaLb
import Derived.Deep.RegionHeld3
namespace Go.Proofs.Ytomiefhfkdfgbaa
open Go.RowKit Go.Lib Go.Shelf

theorem wpOp_of {P : Program} {ops : Array Oper} {Q : Exit → Act → World → Prop} {i : Nat} {K : Act → World → Prop} {a : Act} {w : World} {o : Oper} (hi : ops[i]? = some o) (hgd : o.guard = none) (h : o.wp P a w K Q) : wpOp P ops Q i K a w := by
  unfold wpOp
  simp only [hi]
  rw [if_pos (by unfold Region.wanted; rw [hgd])]
  exact .inl h
theorem wpOp_build_one {P : Program} {ops : Array Oper} {Q : Exit → Act → World → Prop} {i : Nat} {K : Act → World → Prop} {a : Act} {w : World} {o : Oper} (hix : ops[i]? = some o) (hgd : o.guard = none) (t e : TypeId) (x : Operand) (ho : o.op = .buildSlice t 1 #[(0, x)])
    (vs : List Value) (z : Value) (k bytes : Nat) (hx : a.eval x = .agg vs.toArray) (hk : vs.length = k) (hk0 : 0 < k) (hk1 : k ≤ 1000)
    (hu : P.underlying t = some (.slice e)) (hi : (P.info? e).map (fun i => (i.zero, i.size, i.bytes)) = some (some z, k, bytes))
    (h : K (a.put o.dst (.slice (some ⟨w.heap.size, 0, none⟩) 1 1)) (w.alloc (.cells vs.toArray e))) : wpOp P ops Q i K a w := by
  refine wpOp_of hix hgd ?_
  obtain ⟨i0, h0, h1, h2, h3⟩ := info_parts hi
  refine wp_buildSlice t e 1 _ ho _ i0 z hu h0 h1 (by rw [h2]; omega) (by rw [h2]; omega) ?_ h
  rw [h2]
  generalize hC : (Array.range (1 * k)).map (z.cells[· % z.cells.size]!) = C
  have hs : C.size = k := by rw [← hC]; simp
  have e1 : ((#[(0, x)] : Array (Nat × Operand)).map fun (i, x) => (i, a.eval x)).toList = [(0, .agg vs.toArray)] := by simp [hx]
  rw [e1]
  have hc : (Value.agg vs.toArray).cells = vs.toArray := rfl
  unfold Instr.fill
  simp only [hc, List.size_toArray, hk]
  rw [if_neg (by simp [hs])]
  unfold Instr.fill
  have hz : vs.toArray.zipIdx = (vs.zipIdx 0).toArray := by simp
  rw [hz]
  simp only [List.foldl_toArray']
  have := fold_splice vs 0 C
  simp only [Nat.zero_mul] at *
  rw [show (fun (cs : Array Value) (x : Value × Nat) => match x with | (c, j) => cs.setIfInBounds (0 + j) c) = fun cs x => cs.setIfInBounds (0 + x.2) x.1 from rfl]
  rw [this, splice_all C vs (by omega)]
theorem wpOp_call {P : Program} {ops : Array Oper} {Q : Exit → Act → World → Prop} {i : Nat} {K : Act → World → Prop} {a : Act} {w : World} {o : Oper} {f : FuncId} {args : Array Value} {R : Value → World → Prop} (hi : ops[i]? = some o) (hgd : o.guard = none)
    (he : (execOp a.eval o).run P w = .ok (.enter f args) w) (hc : Calls P f args w fun e w' => ∃ v, e = .returned v ∧ R v w') (h : ∀ v w', R v w' → K (a.put o.dst v) w') : wpOp P ops Q i K a w := by
  refine wpOp_of hi hgd ?_
  unfold Oper.wp
  rw [he]
  exact hc.mono fun e w' ⟨v, h1, h2⟩ => by subst h1; exact h v w' h2
theorem yieldsIf_load_cel {P : Program} {ops : Array Oper} {S : World → Prop} {op : Oper} {a : Act} (hw : Region.wanted op (yielded ops a.tmps) = true) (ty : TypeId) (x : Operand) (ho : op.op = .load ty x) (V off : Nat) (v : Value) (hx : a.eval x = .pointer (some ⟨V, off, none⟩))
    (hag : ∀ w, (isAgg ty).run P w = .ok false w) (hc : ∀ w, S w → w.cell? ⟨V, off, none⟩ = some v) : YieldsIf P ops S op v a :=
  .inl ⟨hw, fun w hS => by
    have := hc w hS
    simp [execOp, ho, hx, Instr.loadAt, Instr.sureAddr, loadVar, hag, this, Result.andThen]⟩
theorem wpAnyH_one {P : Program} {md : Region.Mode} {ops : Array Oper} {Q : Exit → Act → World → Prop} {S : World → Prop} (i : Nat) {fuel : Nat} {listed : Array Bool} {a : Act} {w : World} (hr : Region.ready md ops listed = [i])
    (h : wpOp P ops Q i (fun a' w' => S w' ∧ wpAnyH P md ops Q S fuel (listed.setIfInBounds i true) a' w') a w) : wpAnyH P md ops Q S (fuel + 1) listed a w :=
  wpAnyH_all hr (by simp) (fun j hj => by rw [List.mem_singleton.1 hj]; exact h)
/-- a record read, in every world that meets the condition -/
theorem yieldsIf_load_mid {P : Program} {ops : Array Oper} {S : World → Prop} {op : Oper} {a : Act} (hw : Region.wanted op (yielded ops a.tmps) = true) (ty : TypeId) (x : Operand) (ho : op.op = .load ty x) (b off : Nat) (V : List Value) (d : TypeDesc) (hx : a.eval x = .pointer (some ⟨b, off, none⟩))
    (hu : P.underlying ty = some d) (hd : d.isRow = true) (hi : (P.info? ty).map (·.size) = some V.length) (hc : ∀ w, S w → w.rangeAt b off V) : YieldsIf P ops S op (.agg V.toArray) a :=
  .inl ⟨hw, fun w hS => by
    have := run_loadVar_mid w b off ty V d (hc w hS) hu hd hi
    simp [execOp, ho, hx, Instr.loadAt, Instr.sureAddr, this, Result.andThen]⟩
/-- append(row, records...), whatever their slice is -/
theorem wpOp_append_recN {α : Type} {P : Program} (D : Kd α) {ops : Array Oper} {Q : Exit → Act → World → Prop} {i : Nat} {K : Act → World → Prop} {a : Act} {w : World} {o : Oper} (hix : ops[i]? = some o) (hgd : o.guard = none) (s x : Operand) (t e : TypeId)
    (ho : o.op = .call { callee := .builtin .append, args := #[s, x], argTypes := #[t, t] }) (z : Value) (bytes : Nat) (ht : P.underlying t = some (.slice e)) (hinfo : (P.info? e).map (fun i => (i.zero, i.size, i.bytes)) = some (some z, D.k, bytes)) (hzs : z.cells.size = D.k)
    (base : Nat) (v : Value) (ys xs : List α) (ao : Option Addr) (m c : Nat) (hs : a.eval s = v) (hown : w.ownsRow base e D.k v ys.length (ys.flatMap D.enc)) (hx : a.eval x = .slice ao m c) (hm : xs.length = m) (hl : Row D w ao c xs) (hbase : base ≤ w.heap.size)
    (hfew : ys.length + xs.length ≤ 9223372036854775807) (hbig : (ys.length + xs.length) * bytes ≤ 140737488355328)
    (h : ∀ v' w', w'.ownsRow base e D.k v' (ys ++ xs).length ((ys ++ xs).flatMap D.enc) → w.grownBy w' v.ownBlock → K (a.put o.dst v') w') : wpOp P ops Q i K a w := by
  refine wpOp_of hix hgd ?_
  obtain ⟨i0, hi, hz0, hz1, hz2⟩ := info_parts hinfo
  subst hm
  cases ao with
  | none =>
    obtain ⟨rfl, rfl⟩ := hl.void rfl
    have hrun := run_append_owned_none (P := P) (w := w) base t o.type e i0 D.k ht hi v ys.length _ hown
    rw [List.length_nil] at hx
    unfold Oper.wp
    simp [execOp, ho, resolve, invoke, builtin, hs, hx, hrun, Result.andThen]
    exact h v w (by simpa using hown) ⟨rfl, rfl, rfl, Nat.le_refl _, fun _ _ _ => rfl⟩
  | some ad =>
    refine wp_append_own w s x t ho base e i0 z D.k bytes ht hi hz0 hz1 hz2 hzs D.pos _ ys.length _ hs hown ad xs.length c (xs.flatMap D.enc) hx (flat_len D.enc D.k D.len xs) (hl.cells ad rfl) (Row.flat_one D xs) (by unfold maxLen; omega) hbig hbase ?_
    intro v' w' ho' hg' hn'
    exact h v' w' (by rw [List.length_append, List.flatMap_append]; exact ho') hg'
end Go.Proofs.Ytomiefhfkdfgbaa
