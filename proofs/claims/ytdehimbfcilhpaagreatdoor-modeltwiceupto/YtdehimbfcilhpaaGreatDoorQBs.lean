/-
  The program's name, the reference's name: a term's value as a text.
-/
import Derived.Great.BuildSlice
import Derived.Test.YtdehimbfcilhpaaGreatDoorQD1
import Derived.Test.YtdehimbfcilhpaaGreatDoorQE5
import Derived.Test.YtdehimbfcilhpaaGreatDoorQOw
namespace Go.Proofs.YtdehimbfcilhpaaGreatDoor
open Go.RowKit Go.Lib Go.Shelf

def nmS (t : Tm) (L : Mt.Env) : List UInt8 := (Mt.name t L).getD []
def nmB (t : Tm) (L : Mt.Env) : Bool := (Mt.name t L).isSome
theorem name_cases (t : Tm) (L : Mt.Env) : (valB t L = false ∧ nmS t L = [] ∧ nmB t L = false) ∨ (valB t L = true ∧ sameK (valK t L) (Mt.nm (valK t L).s) = false ∧ nmS t L = [] ∧ nmB t L = false) ∨ (valB t L = true ∧ sameK (valK t L) (Mt.nm (valK t L).s) = true ∧ nmS t L = (valK t L).s ∧ nmB t L = true) := by
  unfold valB valK nmS nmB Mt.name
  cases h : Mt.val t L with
  | none => exact .inl ⟨rfl, rfl, rfl⟩
  | some c =>
    simp only [Option.bind_some, Option.getD_some, Option.isSome_some]
    cases hs : sameK c (Mt.nm c.s) with
    | false =>
      have : ¬ Mt.eqK c (Mt.nm c.s) = true := by rw [show Mt.eqK c (Mt.nm c.s) = false from hs]; decide
      rw [if_neg this]
      exact .inr (.inl (by simp))
    | true =>
      have : Mt.eqK c (Mt.nm c.s) = true := hs
      rw [if_pos this]
      exact .inr (.inr (by simp))
theorem kvc_cells {w : World} {b : Nat} {k : K} (H : w.heap[b]? = some (.cells (kv k).toArray 56)) : w.cell? ⟨b, 0, none⟩ = some (.bool k.num) ∧ w.cell? ⟨b, 1, none⟩ = some (.int .i64 k.n) ∧ w.cell? ⟨b, 2, none⟩ = some (str k.s) := by
  refine ⟨?_, ?_, ?_⟩ <;> (rw [heap_cell H]; rfl)

set_option maxRecDepth 100000 in
set_option maxHeartbeats 1000000 in
theorem mname_at (t : Tm) (a : Option Addr) (c : Nat) (L : List Bd) (w : World) (h : Row bK w a c L) :
    Calls Tryz.prog 116 #[tval t, .slice a L.length c] w fun e w' => e = .returned (.tuple #[str (nmS t L), .bool (nmB t L)]) ∧ Below w.heap.size w w' := by
  have iK : (Tryz.prog.info? 56).map (·.size) = some 3 := by kernel_rfl
  have CS := hideP (name_cases t L)
  have EQ := hideP (fun u W => eqConst u (Mt.nm u.s) 9998 W)
  have A0 := below_alloc w (.cells (tv t).toArray 58)
  have T := hideP (mvalue_at t a c L _ (h.below A0 (Nat.le_refl _)))
  generalize valK t L = kk at *
  generalize valB t L = bb at *
  generalize nmS t L = ns at *
  generalize nmB t L = nb at *
  obtain ⟨v, ⟨x, n, s⟩⟩ := t
  go_enter Tryz.func116, Tryz.ntmps116
  go_wp2_with fail
  refine T.out.mono ?_
  rintro e w1 ⟨rfl, b1⟩
  have B1 := Below.then A0 b1
  have H1 := heap_alloc_new w1 (.cells #[.bool false, .int .i64 0, .string { data := #[] }] 56)
  clear T A0 b1
  go_wp2_with (refine wpList_store_all rfl 56 _ _ rfl w1.heap.size 3 _ 56 (kv kk) rfl rfl H1 rfl rfl iK rfl ?_; intro w2 H2 b2; have T2 := below_tok b2)
  have B2 := Below.then B1 T2
  generalize hR : w1.heap.size = R at *
  clear hR H1 b2 B1 T2
  have gD := (Below.refl w2.heap.size w2).drew
  have H2d := below_heap gD H2
  have B2d := Below.then B2 gD
  rcases CS.out with ⟨e1, e2, e3⟩ | ⟨e1, e0, e2, e3⟩ | ⟨e1, e0, e2, e3⟩
  · subst e1 e2 e3
    clear CS EQ
    go_quiet (fail)
    go_wp2_with fail
    go_ret2
    exact ⟨rfl, Below.then B2 (below_drewN (Below.refl _ _) nq)⟩
  · have Q := EQ.out kk
    rw [e0] at Q
    subst e1 e2 e3
    obtain ⟨x1, x2, x3⟩ := kk
    simp only at Q
    have TT := hideP (fun W => mtext_at x3 W)
    clear CS EQ e0
    go_region_held3 (fun W => W.cell? ⟨R, 0, none⟩ = some (.bool x1) ∧ W.cell? ⟨R, 1, none⟩ = some (.int .i64 x2) ∧ W.cell? ⟨R, 2, none⟩ = some (str x3)) (first | exact kvc_cells H3 | exact kvc_cells H2d) (first
      | (go_at_call 152; refine (TT.out _).mono ?_; rintro e w3 ⟨rfl, b3⟩; have H3 := below_heap b3 H2d; have B3 := Below.then B2d b3))
    go_wp2_with fail
    go_ret2
    exact ⟨rfl, B3⟩
  · have Q := EQ.out kk
    rw [e0] at Q
    subst e1 e2 e3
    obtain ⟨x1, x2, x3⟩ := kk
    simp only at Q
    have TT := hideP (fun W => mtext_at x3 W)
    clear CS EQ e0
    go_region_held3 (fun W => W.cell? ⟨R, 0, none⟩ = some (.bool x1) ∧ W.cell? ⟨R, 1, none⟩ = some (.int .i64 x2) ∧ W.cell? ⟨R, 2, none⟩ = some (str x3)) (first | exact kvc_cells H3 | exact kvc_cells H2d) (first
      | (go_at_call 152; refine (TT.out _).mono ?_; rintro e w3 ⟨rfl, b3⟩; have H3 := below_heap b3 H2d; have B3 := Below.then B2d b3))
    obtain ⟨_, _, c2⟩ := kvc_cells H3
    simp only at c2
    go_wp2_with fail
    go_ret2
    exact ⟨rfl, B3⟩


set_option maxRecDepth 100000 in
set_option maxHeartbeats 1000000 in
theorem rname_at (t : Tm) (a : Option Addr) (c : Nat) (L : List Bd) (w : World) (h : Row bK w a c L) :
    Calls Tryz.prog 76 #[tval t, .slice a L.length c] w fun e w' => e = .returned (.tuple #[str (nmS t L), .bool (nmB t L)]) ∧ Below w.heap.size w w' := by
  have iK : (Tryz.prog.info? 56).map (·.size) = some 3 := by kernel_rfl
  have CS := hideP (name_cases t L)
  have EQ := hideP (fun u W => eqConst u (Mt.nm u.s) 9998 W)
  have A0 := below_alloc w (.cells (tv t).toArray 58)
  have T := hideP (rvalue_at t a c L _ (h.below A0 (Nat.le_refl _)))
  generalize valK t L = kk at *
  generalize valB t L = bb at *
  generalize nmS t L = ns at *
  generalize nmB t L = nb at *
  obtain ⟨v, ⟨x, n, s⟩⟩ := t
  go_enter Tryz.func76, Tryz.ntmps76
  go_wp2_with fail
  refine T.out.mono ?_
  rintro e w1 ⟨rfl, b1⟩
  have B1 := Below.then A0 b1
  have H1 := heap_alloc_new w1 (.cells #[.bool false, .int .i64 0, .string { data := #[] }] 56)
  clear T A0 b1
  go_wp2_with (refine wpList_store_all rfl 56 _ _ rfl w1.heap.size 3 _ 56 (kv kk) rfl rfl H1 rfl rfl iK rfl ?_; intro w2 H2 b2; have T2 := below_tok b2)
  have B2 := Below.then B1 T2
  generalize hR : w1.heap.size = R at *
  clear hR H1 b2 B1 T2
  have gD := (Below.refl w2.heap.size w2).drew
  have H2d := below_heap gD H2
  have B2d := Below.then B2 gD
  rcases CS.out with ⟨e1, e2, e3⟩ | ⟨e1, e0, e2, e3⟩ | ⟨e1, e0, e2, e3⟩
  · subst e1 e2 e3
    clear CS EQ
    go_quiet (fail)
    go_wp2_with fail
    go_ret2
    exact ⟨rfl, Below.then B2 (below_drewN (Below.refl _ _) nq)⟩
  · have Q := EQ.out kk
    rw [e0] at Q
    subst e1 e2 e3
    obtain ⟨x1, x2, x3⟩ := kk
    simp only at Q
    have TT := hideP (fun W => rName_at x3 W)
    clear CS EQ e0
    go_region_held3 (fun W => W.cell? ⟨R, 0, none⟩ = some (.bool x1) ∧ W.cell? ⟨R, 1, none⟩ = some (.int .i64 x2) ∧ W.cell? ⟨R, 2, none⟩ = some (str x3)) (first | exact kvc_cells H3 | exact kvc_cells H2d) (first
      | (go_at_call 28; refine (TT.out _).mono ?_; rintro e w3 ⟨rfl, b3⟩; have H3 := below_heap b3 H2d; have B3 := Below.then B2d b3))
    go_wp2_with fail
    go_ret2
    exact ⟨rfl, B3⟩
  · have Q := EQ.out kk
    rw [e0] at Q
    subst e1 e2 e3
    obtain ⟨x1, x2, x3⟩ := kk
    simp only at Q
    have TT := hideP (fun W => rName_at x3 W)
    clear CS EQ e0
    go_region_held3 (fun W => W.cell? ⟨R, 0, none⟩ = some (.bool x1) ∧ W.cell? ⟨R, 1, none⟩ = some (.int .i64 x2) ∧ W.cell? ⟨R, 2, none⟩ = some (str x3)) (first | exact kvc_cells H3 | exact kvc_cells H2d) (first
      | (go_at_call 28; refine (TT.out _).mono ?_; rintro e w3 ⟨rfl, b3⟩; have H3 := below_heap b3 H2d; have B3 := Below.then B2d b3))
    obtain ⟨_, _, c2⟩ := kvc_cells H3
    simp only at c2
    go_wp2_with fail
    go_ret2
    exact ⟨rfl, B3⟩

end Go.Proofs.YtdehimbfcilhpaaGreatDoor

/-
  A slice literal of one record.
-/
namespace Go.Proofs.YtdehimbfcilhpaaGreatDoor
open Go.RowKit Go.Sort

theorem fold_splice : ∀ (vs : List Value) (o : Nat) (C : Array Value), (vs.zipIdx o).foldl (fun cs x => cs.setIfInBounds (0 + x.2) x.1) C = splice C o vs
  | [], _, _ => rfl
  | v :: r, o, C => by
    rw [List.zipIdx_cons, List.foldl_cons, splice, ← fold_splice r (o + 1)]
    simp
theorem wpList_build_one {P : Program} {ops : Array Oper} {rest : List Oper} {o : Oper} {a : Act} {w : World} {Q : Exit → Act → World → Prop} (hg : o.guard = none) (t e : TypeId) (x : Operand) (ho : o.op = .buildSlice t 1 #[(0, x)])
    (vs : List Value) (z : Value) (k bytes : Nat) (hx : a.eval x = .agg vs.toArray) (hk : vs.length = k) (hk0 : 0 < k) (hk1 : k ≤ 1000)
    (hu : P.underlying t = some (.slice e)) (hi : (P.info? e).map (fun i => (i.zero, i.size, i.bytes)) = some (some z, k, bytes))
    (h : wpList P ops Q rest (a.put o.dst (.slice (some ⟨w.heap.size, 0, none⟩) 1 1)) (w.alloc (.cells vs.toArray e))) : wpList P ops Q (o :: rest) a w := by
  obtain ⟨i0, h0, h1, h2, h3⟩ := info_parts hi
  refine wpList_buildSlice hg t e 1 _ ho _ i0 z hu h0 h1 (by rw [h2]; omega) (by rw [h2]; omega) ?_ h
  rw [h2]
  generalize hC : (Array.range (1 * k)).map (z.cells[· % z.cells.size]!) = C
  have hs : C.size = k := by rw [← hC]; simp
  have e1 : ((#[(0, x)] : Array (Nat × Operand)).map fun (i, x) => (i, a.eval x)).toList = [(0, .agg vs.toArray)] := by simp [hx]
  rw [e1]
  have hc : (Value.agg vs.toArray).cells = vs.toArray := rfl
  unfold Instr.fill
  simp only [hc, List.size_toArray, hk]
  rw [if_neg (by simp [hs])]
  unfold Instr.fill
  have hz : vs.toArray.zipIdx = (vs.zipIdx 0).toArray := by simp
  rw [hz]
  simp only [List.foldl_toArray']
  have := fold_splice vs 0 C
  simp only [Nat.zero_mul] at *
  rw [show (fun (cs : Array Value) (x : Value × Nat) => match x with | (c, j) => cs.setIfInBounds (0 + j) c) = fun cs x => cs.setIfInBounds (0 + x.2) x.1 from rfl]
  rw [this, splice_all C vs (by omega)]
end Go.Proofs.YtdehimbfcilhpaaGreatDoor
