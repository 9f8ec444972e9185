/-
  A beginning and an end of a row; steps of drawn regions.
-/
import Derived.Test.YtomiefhfkdfgbaaGr15
import Derived.Test.YtomiefhfkdfgbaaSb13
import Derived.Test.YtomiefhfkdfgbaaOt1
namespace Go.Proofs.Ytomiefhfkdfgbaa
open Go.RowKit Go.Sort

def cutT (k : Nat) (a : Option Addr) (c i : Nat) : Option Addr := if c = i then a else a.map (·.add (i * k))
theorem Row.cutH {α : Type} {D : Kd α} {w : World} {a : Option Addr} {c : Nat} {xs : List α} (h : Row D w a c xs) (i : Nat) (hi : i ≤ xs.length) : Row D w a c (xs.take i) :=
  ⟨by have := h.room; rw [List.length_take]; omega, by have := h.few; rw [List.length_take]; omega, fun ha => by obtain ⟨rfl, hc⟩ := h.void ha; exact ⟨by simp, hc⟩, fun ad ha j u hu => by
    obtain ⟨x, c', hx, hc, rfl, hv⟩ := flat_spot D.enc D.k D.len _ j u hu
    rw [List.length_take] at hx
    have := h.cells ad ha (x * D.k + c') u (by rw [flat_get D.enc D.k D.len xs x c' (by omega) hc, ← hv, List.getElem_take])
    exact this⟩
theorem Row.cutT {α : Type} {D : Kd α} {w : World} {a : Option Addr} {c : Nat} {xs : List α} (h : Row D w a c xs) (i : Nat) (hi : i ≤ xs.length) : Row D w (cutT D.k a c i) (c - i) (xs.drop i) := by
  have hr := h.room; have hf := h.few
  unfold Go.Proofs.Ytomiefhfkdfgbaa.cutT
  by_cases e : c = i
  · have : xs.length = i := by omega
    have h0 : xs.drop i = [] := List.drop_eq_nil_of_le (by omega)
    rw [if_pos e, h0]
    exact ⟨by simp, by simp, fun _ => ⟨rfl, by omega⟩, fun ad _ j u hu => by simp at hu⟩
  · rw [if_neg e]
    refine ⟨by rw [List.length_drop]; omega, by rw [List.length_drop]; omega, fun ha => ?_, fun ad ha j u hu => ?_⟩
    · cases a with
      | none => obtain ⟨rfl, hc⟩ := h.void rfl; exact ⟨by simp, by omega⟩
      | some ad => cases ha
    · obtain ⟨x, c', hx, hc, rfl, hv⟩ := flat_spot D.enc D.k D.len _ j u hu
      rw [List.length_drop] at hx
      obtain ⟨b, o, rfl⟩ := h.addr (by omega)
      cases ha
      have := h.cells _ rfl ((i + x) * D.k + c') u (by rw [flat_get D.enc D.k D.len xs (i + x) c' (by omega) hc, ← hv, List.getElem_drop])
      rw [Addr.add_lit] at this
      show w.cell? (((⟨b, o, none⟩ : Addr).add (i * D.k)).add (x * D.k + c')) = some u
      rw [Addr.add_lit, Addr.add_lit, ← this]
      congr 2
      rw [Nat.add_mul]; omega
theorem exec_slice {P : Program} {o : Oper} {a : Act} {w w' : World} {v xv : Value} (t : TypeId) (x : Operand) (lo hi : Option Operand) (lov hiv : Option Value) (ho : o.op = .slice t x lo hi none) (hx : a.eval x = xv) (hlo : lo.map a.eval = lov) (hhi : hi.map a.eval = hiv) (hr : (Instr.sliceAt t xv lov hiv none).run P w = .ok v w') : (execOp a.eval o).run P w = .ok (.value v) w' := by
  simp [execOp, ho, hx, hlo, hhi, hr, Result.andThen]
theorem addr0 (a : Option Addr) : a.map (fun x => x.add 0) = a := by
  cases a with
  | none => rfl
  | some ad =>
    obtain ⟨b, o, s⟩ := ad
    unfold Addr.add
    cases s <;> simp
theorem run_head (a : Option Addr) (n c i : Nat) (w : World) (h : i ≤ c) : (Instr.sliceAt 64 (.slice a n c) none (some (.int .i64 (i : Int))) none).run Try.prog w = .ok (.slice a i c) w := by
  have hi : (i : Int) ≤ (c : Int) := by omega
  have hs : (sizeOf (Try.prog.elem 64)).run Try.prog w = .ok 1 w := by kernel_rfl
  rw [run_sliceAt_slice _ _ _ _ _ _ (by kernel_rfl), run_slice_h _ _ _ _ _ (by kernel_rfl) _ _ (by omega) hi, hs]
  simp only [Result.andThen, sliced]
  simp [addr0]
theorem run_tail (a : Option Addr) (n c i : Nat) (w : World) (h : i ≤ n) : (Instr.sliceAt 64 (.slice a n c) (some (.int .i64 (i : Int))) none none).run Try.prog w = .ok (.slice (cutT 1 a c i) (n - i) (c - i)) w := by
  have hi : (i : Int) ≤ (n : Int) := by omega
  have hs : (sizeOf (Try.prog.elem 64)).run Try.prog w = .ok 1 w := by kernel_rfl
  rw [run_sliceAt_slice _ _ _ _ _ _ (by kernel_rfl), run_slice_l _ _ _ _ _ (by kernel_rfl) _ _ (by omega) hi, hs]
  simp only [Result.andThen, sliced, Int.toNat_natCast]
  rfl
theorem exec_add {P : Program} {o : Oper} {a : Act} {w : World} {x z : Int} (ty : TypeId) (p q : Operand) (ho : o.op = .binOp .add ty p q ty) (hp : a.eval p = .int .i64 x) (hq : a.eval q = .int .i64 1) (hw : IntKind.i64.wrap (x + 1) = z) : (execOp a.eval o).run P w = .ok (.value (.int .i64 z)) w := by
  unfold execOp
  simp only [ho, hp, hq]
  simp [go_sem, hw]
theorem exec_build {P : Program} {o : Oper} {a : Act} {w w' : World} {v : Value} (t : TypeId) (n : Nat) (parts : Array (Nat × Operand)) (vs : Array (Nat × Value)) (ho : o.op = .buildSlice t n parts) (hp : (parts.map fun (i, x) => (i, a.eval x)) = vs) (hr : (Instr.buildSlice t n vs).run P w = .ok v w') : (execOp a.eval o).run P w = .ok (.value v) w' := by
  simp [execOp, ho, hp, hr, Result.andThen]
theorem build_ptr (q : Nat) (X : World) : (Instr.buildSlice 64 1 #[(0, ptr q)]).run Try.prog X = .ok (.slice (some ⟨X.heap.size, 0, none⟩) 1 1) (X.alloc (.cells #[ptr q] 72)) := by kernel_rfl
theorem build_two (a1 a2 : Option Addr) (n1 c1 n2 c2 : Nat) (X : World) : (Instr.buildSlice 86 2 #[(0, .slice a1 n1 c1), (1, .slice a2 n2 c2)]).run Try.prog X = .ok (.slice (some ⟨X.heap.size, 0, none⟩) 2 2) (X.alloc (.cells #[.slice a1 n1 c1, .slice a2 n2 c2] 64)) := by kernel_rfl
theorem build_three (a1 a2 a3 : Option Addr) (n1 c1 n2 c2 n3 c3 : Nat) (X : World) : (Instr.buildSlice 86 3 #[(0, .slice a1 n1 c1), (1, .slice a2 n2 c2), (2, .slice a3 n3 c3)]).run Try.prog X = .ok (.slice (some ⟨X.heap.size, 0, none⟩) 3 3) (X.alloc (.cells #[.slice a1 n1 c1, .slice a2 n2 c2, .slice a3 n3 c3] 64)) := by kernel_rfl
/-- one cell stored into a block that is known whole -/
theorem wpOp_store_cell {P : Program} {ops : Array Oper} {Q : Exit → Act → World → Prop} {i : Nat} {K : Act → World → Prop} {a : Act} {w : World} {o : Oper} (hi : ops[i]? = some o) (hgd : o.guard = none) (ty : TypeId) (x y : Operand) (ho : o.op = .store ty x y)
    (V off n : Nat) (T : TypeId) (v : Value) (C C' : Array Value) (hx : a.eval x = .pointer (some ⟨V, off, none⟩)) (hy : a.eval y = v) (hH : w.heap[V]? = some (.cells C T))
    (hsz : C.size = n) (hin : off < n) (hii : (P.info? ty).map (·.size) = some 1) (h1 : v.oneCell' = true) (hC : C.setIfInBounds off v = C')
    (h : ∀ w', w'.heap[V]? = some (.cells C' T) → But V w w' → K (a.put o.dst undef) w') : wpOp P ops Q i K a w := by
  refine wpOp_of hi hgd ?_
  have hc : v.cells = #[v] := by cases v <;> first | rfl | cases h1
  have ht := there_block hH off 1 (by omega)
  have hst : (storeVar ty ⟨V, off, none⟩ v).run P w = .ok () (w.setCells V off [v]) := by
    have := run_storeCells_cells (P := P) V off [v] 0 w (fun j hj => by simpa using (ht j (by simpa using hj)).1) (fun j hj => by simpa using (ht j (by simpa using hj)).2) (fun u hu => by simp at hu; subst hu; exact h1)
    cases hq : P.info? ty with
    | none => simp [hq] at hii
    | some i =>
      have hs : i.size = 1 := by simpa [hq] using hii
      simpa [storeVar, sizeOf, typeInfo, hq, hc, hs] using this
  unfold Oper.wp execOp
  simp only [ho, hx, hy, Instr.storeAt, Instr.sureAddr, Sem.run_bind, Sem.run_pure, Result.andThen_ok, hst]
  exact h _ (by rw [← hC]; exact heap_setCells V T [v] off C w hH) (But.cells _ _ _ (But.refl V w))
end Go.Proofs.Ytomiefhfkdfgbaa
