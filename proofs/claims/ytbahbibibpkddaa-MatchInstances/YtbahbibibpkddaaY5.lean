/-
  A part of one record of a row written over; a row without its first fact; one cell stored, the world under a name.
-/
import Derived.Test.YtbahbibibpkddaaFc
import Derived.Test.YtbahbibibpkddaaLb
namespace Go.Proofs.Ytbahbibibpkddaa
open Go.RowKit

theorem cell_setCells_other (b : Nat) (p : Addr) : ∀ (V : List Value) (o : Nat) (w : World), (p.spot = none → p.block = b → p.off < o ∨ o + V.length ≤ p.off) → (w.setCells b o V).cell? p = w.cell? p
  | [], _, _, _ => rfl
  | v :: r, o, w, h => by
    rw [World.setCells, cell_setCells_other b p r (o + 1) _ (fun h1 h2 => by have := h h1 h2; simp only [List.length_cons] at this; omega)]
    refine World.cell?_setCell_other (h := fun e => ?_) ..
    subst e
    have := h rfl rfl
    simp only [List.length_cons] at this; omega
theorem cell_setCells_in (b : Nat) : ∀ (V : List Value) (o : Nat) (w : World) (j : Nat) (u : Value), V[j]? = some u → (∀ k, k < V.length → (w.cell? ⟨b, o + k, none⟩).isSome = true) → (w.setCells b o V).cell? ⟨b, o + j, none⟩ = some u
  | [], _, _, j, u, h, _ => by simp at h
  | v :: r, o, w, 0, u, h, hs => by
    simp only [List.getElem?_cons_zero, Option.some.injEq] at h
    subst h
    rw [World.setCells, cell_setCells_other b _ r (o + 1) _ (fun _ _ => .inl (by simp))]
    have := hs 0 (by simp)
    exact World.cell?_setCell_same' _ _ _ (by simpa using this)
  | v :: r, o, w, j + 1, u, h, hs => by
    rw [World.setCells]
    have := cell_setCells_in b r (o + 1) (w.setCell ⟨b, o, none⟩ v) j u (by simpa using h) (fun k hk => by
      have h1 := hs (k + 1) (by simp; omega)
      rw [World.cell?_setCell_other (h := fun e => by injection e with _ e1; omega)]
      rwa [Nat.add_right_comm, Nat.add_assoc])
    rwa [Nat.add_right_comm, Nat.add_assoc] at this
/-- a part of one record of a row written over -/
theorem RowT.part {α : Type} {D : Kd α} {ty : TypeId} {w : World} {b o cap k d : Nat} {xs : List α} {x : α} {V : List Value} (h : RowT D ty w (some ⟨b, o, none⟩) cap xs) (hk : k < xs.length) (hd : d + V.length ≤ D.k)
    (h1 : ∀ c, d ≤ c → c < d + V.length → (D.enc x)[c]? = V[c - d]?) (h2 : ∀ c, (c < d ∨ d + V.length ≤ c) → (D.enc x)[c]? = (D.enc xs[k])[c]?) : RowT D ty (w.setCells b (o + k * D.k + d) V) (some ⟨b, o, none⟩) cap (xs.set k x) := by
  obtain ⟨cur, hc⟩ := h.tag _ rfl
  refine ⟨⟨by rw [List.length_set]; exact h.row.room, by rw [List.length_set]; exact h.row.few, (fun ha => by cases ha), fun ad ha j u hu => ?_⟩, fun ad ha => ?_⟩
  · cases ha
    rw [Addr.add_lit]
    have hj := (List.getElem?_eq_some_iff.1 hu).1
    rw [flat_len D.enc D.k D.len, List.length_set] at hj
    obtain ⟨i, hi, c, hcD, rfl⟩ : ∃ i, i < xs.length ∧ ∃ c, c < D.k ∧ j = i * D.k + c := ⟨j / D.k, Nat.div_lt_of_lt_mul (by rw [Nat.mul_comm]; exact hj), j % D.k, Nat.mod_lt _ D.pos, by have := Nat.div_add_mod' j D.k; omega⟩
    rw [flat_get D.enc D.k D.len _ i c (by rw [List.length_set]; exact hi) hcD, List.getElem_set] at hu
    by_cases e : k = i
    · subst e
      rw [if_pos rfl] at hu
      by_cases hcd : d ≤ c ∧ c < d + V.length
      · rw [h1 c hcd.1 hcd.2] at hu
        rw [show o + (k * D.k + c) = o + k * D.k + d + (c - d) by omega]
        refine cell_setCells_in b V (o + k * D.k + d) w (c - d) u hu (fun i hi => ?_)
        rw [show o + k * D.k + d + i = o + k * D.k + (d + i) by omega, h.row.range k hk (d + i) _ (List.getElem?_eq_getElem (by rw [D.len]; omega))]; rfl
      · rw [h2 c (by omega)] at hu
        have := h.row.range k hk c u hu
        rw [cell_setCells_other b _ _ _ _ (fun _ _ => by simp only; omega), show o + (k * D.k + c) = o + k * D.k + c by omega]
        exact this
    · rw [if_neg e] at hu
      have := h.row.range i hi c u hu
      rw [cell_setCells_other b _ _ _ _ (fun _ _ => ?_), show o + (i * D.k + c) = o + i * D.k + c by omega]
      · exact this
      · simp only
        rcases Nat.lt_or_gt_of_ne e with h1 | h1
        · right
          have : (k + 1) * D.k ≤ i * D.k := Nat.mul_le_mul_right _ h1
          rw [Nat.add_mul] at this; omega
        · left
          have : (i + 1) * D.k ≤ k * D.k := Nat.mul_le_mul_right _ h1
          rw [Nat.add_mul] at this; omega
  · cases ha
    exact ⟨_, heap_setCells b ty V (o + k * D.k + d) cur w hc⟩
theorem row_tail {w : World} {b o c : Nat} {t : Fv} {L : List Fv} (h : RowT fK 40 w (some ⟨b, o, none⟩) c (t :: L)) : RowT fK 40 w (some ⟨b, o + 4, none⟩) (c - 1) L := by
  refine ⟨⟨?_, ?_, (fun h => by cases h), fun ad ha j u hu => ?_⟩, fun ad ha => ?_⟩
  · have := h.row.room; simp only [List.length_cons] at this; omega
  · have := h.row.few; simp only [List.length_cons] at this; omega
  · cases ha
    have := h.row.cells _ rfl (4 + j) u (by
      rw [List.flatMap_cons, List.getElem?_append_right (by rw [fK.len]; show 4 ≤ 4 + j; omega), fK.len]
      show (L.flatMap fv)[4 + j - 4]? = some u
      rw [show 4 + j - 4 = j by omega]; exact hu)
    rw [Addr.add_lit] at this ⊢
    rw [← this, Nat.add_assoc]
  · cases ha
    exact h.tag ⟨b, o, none⟩ rfl
/-- the place of what is left, when one fact is taken -/
def tl (b o c : Nat) : Addr := if c = 1 then ⟨b, o, none⟩ else ⟨b, o + 4, none⟩
theorem row_tl {w : World} {b o c : Nat} {t : Fv} {L : List Fv} (h : RowT fK 40 w (some ⟨b, o, none⟩) c (t :: L)) : RowT fK 40 w (some (tl b o c)) (c - 1) L := by
  unfold tl
  by_cases hc : c = 1
  · rw [if_pos hc]
    have hr := h.row.room
    simp only [List.length_cons] at hr
    have : L = [] := List.eq_nil_of_length_eq_zero (by omega)
    subst this
    exact ⟨⟨Nat.zero_le _, Nat.zero_le _, (fun h => by cases h), fun ad ha j u hu => by simp at hu⟩, fun ad ha => by cases ha; exact h.tag _ rfl⟩
  · rw [if_neg hc]; exact row_tail h
theorem slice1 (b o n c : Nat) (w : World) : (Instr.sliceAt 42 (.slice (some ⟨b, o, none⟩) (n + 1) c) (some (.int .i64 1)) none none).run Try.prog w = .ok (.slice (some (tl b o c)) n (c - 1)) w := by
  have hu : Try.prog.underlying 42 = some (.slice (Try.prog.elem 42)) := by kernel_rfl
  have hs : (sizeOf (Try.prog.elem 42)).run Try.prog w = .ok 4 w := by kernel_rfl
  rw [run_sliceAt_slice (h := hu), run_slice_l (ht := hu) (h0 := by decide) (h1 := by omega), hs]
  simp only [Result.andThen_ok, sliced, tl]
  have e : (1 : Int).toNat = 1 := rfl
  rw [e]
  by_cases hc : c = 1
  · rw [if_pos hc, if_pos hc]; simp
  · rw [if_neg hc, if_neg hc]; simp [Addr.add_lit]
/-- one cell stored into a block; the world under a name -/
theorem wpList_store_celW {P : Program} {ops : Array Oper} {rest : List Oper} {op : Oper} {a : Act} {w : World} {Q : Exit → Act → World → Prop} (hgd : op.guard = none) (ty : TypeId) (x y : Operand) (ho : op.op = .store ty x y)
    (V o : Nat) (T : TypeId) (v : Value) {C : Array Value} (hx : a.eval x = .pointer (some ⟨V, o, none⟩)) (hy : a.eval y = v) (hH : w.heap[V]? = some (.cells C T))
    (hin : o < C.size) (hi : (P.info? ty).map (·.size) = some 1) (h1 : v.oneCell' = true)
    (h : ∀ w', w' = w.setCells V o [v] → But V w w' → wpList P ops Q rest (a.put op.dst undef) w') : wpList P ops Q (op :: rest) a w :=
  wpList_plain hgd fun _ hK => by
    have hc : v.cells = #[v] := by cases v <;> first | rfl | cases h1
    have ht := there_block hH o 1 (by omega)
    have hst : (storeVar ty ⟨V, o, none⟩ v).run P w = .ok () (w.setCells V o [v]) := by
      have := run_storeCells_cells (P := P) V o [v] 0 w (fun j hj => by simpa using (ht j (by simpa using hj)).1) (fun j hj => by simpa using (ht j (by simpa using hj)).2) (fun u hu => by simp at hu; subst hu; exact h1)
      cases hq : P.info? ty with
      | none => simp [hq] at hi
      | some i =>
        have hs : i.size = 1 := by simpa [hq] using hi
        simpa [storeVar, sizeOf, typeInfo, hq, hc, hs] using this
    unfold Oper.wp execOp
    simp only [ho, hx, hy, Instr.storeAt, Instr.sureAddr, Sem.run_bind, Sem.run_pure, Result.andThen_ok, hst]
    exact hK _ _ (h _ rfl (But.cells _ _ _ (But.refl V w)))
/-- a fact's predicate written over, in a row of facts -/
theorem RowT.pred {w : World} {b o cap k : Nat} {xs : List Fv} {p : List UInt8} (h : RowT fK 40 w (some ⟨b, o, none⟩) cap xs) (hk : k < xs.length) : RowT fK 40 (w.setCells b (o + k * 4 + 2) [str p]) (some ⟨b, o, none⟩) cap (xs.set k ⟨xs[k].at_, xs[k].by_, p, xs[k].a, xs[k].cap, xs[k].ks⟩) := by
  refine RowT.part (D := fK) (d := 2) (V := [str p]) h hk (by show 2 + 1 ≤ 4; omega) (fun c h1 h2 => ?_) (fun c hc => ?_)
  · have : c = 2 := by simp only [List.length_cons, List.length_nil] at h2; omega
    subst this; rfl
  · have hc' : c < 2 ∨ 3 ≤ c := by simpa using hc
    rcases hc' with h1 | h1
    · match c, h1 with
      | 0, _ => rfl
      | 1, _ => rfl
    · by_cases h3 : c = 3
      · subst h3; rfl
      · have h4 : 4 ≤ c := by omega
        rw [List.getElem?_eq_none (by show 4 ≤ c; exact h4), List.getElem?_eq_none (by show 4 ≤ c; exact h4)]
theorem cell_lt {w : World} {b j : Nat} {C : Array Value} {T : TypeId} {v : Value} (h : w.heap[b]? = some (.cells C T)) (hc : w.cell? ⟨b, j, none⟩ = some v) : j < C.size := by
  rw [heap_cell h] at hc
  exact (Array.getElem?_eq_some_iff.1 hc).1
end Go.Proofs.Ytbahbibibpkddaa
