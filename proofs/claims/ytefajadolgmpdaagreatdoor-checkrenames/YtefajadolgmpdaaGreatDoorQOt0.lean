/-
  Steps of a region that draws its order, under a condition that holds all along.
-/
import Derived.Test.YtefajadolgmpdaaGreatDoorQRn0
import Derived.Test.YtefajadolgmpdaaGreatDoorQPm0
import Derived.Test.YtefajadolgmpdaaGreatDoorQVh
import Derived.Deep.RegionHeld3
namespace Go.Proofs.YtefajadolgmpdaaGreatDoor
open Go.RowKit Go.Lib Go.Shelf

theorem yieldsIf_load_cel {P : Program} {ops : Array Oper} {S : World → Prop} {op : Oper} {a : Act} (hw : Region.wanted op (yielded ops a.tmps) = true) (ty : TypeId) (x : Operand) (ho : op.op = .load ty x) (V off : Nat) (v : Value) (hx : a.eval x = .pointer (some ⟨V, off, none⟩))
    (hag : ∀ w, (isAgg ty).run P w = .ok false w) (hc : ∀ w, S w → w.cell? ⟨V, off, none⟩ = some v) : YieldsIf P ops S op v a :=
  .inl ⟨hw, fun w hS => by
    have := hc w hS
    simp [execOp, ho, hx, Instr.loadAt, Instr.sureAddr, loadVar, hag, this, Result.andThen]⟩
theorem wpOp_enter {P : Program} {ops : Array Oper} {Q : Exit → Act → World → Prop} {i : Nat} {K : Act → World → Prop} {a : Act} {w : World} {o : Oper} {f : FuncId} {args : Array Value} {v : Value} {R : World → Prop} (hi : ops[i]? = some o) (hgd : o.guard = none)
    (he : (execOp a.eval o).run P w = .ok (.enter f args) w) (hc : Calls P f args w fun e w' => e = .returned v ∧ R w') (h : ∀ w', R w' → K (a.put o.dst v) w') : wpOp P ops Q i K a w := by
  unfold wpOp
  simp only [hi]
  rw [if_pos (by unfold Region.wanted; rw [hgd])]
  left
  unfold Oper.wp
  rw [he]
  exact hc.mono fun e w' ⟨h1, h2⟩ => by subst h1; exact h w' h2
theorem wpOp_load_mid {P : Program} {ops : Array Oper} {Q : Exit → Act → World → Prop} {i : Nat} {K : Act → World → Prop} {a : Act} {w : World} {o : Oper} (hi : ops[i]? = some o) (hgd : o.guard = none) (ty : TypeId) (x : Operand) (ho : o.op = .load ty x)
    (b off : Nat) (hx : a.eval x = .pointer (some ⟨b, off, none⟩)) (V : List Value) (d : TypeDesc) (hc : w.rangeAt b off V) (hu : P.underlying ty = some d) (hd : d.isRow = true) (hin : (P.info? ty).map (·.size) = some V.length)
    (h : K (a.put o.dst (.agg V.toArray)) w) : wpOp P ops Q i K a w := by
  unfold wpOp
  simp only [hi]
  rw [if_pos (by unfold Region.wanted; rw [hgd])]
  left
  exact wp_load_mid ty x ho b off hx V d hc hu hd hin h
theorem wpOp_store_mid {P : Program} {ops : Array Oper} {Q : Exit → Act → World → Prop} {i : Nat} {K : Act → World → Prop} {a : Act} {w : World} {o : Oper} (hi : ops[i]? = some o) (hgd : o.guard = none) (ty : TypeId) (x y : Operand) (ho : o.op = .store ty x y)
    (b off : Nat) (V : List Value) (hx : a.eval x = .pointer (some ⟨b, off, none⟩)) (hy : a.eval y = .agg V.toArray) (ht : w.there b off V.length) (hin : (P.info? ty).map (·.size) = some V.length) (h1 : ∀ u ∈ V, u.oneCell' = true)
    (h : K (a.put o.dst undef) (w.setCells b off V)) : wpOp P ops Q i K a w := by
  unfold wpOp
  simp only [hi]
  rw [if_pos (by unfold Region.wanted; rw [hgd])]
  left
  exact wp_store_mid ty x y ho b off V.toArray hx hy (by simpa using ht) (by simpa using hin) (all_oneCell_toArray h1) (by simpa using h)
theorem wpAnyH_one {P : Program} {md : Region.Mode} {ops : Array Oper} {Q : Exit → Act → World → Prop} {S : World → Prop} (i : Nat) {fuel : Nat} {listed : Array Bool} {a : Act} {w : World} (hr : Region.ready md ops listed = [i])
    (h : wpOp P ops Q i (fun a' w' => S w' ∧ wpAnyH P md ops Q S fuel (listed.setIfInBounds i true) a' w') a w) : wpAnyH P md ops Q S (fuel + 1) listed a w :=
  wpAnyH_all hr (by simp) (fun j hj => by rw [List.mem_singleton.1 hj]; exact h)
theorem tv_one (t : Tm) : ∀ u ∈ tv t, u.oneCell' = true := by
  intro u hu
  simp only [tv, List.mem_cons, List.not_mem_nil, or_false] at hu
  rcases hu with rfl | rfl | rfl | rfl <;> rfl
/-- a part of a record stored, in a plain region; the world under a name -/
theorem wpList_store_named {P : Program} {ops : Array Oper} {rest : List Oper} {op : Oper} {a : Act} {w : World} {Q : Exit → Act → World → Prop} (hgd : op.guard = none) (ty : TypeId) (x y : Operand) (ho : op.op = .store ty x y)
    (b o : Nat) (V : List Value) (hx : a.eval x = .pointer (some ⟨b, o, none⟩)) (hy : a.eval y = .agg V.toArray) (ht : w.there b o V.length) (hi : (P.info? ty).map (·.size) = some V.length) (h1 : ∀ u ∈ V, u.oneCell' = true)
    (h : ∀ w', w.setCells b o V = w' → wpList P ops Q rest (a.put op.dst undef) w') : wpList P ops Q (op :: rest) a w :=
  wpList_store_mid hgd ty x y ho b o V.toArray hx hy (by simpa using ht) (by simpa using hi) (all_oneCell_toArray h1) (by simpa using h _ rfl)
end Go.Proofs.YtefajadolgmpdaaGreatDoor
