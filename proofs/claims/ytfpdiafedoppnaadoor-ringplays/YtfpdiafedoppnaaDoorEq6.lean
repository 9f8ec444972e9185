/-
  A region that draws its order, whose own operations only read and whose callees leave all that was there as it was: walked once.
-/
import Derived.Deep.QuietTactic
import Derived.Test.YtfpdiafedoppnaaDoorRi
import Derived.Test.YtfpdiafedoppnaaDoorEql
namespace Go.Proofs.YtfpdiafedoppnaaDoor
open Go.RowKit

/-- a world in which all that lay in w0 lies unturned -/
structure BelowBy (w0 : World) where
  w : World
  h : Below w0.heap.size w0 w

theorem wp_region_quiet_below {P : Program} {id : Nat} {Q : Exit → Act → World → Prop} {a : Act} {w : World} {l : List Oper} (hm : P.follows .mixedOrders = true) (hB : Region.lexB .any l.toArray = true)
    (h : wpQuiet P l.toArray (fun w' => ∃ p : BelowBy w, w' = p.w) (fun a' => ∀ w', (∃ p : BelowBy w, w' = p.w) → Q .normal a' w') l a) : (Code.region id l.toArray true).wp P Q a w :=
  wp_region_quiet (C := fun w' => ∃ p : BelowBy w, w' = p.w) hm hB ⟨⟨w.drew, (Below.refl _ _).drew⟩, rfl⟩ (by simpa using h)

theorem cell_kept {w : World} {a : Addr} {v : Value} (h : w.cell? a = some v) (p : BelowBy w) : p.w.cell? a = some v := by
  rw [p.h.cell (cell_block h)]; exact h

theorem Calls.below_of {P : Program} {f : FuncId} {args : Array Value} {w : World} {p : BelowBy w} {v : Value}
    (h : Calls P f args p.w fun e w' => e = .returned v ∧ Below p.w.heap.size p.w w') : Calls P f args p.w fun e w'' => e = .returned v ∧ ∃ q : BelowBy w, w'' = q.w :=
  h.mono fun _ w'' ⟨he, hb⟩ => ⟨he, ⟨w'', Below.then p.h hb⟩, rfl⟩
theorem Calls.below_of_same {P : Program} {f : FuncId} {args : Array Value} {w : World} {p : BelowBy w} {v : Value}
    (h : Calls P f args p.w fun e w' => e = .returned v ∧ p.w = w') : Calls P f args p.w fun e w'' => e = .returned v ∧ ∃ q : BelowBy w, w'' = q.w :=
  Calls.below_of (h.mono fun _ _ ⟨he, hb⟩ => ⟨he, by rw [hb]; exact Below.refl _ _⟩)

/-- a whole row read -/
theorem quietAt_load_row {P : Program} {C : World → Prop} {a : Act} {o : Oper} {w : World} (ty : TypeId) (x : Operand) (ho : o.op = .load ty x) (b off : Nat) (hx : a.eval x = .pointer (some ⟨b, off, none⟩)) (V : List Value) (d : TypeDesc) (hc : w.rangeAt b off V)
    (hu : P.underlying ty = some d) (hd : d.isRow = true) (hi : (P.info? ty).map (·.size) = some V.length) : ∀ w', (∃ p : BelowBy w, w' = p.w) → o.quietAt P a C w' (.agg V.toArray) := fun w' hw' => by
  obtain ⟨p, rfl⟩ := hw'
  have hc' : p.w.rangeAt b off V := rangeAt_below hc p.h
  unfold Oper.quietAt
  have e : (execOp a.eval o).run P p.w = .ok (.value (.agg V.toArray)) p.w := by
    unfold execOp
    simp only [ho, hx, Instr.loadAt, Instr.sureAddr, Sem.run_bind, Sem.run_pure, Result.andThen_ok, run_loadVar_mid p.w b off ty V d hc' hu hd hi]
  rw [e]
  exact ⟨rfl, rfl⟩
end Go.Proofs.YtfpdiafedoppnaaDoor

/-
  Two digests held against each other, in a region that draws its order.
-/
namespace Go.Proofs.YtfpdiafedoppnaaDoor
open Go.RowKit

theorem eql_digest (D E : List UInt8) (hD : D.length = 32) (hE : E.length = 32) (w : World) : (binOp .eql 42 (ba D) (ba E)).run Tryd.prog w = .ok (.bool (D == E)) w := by
  have h := equalIn32 D E hD hE w
  have h' : (Op.equal 42 (ba D) (ba E)).run Tryd.prog w = .ok (D == E) w := h
  unfold binOp
  simp [h']
theorem quietAt_eql {P : Program} {C : World → Prop} {a : Act} {o : Oper} (ty ty' : TypeId) (x y : Operand) (ho : o.op = .binOp .eql ty x y ty') (vx vy v : Value) (hx : a.eval x = vx) (hy : a.eval y = vy) (hg : ∀ w, (eqGuard .eql ty x y vx vy).run P w = .ok () w) (hr : ∀ w, (binOp .eql ty vx vy).run P w = .ok v w) : ∀ w', C w' → o.quietAt P a C w' v := fun w' _ => by
  unfold Oper.quietAt
  have e : (execOp a.eval o).run P w' = .ok (.value v) w' := by
    unfold execOp
    simp only [ho, hx, hy, Sem.run_bind, Sem.run_pure, Result.andThen_ok, hg, hr]
  rw [e]
  exact ⟨rfl, rfl⟩
end Go.Proofs.YtfpdiafedoppnaaDoor
