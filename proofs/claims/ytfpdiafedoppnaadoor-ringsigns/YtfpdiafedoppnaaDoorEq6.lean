/-
  Two digests held against each other, in a region that draws its order.
-/
import Derived.Test.YtfpdiafedoppnaaDoorEql
import Derived.Test.YtfpdiafedoppnaaDoorQb
namespace Go.Proofs.YtfpdiafedoppnaaDoor
open Go.RowKit

theorem eql_digest (D E : List UInt8) (hD : D.length = 32) (hE : E.length = 32) (w : World) : (binOp .eql 42 (ba D) (ba E)).run Tryd.prog w = .ok (.bool (D == E)) w := by
  have h := equalIn32 D E hD hE w
  have h' : (Op.equal 42 (ba D) (ba E)).run Tryd.prog w = .ok (D == E) w := h
  unfold binOp
  simp [h']
theorem quietAt_eql {P : Program} {C : World → Prop} {a : Act} {o : Oper} (ty ty' : TypeId) (x y : Operand) (ho : o.op = .binOp .eql ty x y ty') (vx vy v : Value) (hx : a.eval x = vx) (hy : a.eval y = vy) (hg : ∀ w, (eqGuard .eql ty x y vx vy).run P w = .ok () w) (hr : ∀ w, (binOp .eql ty vx vy).run P w = .ok v w) : ∀ w', C w' → o.quietAt P a C w' v := fun w' _ => by
  unfold Oper.quietAt
  have e : (execOp a.eval o).run P w' = .ok (.value v) w' := by
    unfold execOp
    simp only [ho, hx, hy, Sem.run_bind, Sem.run_pure, Result.andThen_ok, hg, hr]
  rw [e]
  exact ⟨rfl, rfl⟩
end Go.Proofs.YtfpdiafedoppnaaDoor
