/-
  Terms, literals and rules in memory; of which kind a term is, and whether it may be.
-/
import Derived.Test.YtghhdbkgibpebaaRw
import Derived.Test.YtghhdbkgibpebaaCmp
namespace Go.Proofs.Ytghhdbkgibpebaa
open Go.RowKit Go.Sort

def tv (t : Tm) : List Value := [str t.v, .bool t.k.num, .int .i64 t.k.n, str t.k.s]
abbrev tval (t : Tm) : Value := .agg #[str t.v, .bool t.k.num, .int .i64 t.k.n, str t.k.s]
def tK : Kd Tm := ⟨tv, 4, fun _ => rfl, fun _ => rfl, by decide⟩
def kK : Kd K := ⟨kv, 3, fun _ => rfl, fun _ => rfl, by decide⟩
/-- a literal, a rule in memory -/
structure Lv where
  by_ : Tm
  pred : List UInt8
  a : Option Addr
  cap : Nat
  args : List Tm
  at_ : Tm
def Lv.l (x : Lv) : Lt := ⟨x.by_, x.pred, x.args, x.at_⟩
def lv (x : Lv) : List Value := [str x.by_.v, .bool x.by_.k.num, .int .i64 x.by_.k.n, str x.by_.k.s, str x.pred, .slice x.a x.args.length x.cap, str x.at_.v, .bool x.at_.k.num, .int .i64 x.at_.k.n, str x.at_.k.s]
abbrev lval (x : Lv) : Value := .agg #[str x.by_.v, .bool x.by_.k.num, .int .i64 x.by_.k.n, str x.by_.k.s, str x.pred, .slice x.a x.args.length x.cap, str x.at_.v, .bool x.at_.k.num, .int .i64 x.at_.k.n, str x.at_.k.s]
def lK : Kd Lv := ⟨lv, 10, fun _ => rfl, fun _ => rfl, by decide⟩
structure Rv where
  home : Tm
  pred : List UInt8
  a : Option Addr
  cap : Nat
  args : List Tm
  to_ : Tm
  ba : Option Addr
  bcap : Nat
  body : List Lv
def Rv.r (x : Rv) : Ru := ⟨x.home, x.pred, x.args, x.to_, x.body.map Lv.l⟩
def rv (x : Rv) : List Value := [str x.home.v, .bool x.home.k.num, .int .i64 x.home.k.n, str x.home.k.s, str x.pred, .slice x.a x.args.length x.cap, str x.to_.v, .bool x.to_.k.num, .int .i64 x.to_.k.n, str x.to_.k.s, .slice x.ba x.body.length x.bcap]
abbrev rval (x : Rv) : Value := .agg #[str x.home.v, .bool x.home.k.num, .int .i64 x.home.k.n, str x.home.k.s, str x.pred, .slice x.a x.args.length x.cap, str x.to_.v, .bool x.to_.k.num, .int .i64 x.to_.k.n, str x.to_.k.s, .slice x.ba x.body.length x.bcap]
def rK : Kd Rv := ⟨rv, 11, fun _ => rfl, fun _ => rfl, by decide⟩
def Lv.At (w : World) (x : Lv) : Prop := Row tK w x.a x.cap x.args
structure Rv.At (w : World) (x : Rv) : Prop where
  args : Row tK w x.a x.cap x.args
  body : Row lK w x.ba x.bcap x.body
  each : ∀ l ∈ x.body, Lv.At w l
theorem Lv.At.below {w w' : World} {x : Lv} {B : Nat} (h : Lv.At w x) (hb : Below B w w') (hB : w.heap.size ≤ B) : Lv.At w' x := Row.below h hb hB
theorem Rv.At.below {w w' : World} {x : Rv} {B : Nat} (h : Rv.At w x) (hb : Below B w w') (hB : w.heap.size ≤ B) : Rv.At w' x := ⟨h.args.below hb hB, h.body.below hb hB, fun l hl => (h.each l hl).below hb hB⟩

theorem kindOf_at (t : Tm) (w : World) : Calls Try.prog 101 #[tval t] w fun e w' => e = .returned (.int .u8 (kindT t : Int)) ∧ Grew w w' := by
  obtain ⟨v, ⟨a, b, c⟩⟩ := t
  go_enter Try.func101, Try.ntmps101
  go_wp2
  all_goals go_ret
  all_goals refine ⟨ret_int ?_, (Grew.refl _).allocs _⟩
  all_goals (cases v <;> cases c <;> simp_all [kindT, zeroK])
end Go.Proofs.Ytghhdbkgibpebaa
