/-
  Terms, literals and rules in memory: the kinds alone (a cut that has facts and no rules).
-/
import Derived.Test.YtomiefhfkdfgbaaRw
import Derived.Test.YtomiefhfkdfgbaaKt
import Derived.WalkMore
import Derived.Shelf.Abstract
namespace Go.Proofs.Ytomiefhfkdfgbaa
open Go.RowKit

def tv (t : Tm) : List Value := [str t.v, .bool t.k.num, .int .i64 t.k.n, str t.k.s]
abbrev tval (t : Tm) : Value := .agg #[str t.v, .bool t.k.num, .int .i64 t.k.n, str t.k.s]
def tK : Kd Tm := ⟨tv, 4, fun _ => rfl, fun _ => rfl, by decide⟩
/-- a literal, a rule in memory -/
structure Lv where
  by_ : Tm
  pred : List UInt8
  a : Option Addr
  cap : Nat
  args : List Tm
  at_ : Tm
def Lv.l (x : Lv) : Lt := ⟨x.by_, x.pred, x.args, x.at_⟩
def lv (x : Lv) : List Value := [str x.by_.v, .bool x.by_.k.num, .int .i64 x.by_.k.n, str x.by_.k.s, str x.pred, .slice x.a x.args.length x.cap, str x.at_.v, .bool x.at_.k.num, .int .i64 x.at_.k.n, str x.at_.k.s]
abbrev lval (x : Lv) : Value := .agg #[str x.by_.v, .bool x.by_.k.num, .int .i64 x.by_.k.n, str x.by_.k.s, str x.pred, .slice x.a x.args.length x.cap, str x.at_.v, .bool x.at_.k.num, .int .i64 x.at_.k.n, str x.at_.k.s]
def lK : Kd Lv := ⟨lv, 10, fun _ => rfl, fun _ => rfl, by decide⟩
structure Rv where
  home : Tm
  pred : List UInt8
  a : Option Addr
  cap : Nat
  args : List Tm
  to_ : Tm
  ba : Option Addr
  bcap : Nat
  body : List Lv
def Rv.r (x : Rv) : Ru := ⟨x.home, x.pred, x.args, x.to_, x.body.map Lv.l⟩
def rv (x : Rv) : List Value := [str x.home.v, .bool x.home.k.num, .int .i64 x.home.k.n, str x.home.k.s, str x.pred, .slice x.a x.args.length x.cap, str x.to_.v, .bool x.to_.k.num, .int .i64 x.to_.k.n, str x.to_.k.s, .slice x.ba x.body.length x.bcap]
abbrev rval (x : Rv) : Value := .agg #[str x.home.v, .bool x.home.k.num, .int .i64 x.home.k.n, str x.home.k.s, str x.pred, .slice x.a x.args.length x.cap, str x.to_.v, .bool x.to_.k.num, .int .i64 x.to_.k.n, str x.to_.k.s, .slice x.ba x.body.length x.bcap]
def rK : Kd Rv := ⟨rv, 11, fun _ => rfl, fun _ => rfl, by decide⟩
abbrev ptr (p : Nat) : Value := .pointer (some ⟨p, 0, none⟩)
end Go.Proofs.Ytomiefhfkdfgbaa
