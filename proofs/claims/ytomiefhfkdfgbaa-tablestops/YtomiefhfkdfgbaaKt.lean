/-
  Constants, terms, literals, rules, facts: what every layer speaks of. No memory, no program.
-/
import Derived.KernelRfl
namespace Go.Proofs.Ytomiefhfkdfgbaa

/-- a constant, a term, a literal, a rule, a fact -/
structure K where
  num : Bool
  n : Int
  s : List UInt8
structure Tm where
  v : List UInt8
  k : K
structure Lt where
  by_ : Tm
  pred : List UInt8
  args : List Tm
  at_ : Tm
structure Ru where
  home : Tm
  pred : List UInt8
  args : List Tm
  to_ : Tm
  body : List Lt
structure F where
  at_ : List UInt8
  by_ : List UInt8
  pred : List UInt8
  ks : List K
def k0 : K := ⟨false, 0, []⟩
def t0 : Tm := ⟨[], k0⟩
end Go.Proofs.Ytomiefhfkdfgbaa
