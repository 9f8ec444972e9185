/-
  The contracts of the reference's PutInt and PutText: they lay the bytes that Pm.vb gives, in memory of their own; nothing that was there turns.
-/
import Derived.Test.YtghhdbkgibpebabPutText
namespace Go.Proofs.Ytghhdbkgibpebab
open Go.RowKit Go.Lib

theorem hideP {p : Prop} (h : p) : Hid p := h

/-- the loop and what follows it, whatever the bits' own way there -/
theorem u64_two {x : Int} {U : Nat} (h : x % 18446744073709551616 = (U : Int)) : IntKind.u64.wrap x = (U : Int) := by rw [IntKind.wrap_u64]; exact h

end Go.Proofs.Ytghhdbkgibpebab

/-
  The contracts of the program's and the reference's PutText, told by the bytes that come out.
-/
namespace Go.Proofs.Ytghhdbkgibpebab
open Go.RowKit

theorem putText_ex (a : Option Addr) (n c m : Nat) (l s T : List UInt8) (w : World) (hn : l.length = n) (ha : Holds w a c l) (hr : n + (10 + s.length) ≤ 281474976710656)
    (hT : l ++ Pm.vb (Pm.tb s.length) ++ s = T) (hm : T.length = m) :
    Calls Try.prog 48 #[.slice a n c, str s] w fun e w' => ∃ g cap, e = .returned (.slice (some ⟨g, 0, none⟩) m cap) ∧ Own w' w.heap.size g m cap T ∧ Below w.heap.size w w' := by
  subst hn hT hm
  exact (putText_any a c l s w ha hr).mono fun e w' ⟨g, cap, he, _, ho, hb⟩ => ⟨g, cap, he, ho, hb⟩
end Go.Proofs.Ytghhdbkgibpebab
