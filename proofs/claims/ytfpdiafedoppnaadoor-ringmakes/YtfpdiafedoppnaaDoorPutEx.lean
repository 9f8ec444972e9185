/-
  The contracts of the program's and the reference's PutText, told by the bytes that come out.
-/
import Derived.Test.YtfpdiafedoppnaaDoorRefPut
namespace Go.Proofs.YtfpdiafedoppnaaDoor
open Go.RowKit

theorem putText_ex (a : Option Addr) (n c m : Nat) (l s T : List UInt8) (w : World) (hn : l.length = n) (ha : Holds w a c l) (hr : n + (10 + s.length) ≤ 281474976710656)
    (hT : l ++ Pm.vb (Pm.tb s.length) ++ s = T) (hm : T.length = m) :
    Calls Tryd.prog 34 #[.slice a n c, str s] w fun e w' => ∃ g cap, e = .returned (.slice (some ⟨g, 0, none⟩) m cap) ∧ Own w' w.heap.size g m cap T ∧ Below w.heap.size w w' := by
  subst hn hT hm
  exact (putText_any a c l s w ha hr).mono fun e w' ⟨g, cap, he, _, ho, hb⟩ => ⟨g, cap, he, ho, hb⟩
theorem rputText_ex (a : Option Addr) (n c m : Nat) (l s T : List UInt8) (w : World) (hn : l.length = n) (ha : Holds w a c l) (hr : n + (10 + s.length) ≤ 140737488355328)
    (hT : l ++ Pm.vb (Pm.tb s.length) ++ s = T) (hm : T.length = m) :
    Calls Tryd.prog 40 #[.slice a n c, str s] w fun e w' => ∃ g cap, e = .returned (.slice (some ⟨g, 0, none⟩) m cap) ∧ Own w' w.heap.size g m cap T ∧ Below w.heap.size w w' := by
  subst hn hT hm
  exact rputText_any a c l s w ha hr
end Go.Proofs.YtfpdiafedoppnaaDoor
