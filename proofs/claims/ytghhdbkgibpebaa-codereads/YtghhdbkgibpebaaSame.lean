/-
  Whether two are the same bytes: the contract of the statements' own Same.
-/
import Derived.Test.YtghhdbkgibpebaaBase
import Derived.Deep.Light
namespace Go.Proofs.Ytghhdbkgibpebaa
open Go.RowKit

set_option maxHeartbeats 400000 in
theorem same_any (a b : Option Addr) (ca cb : Nat) (l m : List UInt8) (w : World) (ha : Holds w a ca l) (hb : Holds w b cb m) :
    Calls Try.prog 16 #[.slice a l.length ca, .slice b m.length cb] w fun e w' => e = .returned (.bool (l == m)) ∧ w = w' := by
  have c1 := conv ha
  have c2 := conv hb
  clear ha hb
  go_enter Try.func16, Try.ntmps16
  go_wp2
  go_ret
  exact ⟨rfl, rfl⟩
theorem same_at (a b : Option Addr) (n m ca cb : Nat) (l k : List UInt8) (w : World) (hl : l.length = n) (hk : k.length = m) (ha : Holds w a ca l) (hb : Holds w b cb k) :
    Calls Try.prog 16 #[.slice a n ca, .slice b m cb] w fun e w' => e = .returned (.bool (l == k)) ∧ w = w' := by
  subst hl hk
  exact same_any a b ca cb l k w ha hb
end Go.Proofs.Ytghhdbkgibpebaa
