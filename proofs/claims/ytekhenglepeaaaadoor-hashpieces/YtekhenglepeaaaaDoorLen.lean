/-
  The contract of Len.
-/
import Derived.Test.YtekhenglepeaaaaDoorObj
namespace Go.Proofs.YtekhenglepeaaaaDoor
open Go.RowKit

theorem len_any (w : World) (h : Nat) (l : List UInt8) (r : Rep w h l) :
    Calls Tryd.prog 15 #[.pointer (some ⟨h, 0, none⟩)] w fun e w' => e = .returned (.int .i64 (l.length : Int)) ∧ w = w' := by
  have hn := r.n
  go_enter Tryd.func15, Tryd.ntmps15
  go_wp2_with (go_at_call 20; refine (fromNew_any _ h true r.made).mono ?_; rintro e w' ⟨rfl, rfl⟩)
  go_ret
  exact ⟨rfl, rfl⟩
end Go.Proofs.YtekhenglepeaaaaDoor
