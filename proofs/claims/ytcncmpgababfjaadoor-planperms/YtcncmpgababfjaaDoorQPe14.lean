/-
  The example of chapter 14, by the mathematics. No program in this text.
-/
import Derived.Test.YtcncmpgababfjaaDoorQJa14
import Derived.Test.YtcncmpgababfjaaDoorQPa
import Derived.WalkKit
namespace Go.Proofs.YtcncmpgababfjaaDoor
namespace Pn

abbrev lx14 : List UInt8 := [65, 58, 32, 112, 40, 41, 32, 58, 45, 32, 113, 40, 88, 41, 44, 32, 114, 40, 88, 44, 32, 89, 41, 44, 32, 115, 40, 49, 44, 32, 89, 41, 46]
def ex14 : Ru := ⟨⟨[65], k0⟩, [112], [], t0, [⟨t0, [113], [⟨[88], k0⟩], t0⟩, ⟨t0, [114], [⟨[88], k0⟩, ⟨[89], k0⟩], t0⟩, ⟨t0, [115], [⟨[], ⟨true, 1, []⟩⟩, ⟨[89], k0⟩], t0⟩]⟩
set_option maxRecDepth 100000 in
theorem px14 : Ps.prog lx14 = .ok [ex14] := by kernel_rfl
set_option maxRecDepth 100000 in
theorem ord14 : ord ex14 (-1) = [2, 1, 0] ∧ ord ex14 0 = [0, 1, 2] := ⟨by kernel_rfl, by kernel_rfl⟩
end Pn
end Go.Proofs.YtcncmpgababfjaaDoor
