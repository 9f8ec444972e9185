/-
  Rules that a text was parsed as.
-/
import Derived.Test.YtpdmmmdkpipmkaaGreatDoorQPj
import Derived.Test.YtpdmmmdkpipmkaaGreatDoorQSj
import Derived.Test.YtpdmmmdkpipmkaaGreatDoorQLs9
import Derived.Test.YtpdmmmdkpipmkaaGreatDoorQLr13
namespace Go.Proofs.YtpdmmmdkpipmkaaGreatDoor
open Go.RowKit Go.Lib Go.Shelf

/-- rules that a text was parsed as: told by a slice of that many -/
theorem RowsAt.rws {w : World} {l : List Ru} {a : Option Addr} {n c : Nat} (h : RowsAt w l (.slice a n c)) : ∃ xs : List Rv, xs.length = n ∧ xs.map Rv.r = l ∧ Rws w a c xs := by
  obtain ⟨a', c', xs, h1, h2, h3⟩ := h.weak
  simp only [Value.slice.injEq] at h1
  obtain ⟨rfl, rfl, rfl⟩ := h1
  exact ⟨xs, rfl, h2, h3⟩
theorem map_in {xs : List Rv} {l : List Ru} (he : xs.map Rv.r = l) (h : ∀ r ∈ l, Sh.RIn r) : ∀ x ∈ xs, Sh.RIn x.r := fun x hx => h _ (by rw [← he]; exact List.mem_map_of_mem hx)

end Go.Proofs.YtpdmmmdkpipmkaaGreatDoor

/-
  A text's check; the document's examples.
-/
namespace Go.Proofs.YtpdmmmdkpipmkaaGreatDoor
open Go.RowKit Go.Lib Go.Shelf

theorem parsed_rules {l : List UInt8} {r : List Ru} (hp : Ps.prog l = .ok r) (W : World) (a : Option Addr) (n c : Nat) (h : Laid W) (hr : RowsAt W r (.slice a n c)) :
    Calls Tryz.prog 26 #[.slice a n c] W fun e w' => e = .returned (ansV (Ck.prog r)) ∧ Below W.heap.size W w' := by
  obtain ⟨xs, rfl, h2, h3⟩ := hr.rws
  rw [← h2]
  exact checkProg_at a c xs W h h3 (map_in h2 (Sh.prog_good hp).1)

abbrev lx1 : List UInt8 := [65, 58, 32, 112, 40, 88, 41, 32, 58, 45, 32, 113, 40, 89, 41, 46]
abbrev lx2 : List UInt8 := [65, 58, 32, 112, 40, 41, 32, 58, 45, 32, 113, 40, 88, 41, 32, 97, 116, 32, 88, 46]
abbrev lx3 : List UInt8 := [65, 58, 32, 112, 40, 41, 32, 58, 45, 32, 114, 40, 88, 41, 44, 32, 113, 40, 88, 41, 32, 97, 116, 32, 88, 46]
abbrev tvA (c : UInt8) : Tm := ⟨[c], ⟨false, 0, []⟩⟩
abbrev tn0 : Tm := ⟨[], ⟨false, 0, []⟩⟩
abbrev rx1 : List Ru := [⟨tvA 65, [112], [tvA 88], tn0, [⟨tn0, [113], [tvA 89], tn0⟩]⟩]
abbrev rx2 : List Ru := [⟨tvA 65, [112], [], tn0, [⟨tn0, [113], [tvA 88], tvA 88⟩]⟩]
abbrev rx3 : List Ru := [⟨tvA 65, [112], [], tn0, [⟨tn0, [114], [tvA 88], tn0⟩, ⟨tn0, [113], [tvA 88], tvA 88⟩]⟩]
set_option maxRecDepth 100000 in
theorem px1 : Ps.prog lx1 = .ok rx1 := by kernel_rfl
set_option maxRecDepth 100000 in
theorem px2 : Ps.prog lx2 = .ok rx2 := by kernel_rfl
set_option maxRecDepth 100000 in
theorem px3 : Ps.prog lx3 = .ok rx3 := by kernel_rfl
theorem cx1 : Ck.prog rx1 = (104, 0, -1) := by kernel_rfl
theorem cx2 : Ck.prog rx2 = (103, 0, 0) := by kernel_rfl
theorem cx3 : Ck.prog rx3 = (0, -1, -1) := by kernel_rfl

end Go.Proofs.YtpdmmmdkpipmkaaGreatDoor
