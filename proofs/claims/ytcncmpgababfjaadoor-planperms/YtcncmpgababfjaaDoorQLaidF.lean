/-
  What the row's condition says of the package-level variables, in the walks' words; and that the program's own initialisers meet it.
-/
import Derived.Test.YtcncmpgababfjaaDoorQLd
import Derived.Test.YtcncmpgababfjaaDoorTie
import Derived.Lib.LaidTab
import Derived.LaidMore
import Derived.Stop.Joined
import Derived.Stop.LaidErr
namespace Go.Proofs.YtcncmpgababfjaaDoor
open Go.ChangeShapes Go.WideShapes Go.ChangeAt Go.RowKit

abbrev laid2 : List (String × DataW Unit) := [("math/bits.deBruijn32tab", Rows.laid_math_bits_deBruijn32tab), ("math/bits.deBruijn64tab", Rows.laid_math_bits_deBruijn64tab), ("internal/strconv.uint64pow10", Rows.laid_internal_strconv_uint64pow10), ("strconv.ErrRange", Rows.laid_strconv_ErrRange), ("strconv.ErrSyntax", Rows.laid_strconv_ErrSyntax)]
theorem Tryd.tTab : (Tryd.prog.globals[2]?).map (·.type) = some 124 := by kernel_rfl
theorem Tryd.cells64 : Tryd.prog.cellsOf 103 = 1 := by kernel_rfl
theorem Tryd.cellsTab : Tryd.prog.cellsOf 124 = 20 := by kernel_rfl
theorem Tryd.gSyn : Tryd.prog.globalNamed "strconv.ErrSyntax" = some 0 := by kernel_rfl
theorem Tryd.gRng : Tryd.prog.globalNamed "strconv.ErrRange" = some 1 := by kernel_rfl
theorem Tryd.tSyn : (Tryd.prog.globals[0]?).map (·.type) = some 86 := by kernel_rfl
theorem Tryd.tRng : (Tryd.prog.globals[1]?).map (·.type) = some 86 := by kernel_rfl
theorem Tryd.cellsEs : Tryd.prog.cellsOf 121 = 1 := by kernel_rfl
theorem Tryd.cellsStr : Tryd.prog.cellsOf 9 = 1 := by kernel_rfl
theorem Tryd.star : "*" ++ "errors.errorString" = "*errors.errorString" := by decide
theorem Tryd.rowEs (u : TypeId) (h : Tryd.prog.typeName? 3 u = some "*errors.errorString") : u = 119 :=
  typeName_ptr_named (nm := "errors.errorString") (by rw [Tryd.star]; kernel_rfl) (by kernel_rfl) (by decide) u (by rw [Tryd.star]; exact h)
theorem var_cell {P : Program} {W : World} {n : String} {g : Nat} {v : Value} (hg : P.globalNamed n = some g) (h : W.var? P n = some #[v]) : W.cell? ⟨g, 0, none⟩ = some v := by
  have := World.var?_cell hg h 0
  simpa using this
theorem laid_of {W : World} (h : laidMetH Tryd.prog laid2 W) : Laid W := by
  have h0 : laidMet Tryd.prog laid2 W := h
  have h1 := laidMet.tail (laidMet.tail h0)
  have h2 := laidMet.tail h1
  have h3 := laidMet.tail h2
  have t := Lib.tabIs_of_head (zs := Lib.pow10Tab) Tryd.gTab Tryd.tTab Tryd.underlying124 Tryd.underlying103 Tryd.cells64 Tryd.cellsTab h1
  obtain ⟨a1, s1, v1, _⟩ := laid_sentinel h2 Tryd.gRng Tryd.tRng Tryd.underlying86 Tryd.rowEs Tryd.underlying119 Tryd.underlying121 rfl rfl Tryd.underlying9 Tryd.cellsEs Tryd.cellsStr
  obtain ⟨a2, s2, v2, _⟩ := laid_sentinel h3 Tryd.gSyn Tryd.tSyn Tryd.underlying86 Tryd.rowEs Tryd.underlying119 Tryd.underlying121 rfl rfl Tryd.underlying9 Tryd.cellsEs Tryd.cellsStr
  exact ⟨t, ⟨_, _, var_cell Tryd.gSyn v2⟩, ⟨_, _, var_cell Tryd.gRng v1⟩⟩
theorem door_met (os : Os) (args : Array Value) : laidMetH Tryd.prog laid2 ((World.doorLaid Tryd.prog 62 os).forCall (fun _ _ => 0) ⟨#[], args, []⟩).memory :=
  laidMetH_of_parts3 (fuel := 8) (laidMet_of_run' 8 (by kernel_rfl) (by kernel_rfl)) (by kernel_rfl) (by kernel_rfl)
end Go.Proofs.YtcncmpgababfjaaDoor
