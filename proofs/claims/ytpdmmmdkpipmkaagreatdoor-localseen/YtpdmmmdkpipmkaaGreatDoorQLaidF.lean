/-
  What the row's condition says of the package-level variables, in the walks' words; and that the program's own initialisers meet it.
-/
import Derived.Test.YtpdmmmdkpipmkaaGreatDoorQLd
import Derived.Test.YtpdmmmdkpipmkaaGreatDoorTie
import Derived.Lib.LaidTab
import Derived.LaidMore
import Derived.Stop.Joined
import Derived.Stop.LaidErr
namespace Go.Proofs.YtpdmmmdkpipmkaaGreatDoor
open Go.ChangeShapes Go.WideShapes Go.ChangeAt Go.RowKit

abbrev laid2 : List (String × DataW Unit) := [("math/bits.deBruijn32tab", Rows.laid_math_bits_deBruijn32tab), ("math/bits.deBruijn64tab", Rows.laid_math_bits_deBruijn64tab), ("internal/strconv.uint64pow10", Rows.laid_internal_strconv_uint64pow10), ("strconv.ErrRange", Rows.laid_strconv_ErrRange), ("strconv.ErrSyntax", Rows.laid_strconv_ErrSyntax)]
theorem Tryz.tTab : (Tryz.prog.globals[1]?).map (·.type) = some 282 := by kernel_rfl
theorem Tryz.cells64 : Tryz.prog.cellsOf 231 = 1 := by kernel_rfl
theorem Tryz.cellsTab : Tryz.prog.cellsOf 282 = 20 := by kernel_rfl
theorem Tryz.gSyn : Tryz.prog.globalNamed "strconv.ErrSyntax" = some 2 := by kernel_rfl
theorem Tryz.gRng : Tryz.prog.globalNamed "strconv.ErrRange" = some 3 := by kernel_rfl
theorem Tryz.tSyn : (Tryz.prog.globals[2]?).map (·.type) = some 205 := by kernel_rfl
theorem Tryz.tRng : (Tryz.prog.globals[3]?).map (·.type) = some 205 := by kernel_rfl
theorem Tryz.cellsEs : Tryz.prog.cellsOf 305 = 1 := by kernel_rfl
theorem Tryz.cellsStr : Tryz.prog.cellsOf 9 = 1 := by kernel_rfl
theorem Tryz.star : "*" ++ "errors.errorString" = "*errors.errorString" := by decide
theorem Tryz.rowEs (u : TypeId) (h : Tryz.prog.typeName? 3 u = some "*errors.errorString") : u = 303 :=
  typeName_ptr_named (nm := "errors.errorString") (by rw [Tryz.star]; kernel_rfl) (by kernel_rfl) (by decide) u (by rw [Tryz.star]; exact h)
theorem var_cell {P : Program} {W : World} {n : String} {g : Nat} {v : Value} (hg : P.globalNamed n = some g) (h : W.var? P n = some #[v]) : W.cell? ⟨g, 0, none⟩ = some v := by
  have := World.var?_cell hg h 0
  simpa using this
theorem laid_of {W : World} (h : laidMetH Tryz.prog laid2 W) : Laid W := by
  have h0 : laidMet Tryz.prog laid2 W := h
  have h1 := laidMet.tail (laidMet.tail h0)
  have h2 := laidMet.tail h1
  have h3 := laidMet.tail h2
  have t := Lib.tabIs_of_head (zs := Lib.pow10Tab) Tryz.gTab Tryz.tTab Tryz.underlying282 Tryz.underlying231 Tryz.cells64 Tryz.cellsTab h1
  obtain ⟨a1, s1, v1, _⟩ := laid_sentinel h2 Tryz.gRng Tryz.tRng Tryz.underlying205 Tryz.rowEs Tryz.underlying303 Tryz.underlying305 rfl rfl Tryz.underlying9 Tryz.cellsEs Tryz.cellsStr
  obtain ⟨a2, s2, v2, _⟩ := laid_sentinel h3 Tryz.gSyn Tryz.tSyn Tryz.underlying205 Tryz.rowEs Tryz.underlying303 Tryz.underlying305 rfl rfl Tryz.underlying9 Tryz.cellsEs Tryz.cellsStr
  exact ⟨t, ⟨_, _, var_cell Tryz.gSyn v2⟩, ⟨_, _, var_cell Tryz.gRng v1⟩⟩
theorem door_met (os : Os) (args : Array Value) : laidMetH Tryz.prog laid2 ((World.doorLaid Tryz.prog 62 os).forCall (fun _ _ => 0) ⟨#[], args, []⟩).memory :=
  laidMetH_of_parts3 (fuel := 8) (laidMet_of_run' 8 (by kernel_rfl) (by kernel_rfl)) (by kernel_rfl) (by kernel_rfl)
end Go.Proofs.YtpdmmmdkpipmkaaGreatDoor
