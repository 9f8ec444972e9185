/-
  What the row's condition says of the program's two tables, in the walks' words; and that the program's own initialisers meet it.
-/
import Derived.Test.YtfpdiafedoppnaaDoorAfter
import Derived.Test.YtfpdiafedoppnaaDoorTie
import Derived.Lib.LaidTab
import Derived.LaidMore
import Derived.Stop.Joined
import Derived.Stop.LaidErr
namespace Go.Proofs.YtfpdiafedoppnaaDoor
open Go.ChangeShapes Go.WideShapes Go.ChangeAt Go.RowKit

abbrev laid2 : List (String × DataW Unit) := [("avowal/hash.start", Rows.laid_avowal_hash_start), ("avowal/hash.mix", Rows.laid_avowal_hash_mix)]
def startZ : List Int := [1779033703, 3144134277, 1013904242, 2773480762, 1359893119, 2600822924, 528734635, 1541459225]
def mixZ : List Int := [1116352408, 1899447441, 3049323471, 3921009573, 961987163, 1508970993, 2453635748, 2870763221, 3624381080, 310598401, 607225278, 1426881987, 1925078388, 2162078206, 2614888103, 3248222580, 3835390401, 4022224774, 264347078, 604807628, 770255983, 1249150122, 1555081692, 1996064986, 2554220882, 2821834349, 2952996808, 3210313671, 3336571891, 3584528711, 113926993, 338241895, 666307205, 773529912, 1294757372, 1396182291, 1695183700, 1986661051, 2177026350, 2456956037, 2730485921, 2820302411, 3259730800, 3345764771, 3516065817, 3600352804, 4094571909, 275423344, 430227734, 506948616, 659060556, 883997877, 958139571, 1322822218, 1537002063, 1747873779, 1955562222, 2024104815, 2227730452, 2361852424, 2428436474, 2756734187, 3204031479, 3329325298]
theorem Tryd.gStart : Tryd.prog.globalNamed "avowal/hash.start" = some 0 := by kernel_rfl
theorem Tryd.gMix : Tryd.prog.globalNamed "avowal/hash.mix" = some 1 := by kernel_rfl
theorem Tryd.tStart : (Tryd.prog.globals[0]?).map (·.type) = some 97 := by kernel_rfl
theorem Tryd.tMix : (Tryd.prog.globals[1]?).map (·.type) = some 92 := by kernel_rfl
theorem Tryd.cells32 : Tryd.prog.cellsOf 90 = 1 := by kernel_rfl
theorem Tryd.cellsSt : Tryd.prog.cellsOf 97 = 8 := by kernel_rfl
theorem Tryd.cellsMx : Tryd.prog.cellsOf 92 = 64 := by kernel_rfl

theorem range_of_tab {W : World} {name : String} {zs : List Int} {g : Nat} {l : List Sm.Wd} (h : Lib.TabIs Tryd.prog W name .u32 zs) (hg : Tryd.prog.globalNamed name = some g) (hl : l.map (fun x => (x.toNat : Int)) = zs) : W.rangeAt g 0 (ws l) := fun j v hv => by
  have hj : j < l.length := by have := (List.getElem?_eq_some_iff.1 hv).1; rwa [ws_length] at this
  have hz : zs.length = l.length := by rw [← hl]; simp
  rw [Nat.zero_add, h.cell hg j (by omega), ← hv]
  simp [ws, ← hl, hj]
theorem laid_of {W : World} (h : laidMetH Tryd.prog laid2 W) : Laid W := by
  have h' : laidMet Tryd.prog laid2 W := h
  have h0 := Lib.tabIs_of_head (zs := startZ) Tryd.gStart Tryd.tStart Tryd.underlying97 Tryd.underlying90 Tryd.cells32 Tryd.cellsSt h'
  have h1 := Lib.tabIs_of_head (zs := mixZ) Tryd.gMix Tryd.tMix Tryd.underlying92 Tryd.underlying90 Tryd.cells32 Tryd.cellsMx (laidMet.tail h')
  exact ⟨range_of_tab h0 Tryd.gStart (by decide +kernel), range_of_tab h1 Tryd.gMix (by decide +kernel)⟩
theorem door_met (os : Os) (args : Array Value) : laidMetH Tryd.prog laid2 ((World.doorLaid Tryd.prog 19 os).forCall (fun _ _ => 0) ⟨#[], args, []⟩).memory :=
  laidMetH_of_parts3 (fuel := 8) (laidMet_of_run' 8 (by kernel_rfl) (by kernel_rfl)) (by kernel_rfl) (by kernel_rfl)
end Go.Proofs.YtfpdiafedoppnaaDoor
