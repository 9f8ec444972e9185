/-
  Whether a ring's book has something: Made.
-/
import Derived.Test.YtfpdiafedoppnaaDoorRh
import Derived.Deep.RegionHeld3
namespace Go.Proofs.YtfpdiafedoppnaaDoor
open Go.RowKit

theorem Holds.fits {w : World} {a : Option Addr} {c : Nat} {l : List UInt8} (_ : Holds w a c l) (hl : l.length ≤ 140737488355328) : l.length ≤ maxLen := by unfold maxLen; omega

set_option maxRecDepth 100000 in
set_option maxHeartbeats 1600000 in
theorem made6 (w : World) (rb g cap bm : Nat) (seed : Int) (N : List (List UInt8)) (L : List P3) (who dom txt : List UInt8) (a : Option Addr) (c : Nat) (r : RingAt w rb g cap bm seed N L) (ha : Holds w a c txt) (hf : Fits (who, dom, txt)) :
    Calls Tryd.prog 23 #[.pointer (some ⟨rb, 0, none⟩), str who, str dom, .slice a txt.length c] w fun e w' => e = .returned (.bool (decide ((who, dom, txt) ∈ L))) ∧ Below w.heap.size w w' := by
  have kk : ∀ W, Below w.heap.size w W → W.cell? ⟨rb, 1, none⟩ = some (.map (some bm)) ∧ (convert 38 9 (.slice a txt.length c)).run Tryd.prog W = .ok (str txt) W ∧ (Instr.lookup 56 (.map (some bm)) (.agg #[str who, str dom, str txt]) true).run Tryd.prog W = .ok (.tuple #[.agg #[], .bool (decide ((who, dom, txt) ∈ L))]) W := fun W h =>
    ⟨(r.below h).c1, conv (ha.below h), (r.below h).book.look (who, dom, txt) hf⟩
  have c1 := r.c1
  generalize decide ((who, dom, txt) ∈ L) = d at *
  go_enter Tryd.func23, Tryd.ntmps23
  go_wp2_with fail
  refine (fromNew6 w rb bm c1).mono ?_
  rintro _ w1 ⟨rfl, rfl⟩
  go_wp2_with fail
  have bD : Below w.heap.size w w.drew := (Below.refl w.heap.size w).drew
  have bA : ∀ o, Below w.heap.size w (w.drew.alloc o) := fun o => Below.then bD (below_alloc _ o)
  go_region_held3 (fun W => W.cell? ⟨rb, 1, none⟩ = some (.map (some bm)) ∧ (convert 38 9 (.slice a txt.length c)).run Tryd.prog W = .ok (str txt) W ∧ (Instr.lookup 56 (.map (some bm)) (.agg #[str who, str dom, str txt]) true).run Tryd.prog W = .ok (.tuple #[.agg #[], .bool d]) W)
    (first | exact kk _ bD | exact kk _ (bA _)) (fail)
  all_goals go_wp2_with fail
  all_goals go_ret
  all_goals exact ⟨rfl, bA _⟩
end Go.Proofs.YtfpdiafedoppnaaDoor
