/-
  The contract of one round.
-/
import Derived.Test.YtfpdiafedoppnaaDoorRot
import Derived.BigQuiet
import Derived.Deep.QuietTactic
import Derived.StillTailTactics
import Derived.WalkSmall
namespace Go.Proofs.YtfpdiafedoppnaaDoor
open Go.RowKit

/-- the cells of some words -/
def ws (l : List Sm.Wd) : List Value := l.map wv
theorem ws_length (l : List Sm.Wd) : (ws l).length = l.length := by simp [ws]
abbrev wa (l : List Sm.Wd) : Value := .agg (ws l).toArray

theorem Tryd.infoState : (Tryd.prog.info? 97).map (·.size) = some 8 := by kernel_rfl

/-- what a function hands back out of a variable of its own -/
theorem results_cell {P : Program} {fn : Func} {p : Tmp} {ty : TypeId} {tmps : Array Value} {w : World} {b o : Nat} {cs : List Value} {d : TypeDesc} (h : fn.results = #[.cell p ty]) (hp : tmps.getD p undef = .pointer (some ⟨b, o, none⟩)) (hc : w.rangeAt b o cs)
    (hu : P.underlying ty = some d) (hd : d.isRow = true) (hi : (P.info? ty).map (·.size) = some cs.length) : (results fn tmps).run P w = .ok (.agg cs.toArray) w := by
  simp only [Array.getD_eq_getD_getElem?] at hp
  simp only [results, h]
  simp [asAddr, hp, run_loadVar_mid w b o ty cs d hc hu hd hi]

theorem below_cells {B b : Nat} {a : World} (hb : B ≤ b) : ∀ (vs : List Value) (o : Nat) (w : World), Below B a w → Below B a (w.setCells b o vs)
  | [], _, _, h => h
  | v :: r, o, w, h => by rw [World.setCells]; exact below_cells hb r (o + 1) _ (h.setCell (p := ⟨b, o, none⟩) hb v)
theorem there_new (w : World) (c : Array Value) (t : TypeId) (n : Nat) (h : c.size = n) : (w.alloc (.cells c t)).there w.heap.size 0 n := fun j hj => by
  have hb : (w.alloc (.cells c t)).heap[w.heap.size]? = some (.cells c t) := heap_alloc_new w _
  constructor
  · rw [cell_of_row _ _ _ c t (0, 0) hb]; simp; omega
  · unfold World.frozen?; rw [hb]; simp
theorem there_drewN {w : World} {b o k : Nat} (h : w.there b o k) (n : Nat) : (w.drewN n).there b o k := fun j hj => h j hj
theorem rangeAt_drewN {w : World} {b o : Nat} {cs : List Value} (h : w.rangeAt b o cs) (n : Nat) : (w.drewN n).rangeAt b o cs := fun j v hv => h j v hv

set_option maxRecDepth 100000 in
set_option maxHeartbeats 800000 in
theorem turned_any (a b c d e f g i x : Sm.Wd) (w : World) :
    Calls Tryd.prog 59 #[.agg #[wv a, wv b, wv c, wv d, wv e, wv f, wv g, wv i], wv x] w fun r w' => r = .returned (wa (Sm.turned [a, b, c, d, e, f, g, i] x)) ∧ Below w.heap.size w w' := by
  rw [Sm.turned_def]
  go_enter Tryd.func59, Tryd.ntmps59
  go_wp2_with fail
  go_quiet (fail)
  go_wp2_with fail
  go_quiet (first | (go_at_call 60; exact (rot_at _ _ _ (by decide) (by decide)).mono fun _ _ hh => ⟨hh.1, _, hh.2⟩))
  go_wp2_with (go_at_call 60; refine (rot_at _ _ _ (by decide) (by decide)).mono ?_; rintro e w' ⟨rfl, rfl⟩)
  simp only [Sm.xor_eq, Sm.and_eq, Sm.not_eq', Sm.add_eq', Sm.sumA, Sm.sumE]
  have ht1 := there_new (w.alloc (.cells #[wv a, wv b, wv c, wv d, wv e, wv f, wv g, wv i] 97)) #[.int .u32 0, .int .u32 0, .int .u32 0, .int .u32 0, .int .u32 0, .int .u32 0, .int .u32 0, .int .u32 0] 97 8 rfl
  refine bodyPost_ret (results_cell (b := w.heap.size + 1) (o := 0) (cs := ws (Sm.turned0 [a, b, c, d, e, f, g, i] x)) rfl rfl ?_ Tryd.underlying97 rfl Tryd.infoState) rfl ⟨rfl, ?_⟩
  · refine World.rangeAt_setCells_same _ _ _ (ws (Sm.turned0 [a, b, c, d, e, f, g, i] x)) ?_
    exact there_drewN (by simpa [ws_length, Sm.turned0] using ht1) _
  · refine below_cells (Nat.le_succ _) (ws (Sm.turned0 [a, b, c, d, e, f, g, i] x)) 0 _ ?_
    exact below_drewN (Below.then (below_alloc _ _) (below_alloc _ _)) _

theorem turned_at (s : List Sm.Wd) (x : Sm.Wd) (w : World) (hs : s.length = 8) :
    Calls Tryd.prog 59 #[wa s, wv x] w fun r w' => r = .returned (wa (Sm.turned s x)) ∧ Below w.heap.size w w' := by
  obtain ⟨a, b, c, d, e, f, g, i, rfl⟩ := Sm.eight hs
  exact turned_any a b c d e f g i x w
end Go.Proofs.YtfpdiafedoppnaaDoor
