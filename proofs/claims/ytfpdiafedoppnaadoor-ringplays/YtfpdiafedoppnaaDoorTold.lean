/-
  The contract of what tells a state byte by byte.
-/
import Derived.Test.YtfpdiafedoppnaaDoorPad
namespace Go.Proofs.YtfpdiafedoppnaaDoor
open Go.RowKit

theorem Tryd.infoDigest : (Tryd.prog.info? 42).map (·.size) = some 32 := by kernel_rfl

structure ToldAt (w : World) (s : List Sm.Wd) (k : Nat) (wr : World) : Prop where
  d : wr.rangeAt (w.heap.size + 1 + 1) 0 (cs (Sm.toldTo s k))
  dT : wr.there (w.heap.size + 1 + 1) 0 32
  res : wr.there (w.heap.size + 1) 0 32
  bel : Below w.heap.size w wr
theorem ToldAt.next {w : World} {s : List Sm.Wd} {k : Nat} {wr : World} (h : ToldAt w s k wr) (hk : k < 32) (v : Value) (hv : v = .int .u8 ((Sm.toldByte s k).toNat : Int)) : ToldAt w s (k + 1) (wr.setCell ⟨w.heap.size + 1 + 1, k, none⟩ v) := by
  subst hv
  refine ⟨?_, there_set h.dT _ _ _, there_set h.res _ _ _, h.bel.setCell (p := ⟨w.heap.size + 1 + 1, k, none⟩) (by show w.heap.size ≤ w.heap.size + 1 + 1; omega) _⟩
  rw [Sm.toldTo_succ s k hk, ← cs_set]
  exact rangeAt_set h.d k _

theorem run_index_words (s : List Sm.Wd) (i : Nat) (w : World) (hs : s.length = 8) (hi : i < 8) : (Instr.index 97 (.agg (ws s).toArray) (.int .i64 (i : Int))).run Tryd.prog w = .ok (wv (Sm.at' s i)) w := by
  obtain ⟨a, b, c, d, e, f, g, h, rfl⟩ := Sm.eight hs
  have : i = 0 ∨ i = 1 ∨ i = 2 ∨ i = 3 ∨ i = 4 ∨ i = 5 ∨ i = 6 ∨ i = 7 := by omega
  rcases this with rfl | rfl | rfl | rfl | rfl | rfl | rfl | rfl <;> (refine @id (_ = _) ?_; kernel_rfl)

set_option maxRecDepth 100000 in
set_option maxHeartbeats 1600000 in
theorem told_any (s : List Sm.Wd) (w : World) (hs : s.length = 8) :
    Calls Tryd.prog 56 #[wa s] w fun r w' => r = .returned (ba (Sm.told s)) ∧ Below w.heap.size w w' := by
  have iS : (Tryd.prog.info? 97).map (·.size) = some (ws s).length := by rw [ws_length, hs]; exact Tryd.infoState
  go_enter Tryd.func56, Tryd.ntmps56
  go_wp2_with (refine wpList_load_mid rfl 97 _ rfl w.heap.size 0 rfl (ws s) _ ?ld Tryd.underlying97 rfl iS ?_)
  case ld => exact World.rangeAt_alloc (World.rangeAt_alloc (rangeAt_new w _ _ (ws s) (by simp)) _) _
  go_loopw [8] (fun v wr => ∃ i : Nat, v = .int .i64 (i : Int) ∧ i ≤ 8 ∧ ToldAt w s (4 * i) wr) (fun v _ => 8 - (intOf v).toNat)
  case atStart =>
    refine ⟨0, rfl, by omega, ?_, ?_, ?_, ?_⟩
    · have := rangeAt_new ((w.alloc (.cells (ws s).toArray 97)).alloc (.cells (cs (Sm.zeros 32)).toArray 42)) (cs (Sm.zeros 32)).toArray 42 (cs (Sm.zeros 32)) (by simp)
      simp at this
      rw [show 4 * 0 = 0 from rfl, Sm.toldTo_zero]
      exact this
    · have := there_new ((w.alloc (.cells (ws s).toArray 97)).alloc (.cells (cs (Sm.zeros 32)).toArray 42)) (cs (Sm.zeros 32)).toArray 42 32 rfl
      simp at this
      exact this
    · have := there_new (w.alloc (.cells (ws s).toArray 97)) (cs (Sm.zeros 32)).toArray 42 32 rfl
      simp at this
      exact World.there_alloc this _
    · exact Below.then (below_alloc _ _) (Below.then (below_alloc _ _) (below_alloc _ _))
  case round =>
    obtain ⟨i, rfl, hi, hr⟩ := hrel
    by_cases h8 : i < 8
    · have r1 : (i : Int) < 8 := by omega
      have ci := run_index_words s i wr hs h8
      go_wp2_with fail
      go_loopw [12] (fun v wr => ∃ j : Nat, v = .int .i64 (j : Int) ∧ j ≤ 4 ∧ ToldAt w s (4 * i + j) wr) (fun v _ => 4 - (intOf v).toNat)
      case atStart => exact ⟨0, rfl, by omega, hr⟩
      case round =>
        clear hr ci
        obtain ⟨j, rfl, hj, hr⟩ := hrel
        by_cases h4 : j < 4
        · have r2 : (j : Int) < 4 := by omega
          obtain ⟨q, hq⟩ : ∃ q, q = 4 * i + j := ⟨_, rfl⟩
          obtain ⟨m, hm⟩ : ∃ m, m = 24 - 8 * j := ⟨_, rfl⟩
          have r3 : (4 : Int) * (i : Int) + (j : Int) = (q : Int) := by omega
          have r4 : (24 : Int) - 8 * (j : Int) = (m : Int) := by omega
          have r5 : (q : Int) < 32 := by omega
          have hsp := Sm.toldByte_spell s i j m h4 hm
          rw [← hq] at hr hsp
          have hst := hr.dT q (by omega)
          rw [Nat.zero_add] at hst
          obtain ⟨hs1, hs2⟩ := hst
          obtain ⟨u0, hu0⟩ := Option.isSome_iff_exists.1 hs1
          clear hs1
          have hnx := hr.next (by omega) (.int .u8 (((Sm.at' s i).toNat : Int) / 2 ^ m % 256)) (by rw [hsp])
          rw [show q + 1 = 4 * i + (j + 1) by omega] at hnx
          clear hsp hq hm hr
          go_wp2_with fail
          refine ⟨⟨j + 1, by simp, by omega, ?_⟩, by simp [intOf]; omega⟩
          exact hnx
        · have e4 : j = 4 := by omega
          rw [e4, show 4 * i + 4 = 4 * (i + 1) by omega] at hr
          clear e4
          have r2 : ¬ (j : Int) < 4 := by omega
          clear h4 hj
          go_wp2_with fail
          refine ⟨⟨i + 1, by simp, by omega, hr⟩, by simp [intOf]; omega⟩
    · have e8 : i = 8 := by omega
      rw [e8, show 4 * 8 = 32 from rfl] at hr
      clear e8
      have r1 : ¬ (i : Int) < 8 := by omega
      clear h8 hi
      have hd := hr.d
      rw [Sm.toldTo_all] at hd
      have hl := Sm.told_length s
      have iD : (Tryd.prog.info? 42).map (·.size) = some (cs (Sm.told s)).length := by rw [cs_length, hl]; exact Tryd.infoDigest
      have oD := cs_one (Sm.told s)
      have tD : wr.there (w.heap.size + 1) 0 (cs (Sm.told s)).length := by rw [cs_length, hl]; exact hr.res
      have P6 := below_cells (Nat.le_succ _) (cs (Sm.told s)) 0 wr hr.bel
      have R6 := World.rangeAt_setCells_same wr (w.heap.size + 1) 0 (cs (Sm.told s)) tD
      clear hr hl
      go_wp2_with (first | (refine wpList_load_mid rfl 42 _ rfl (w.heap.size + 1 + 1) 0 rfl (cs (Sm.told s)) _ hd Tryd.underlying42 rfl iD ?_; clear hd) | (refine wpList_store_ex rfl 42 _ _ rfl (w.heap.size + 1) 0 (cs (Sm.told s)) rfl rfl tD iD oD ?_; intro w6 hw6; rw [hw6] at P6 R6; clear tD hw6))
      exact bodyPost_ret (results_cell (b := w.heap.size + 1) (o := 0) (cs := cs (Sm.told s)) rfl rfl R6 Tryd.underlying42 rfl iD) rfl ⟨rfl, P6⟩
end Go.Proofs.YtfpdiafedoppnaaDoor
