/-
  The walk of RingNone: a ring that no call made has nobody.
-/
import Derived.Test.YtfpdiafedoppnaaDoorRa
namespace Go.Proofs.YtfpdiafedoppnaaDoor
open Go.RowKit

set_option maxRecDepth 100000 in
set_option maxHeartbeats 3200000 in
theorem ringNone_walk (x : Av) (w : World) (hL : Laid w) (_ : Av.At w x) :
    Calls Tryd.prog 8 #[x.val] w fun e w' => e = .returned (.bool true) ∧ Below w.heap.size w w' := by
  go_enter Tryd.func8, Tryd.ntmps8
  go_wp2_with fail
  have B0 := below_alloc w (.cells #[.int .i64 x.kind, str x.who, str x.dom, .slice x.ta x.txt.length x.tc, .slice x.ga x.tag.length x.gc] 40)
  have a0 := act_new w x
  have s0 : (w.alloc (.cells #[.int .i64 x.kind, str x.who, str x.dom, .slice x.ta x.txt.length x.tc, .slice x.ga x.tag.length x.gc] 40)).heap.size = w.heap.size + 1 := by simp
  generalize w.alloc (.cells #[.int .i64 x.kind, str x.who, str x.dom, .slice x.ta x.txt.length x.tc, .slice x.ga x.tag.length x.gc] 40) = w1 at B0 a0 s0 ⊢
  have B1 := Below.then B0 (below_alloc w1 (.cells #[.slice none 0 0, .map none] 58))
  have a1 := a0.below (below_alloc w1 (.cells #[.slice none 0 0, .map none] 58))
  have z1 : (w1.alloc (.cells #[.slice none 0 0, .map none] 58)).cell? ⟨w.heap.size + 1, 1, none⟩ = some (.map none) := by
    have := heap_cell (heap_alloc_new w1 (.cells #[.slice none 0 0, .map none] 58)) 1
    rw [s0] at this; rw [this]; rfl
  have z2 : NoRing (w1.alloc (.cells #[.slice none 0 0, .map none] 58)) (.pointer (some ⟨w.heap.size + 1, 0, none⟩)) := .inr ⟨_, rfl, z1⟩
  clear z1
  generalize w1.alloc (.cells #[.slice none 0 0, .map none] 58) = w2 at B1 a1 z2 ⊢
  clear B0 a0 s0
  have iZ : (Tryd.prog.info? 42).map (·.size) = some (cs (Sm.zeros 32)).length := Tryd.infoDigest
  have oZ := cs_one (Sm.zeros 32)
  go_loopw [9] (fun v wr => ∃ k : Nat, v = .int .i64 (k : Int) ∧ k ≤ 2 ∧ Below w.heap.size w wr ∧ ActIn wr w.heap.size x ∧ NoRing wr (.pointer (some ⟨w.heap.size + 1, 0, none⟩))) (fun v _ => 2 - (intOf v).toNat)
  case atStart => exact ⟨0, rfl, by omega, B1, a1, z2⟩
  case round =>
    obtain ⟨k, rfl, hk, hbel, hact, hz⟩ := hrel
    clear B1 a1 z2
    have hk3 : k = 0 ∨ k = 1 ∨ k = 2 := by omega
    rcases hk3 with rfl | rfl | rfl
    · have hix : (Instr.index 59 (.agg #[.pointer none, .pointer (some ⟨w.heap.size + 1, 0, none⟩)]) (.int .i64 0)).run Tryd.prog wr = .ok (.pointer none) wr := by kernel_rfl
      have zr : NoRing wr (.pointer none) := .inl rfl
      have c1 := hact.c1; have c2 := hact.c2; have c3 := hact.c3
      go_wp2_with fail
      refine (sign6_no wr (.pointer none) (str x.who) (str x.dom) (.slice x.ta x.txt.length x.tc) zr).mono ?_
      rintro _ w3 ⟨rfl, b3⟩
      have B3 := Below.then (Below.then hbel b3) (below_alloc w3 (.cells (cs (Sm.zeros 32)).toArray 42))
      have A3 := (hact.below b3).below (below_alloc w3 (.cells (cs (Sm.zeros 32)).toArray 42))
      have Z3 := (zr.below b3).below (below_alloc w3 (.cells (cs (Sm.zeros 32)).toArray 42))
      have Y3 := (hz.below b3).below (below_alloc w3 (.cells (cs (Sm.zeros 32)).toArray 42))
      clear c1 c2 c3
      have c1 := A3.c1; have c2 := A3.c2; have c3 := A3.c3; have c4 := A3.c4
      go_wp2_with (refine wpList_store_new rfl 42 _ _ rfl w3.heap.size rfl (cs (Sm.zeros 32)) rfl rfl rfl iZ oZ ?_)
      generalize w3.alloc (.cells (cs (Sm.zeros 32)).toArray 42) = w4 at B3 A3 Z3 Y3 c1 c2 c3 c4 ⊢
      refine (verify6_no w4 (.pointer none) (str x.who) (str x.dom) (.slice x.ta x.txt.length x.tc) (.slice x.ga x.tag.length x.gc) Z3).mono ?_
      rintro _ w5 ⟨rfl, b5⟩
      have A5 := A3.below b5; have Z5 := Z3.below b5; have Y5 := Y3.below b5; have B5 := Below.then B3 b5
      clear c1 c2 c3 c4
      have c1 := A5.c1; have c2 := A5.c2; have c3 := A5.c3
      go_wp2_with fail
      refine (made6_no w5 (.pointer none) (str x.who) (str x.dom) (.slice x.ta x.txt.length x.tc) Z5).mono ?_
      rintro _ w6 ⟨rfl, rfl⟩
      go_wp2_with fail
      refine (is6_no w5 (.pointer none) (str x.who) Z5).mono ?_
      rintro _ w7 ⟨rfl, b7⟩
      have A7 := A5.below b7; have Z7 := Z5.below b7; have Y7 := Y5.below b7; have B7 := Below.then B5 b7
      go_wp2_with fail
      refine (len6_no w7 (.pointer none) Z7).mono ?_
      rintro _ w8 ⟨rfl, rfl⟩
      go_wp2_with fail
      refine (names6_no w7 (.pointer none) Z7).mono ?_
      rintro _ w8 ⟨rfl, rfl⟩
      go_wp2_with fail
      exact ⟨⟨1, rfl, by omega, B7, A7, Y7⟩, by simp [intOf]⟩
    · have hix : (Instr.index 59 (.agg #[.pointer none, .pointer (some ⟨w.heap.size + 1, 0, none⟩)]) (.int .i64 1)).run Tryd.prog wr = .ok (.pointer (some ⟨w.heap.size + 1, 0, none⟩)) wr := by kernel_rfl
      have zr : NoRing wr (.pointer (some ⟨w.heap.size + 1, 0, none⟩)) := hz
      have c1 := hact.c1; have c2 := hact.c2; have c3 := hact.c3
      go_wp2_with fail
      refine (sign6_no wr (.pointer (some ⟨w.heap.size + 1, 0, none⟩)) (str x.who) (str x.dom) (.slice x.ta x.txt.length x.tc) zr).mono ?_
      rintro _ w3 ⟨rfl, b3⟩
      have B3 := Below.then (Below.then hbel b3) (below_alloc w3 (.cells (cs (Sm.zeros 32)).toArray 42))
      have A3 := (hact.below b3).below (below_alloc w3 (.cells (cs (Sm.zeros 32)).toArray 42))
      have Z3 := (zr.below b3).below (below_alloc w3 (.cells (cs (Sm.zeros 32)).toArray 42))
      have Y3 := (hz.below b3).below (below_alloc w3 (.cells (cs (Sm.zeros 32)).toArray 42))
      clear c1 c2 c3
      have c1 := A3.c1; have c2 := A3.c2; have c3 := A3.c3; have c4 := A3.c4
      go_wp2_with (refine wpList_store_new rfl 42 _ _ rfl w3.heap.size rfl (cs (Sm.zeros 32)) rfl rfl rfl iZ oZ ?_)
      generalize w3.alloc (.cells (cs (Sm.zeros 32)).toArray 42) = w4 at B3 A3 Z3 Y3 c1 c2 c3 c4 ⊢
      refine (verify6_no w4 (.pointer (some ⟨w.heap.size + 1, 0, none⟩)) (str x.who) (str x.dom) (.slice x.ta x.txt.length x.tc) (.slice x.ga x.tag.length x.gc) Z3).mono ?_
      rintro _ w5 ⟨rfl, b5⟩
      have A5 := A3.below b5; have Z5 := Z3.below b5; have Y5 := Y3.below b5; have B5 := Below.then B3 b5
      clear c1 c2 c3 c4
      have c1 := A5.c1; have c2 := A5.c2; have c3 := A5.c3
      go_wp2_with fail
      refine (made6_no w5 (.pointer (some ⟨w.heap.size + 1, 0, none⟩)) (str x.who) (str x.dom) (.slice x.ta x.txt.length x.tc) Z5).mono ?_
      rintro _ w6 ⟨rfl, rfl⟩
      go_wp2_with fail
      refine (is6_no w5 (.pointer (some ⟨w.heap.size + 1, 0, none⟩)) (str x.who) Z5).mono ?_
      rintro _ w7 ⟨rfl, b7⟩
      have A7 := A5.below b7; have Z7 := Z5.below b7; have Y7 := Y5.below b7; have B7 := Below.then B5 b7
      go_wp2_with fail
      refine (len6_no w7 (.pointer (some ⟨w.heap.size + 1, 0, none⟩)) Z7).mono ?_
      rintro _ w8 ⟨rfl, rfl⟩
      go_wp2_with fail
      refine (names6_no w7 (.pointer (some ⟨w.heap.size + 1, 0, none⟩)) Z7).mono ?_
      rintro _ w8 ⟨rfl, rfl⟩
      go_wp2_with fail
      exact ⟨⟨2, rfl, by omega, B7, A7, Y7⟩, by simp [intOf]⟩
    · go_wp2_with fail
      refine (live6 wr (hL.below hbel)).mono ?_
      rintro _ w3 ⟨rfl, b3⟩
      go_wp2_with fail
      go_ret
      exact ⟨rfl, Below.then hbel b3⟩
end Go.Proofs.YtfpdiafedoppnaaDoor
