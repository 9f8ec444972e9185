/-
  The contracts of the statements' own helpers Lent (bytes in the middle of greater memory) and Kept (is what was lent as it was?).
-/
import Derived.Test.YtghhdbkgibpebaaBase
namespace Go.Proofs.Ytghhdbkgibpebaa
open Go.RowKit

set_option maxRecDepth 100000 in
set_option maxHeartbeats 800000 in
theorem lent_any (a : Option Addr) (c : Nat) (l : List UInt8) (w : World) (ha : Holds w a c l) (hr : l.length ≤ 140737488351232) :
    Calls Try.prog 11 #[.slice a l.length c] w fun e w' =>
      ∃ g cap, e = .returned (.slice (some ⟨g, 2, none⟩) l.length cap) ∧ Holds w' (some ⟨g, 2, none⟩) cap (l ++ [203, 204]) ∧ w.heap.size ≤ g ∧ Below w.heap.size w w' := by
  have ho0 : Own (w.alloc (.cells #[.int .u8 201, .int .u8 202] 5)) w.heap.size w.heap.size 2 2 [201, 202] := own_new w [201, 202] _ rfl (by unfold maxLen; simp)
  have hb0 := below_alloc w (.cells #[.int .u8 201, .int .u8 202] 5)
  go_enter Try.func11, Try.ntmps11
  go_wp2_with (at_builtin; refine wpList_append_bytes _ rfl _ _ rfl w.heap.size w.heap.size 2 2 [201, 202] l a l.length c rfl ho0 rfl rfl (ha.below hb0) ?b1 ?ap)
  case b1 => omega
  case ap =>
    intro g1 c1 w1 ho1 hb1
    have B1 := hb0.trans hb1
    have ho1' := ho1.alloc (.cells #[.int .u8 203, .int .u8 204] 5)
    have hn : Holds (w1.alloc (.cells #[.int .u8 203, .int .u8 204] 5)) (some ⟨w1.heap.size, 0, none⟩) 2 [203, 204] := holds_new w1 [203, 204] _ _ rfl
    clear ho0 hb0 hb1
    go_wp2_with (at_builtin; refine wpList_append_bytes _ rfl _ _ rfl w.heap.size g1 (2 + l.length) c1 ([201, 202] ++ l) [203, 204] (some ⟨w1.heap.size, 0, none⟩) 2 2 rfl ho1' rfl rfl hn ?b2 ?ap2)
    case b2 => omega
    case ap2 =>
      intro g2 c2 w2 ho2 hb2
      have B2 : Below w.heap.size w w2 := (B1.alloc B1.size _).trans hb2
      obtain ⟨hg, _, hc, hcell⟩ := ho2.parts
      have k0 : ¬ c2 = 2 := by omega
      have k1 : (2 : Int) + (l.length : Int) ≤ (c2 : Int) := by omega
      have k2 : (0 : Int) ≤ (l.length : Int) := by omega
      have k3 : (l.length : Int) ≤ 140737488351232 := by omega
      have hfin : Holds w2 (some ⟨g2, 2, none⟩) (c2 - 2) (l ++ [203, 204]) := by
        refine ⟨by simp; omega, fun h => (by cases h), fun ad had j u hu => ?_⟩
        cases had
        rw [Addr.add_lit]
        refine hcell (2 + j) u ?_
        have e : cs (201 :: 202 :: (l ++ [203, 204])) = cs [201, 202] ++ cs (l ++ [203, 204]) := by rw [← cs_append]; rfl
        show (cs (201 :: 202 :: (l ++ [203, 204])))[2 + j]? = some u
        rw [e, List.getElem?_append_right (by simp [cs_length]), cs_length]
        simpa using hu
      clear ho1 ho1' ho2 hcell hn hb2 B1
      go_wp2
      go_ret
      refine ⟨g2, c2 - 2, ?_, hfin, hg, B2⟩
      have e5 : 2 + l.length - 2 = l.length := by omega
      show Ending.returned (.slice (some ⟨g2, 2, none⟩) (2 + l.length - 2) (c2 - 2)) = _
      rw [e5]

set_option maxRecDepth 100000 in
set_option maxHeartbeats 800000 in
theorem kept_any (a : Option Addr) (g c c' : Nat) (l : List UInt8) (w : World) (hL : Holds w (some ⟨g, 2, none⟩) c' (l ++ [203, 204])) (ha : Holds w a c l) (hr : l.length ≤ 140737488351232) :
    Calls Try.prog 18 #[.slice (some ⟨g, 2, none⟩) l.length c', .slice a l.length c] w fun e w' => e = .returned (.bool true) ∧ w = w' := by
  have h1 : Holds w (some ⟨g, 2, none⟩) c' l := by
    have := hL.take l.length
    rwa [List.take_left] at this
  have c1 := conv h1
  have c2 := conv ha
  have hcell := hL.cell l.length (by simp)
  have e3 : (l ++ [203, 204])[l.length]'(by simp) = 203 := by simp
  rw [e3] at hcell
  have hcap := hL.1
  simp only [List.length_append, List.length_cons, List.length_nil] at hcap
  have k1 : (l.length : Int) + 2 ≤ (c' : Int) := by omega
  have k2 : (l.length : Int) + 1 ≤ (c' : Int) := by omega
  have k3 : (l.length : Int) ≤ 140737488351232 := by omega
  clear hL ha h1 e3
  go_enter Try.func18, Try.ntmps18
  go_wp2
  go_ret
  exact ⟨rfl, rfl⟩
end Go.Proofs.Ytghhdbkgibpebaa
