/-
  ModelLeast: the walk.
-/
import Derived.Test.YtdehimbfcilhpaaGreatDoorQWc12
namespace Go.Proofs.YtdehimbfcilhpaaGreatDoor
open Go.RowKit Go.Lib Go.Shelf

set_option maxRecDepth 100000 in
set_option maxHeartbeats 4000000 in
theorem modelLeast_walk (ha : Option Addr) (hc : Nat) (hs : List (List UInt8)) (na : Option Addr) (nc : Nat) (ns : List (List UInt8)) (ra : Option Addr) (rc : Nat) (rs : List Rv) (fa : Option Addr) (fc : Nat) (zs : List Fv) (W : World) (hL : Laid W) (h : CsB W ha hc hs na nc ns ra rc rs fa fc zs) :
    Calls Tryz.prog 4 #[caseV ha hc hs na nc ns ra rc rs fa fc zs] W fun e w' => e = .returned (.bool true) ∧ Below W.heap.size W w' := by
  have A0 := below_alloc W (.cells #[.slice ha hs.length hc, .slice na ns.length nc, .slice ra rs.length rc, .slice fa zs.length fc] 26)
  have C0 : CsW W W.heap.size ha hc hs na nc ns ra rc rs fa fc zs (W.alloc (.cells #[.slice ha hs.length hc, .slice na ns.length nc, .slice ra rs.length rc, .slice fa zs.length fc] 26)) := ⟨heap_alloc_new W _, A0⟩
  have TLt := hideP (light12_at ha hc hs na nc ns ra rc rs fa fc zs (W.alloc (.cells #[.slice ha hs.length hc, .slice na ns.length nc, .slice ra rs.length rc, .slice fa zs.length fc] 26)) (h.rules.at_.below A0) (fun r hr => (h.rules.each r hr).tx) (h.facts.lies.below A0 (Nat.le_refl _)) (fun z hz => (h.facts.at_ z hz).below A0 (Nat.le_refl _)) (fun z hz => (h.facts.each z hz).tx))
  have TV := hideP (fun w (b : Below W.heap.size W w) => live12_at w (hL.below b))
  have H := hideP h
  have HL := hideP hL
  clear h hL
  go_enter Tryz.func4, Tryz.ntmps4
  go_wp2_with fail
  refine TLt.out.mono ?_
  rintro e w1 ⟨⟨q, rfl, hq⟩, B1⟩
  have C1 := C0.next B1
  clear TLt C0 A0 B1
  cases q with
  | false =>
    clear hq
    go_wp2_with fail
    refine (TV.out w1 C1.below).mono ?_
    rintro e w2 ⟨rfl, B2⟩
    go_wp2_with fail
    go_ret
    exact ⟨rfl, C1.below.trans (B2.mono C1.below.size)⟩
  | true =>
    have LI := hq rfl
    have HLI := hideP LI
    obtain ⟨g0, g1, g2, g3⟩ := C1.cells
    have s1 : W.heap.size < w1.heap.size := heap_lt C1.box
    have A2 := below_alloc w1 (.cells #[.slice ha hs.length hc, .slice na ns.length nc, .int .i64 0, .bool false] 31)
    have N2 := heap_alloc_new w1 (.cells #[.slice ha hs.length hc, .slice na ns.length nc, .int .i64 0, .bool false] 31)
    have C2 := C1.next A2
    obtain ⟨f0, f1, f2, f3⟩ := C2.cells
    have TR := hideP (rleast_at W w1.heap.size ra rc rs ha hc hs na nc ns fa fc zs ⟨0, false⟩ _ (H.out.rin LI.rule LI.most) H.out.facts.lies H.out.facts.at_ C2.below (by omega) N2 c0_ok)
    clear hq LI N2
    go_wp2_with fail
    refine TR.out.mono ?_
    rintro e w3 ⟨⟨a, m, us, o, cc, rfl, L3, E3, hu, WQ, R⟩, BT⟩
    have C3 := C2.but BT (by omega) (by omega)
    have d3 : w3.cell? ⟨w1.heap.size, 3, none⟩ = some (.bool cc.heavy) := by rw [heap_cell WQ]; rfl
    clear TR f0 f1 f2 f3 g0 g1 g2 g3 A2 C2 BT WQ
    cases hv : cc.heavy with
    | true =>
      rw [hv] at d3
      clear hv R hu
      go_wp2_with fail
      refine (TV.out w3 C3.below).mono ?_
      rintro e w4 ⟨rfl, B4⟩
      go_wp2_with fail
      go_ret
      exact ⟨rfl, C3.below.trans (B4.mono C3.below.size)⟩
    | false =>
      rw [hv] at d3
      have LF := hideP (R.few (sortF_SS _) c0_ok hv).2
      have HU := hideP hu
      clear hv R hu
      have GD := (Below.refl w3.heap.size w3).drew
      have HK : Hid (∀ X, Below w3.heap.size w3 X → (X.cell? ⟨W.heap.size, 0, none⟩ = some (.slice ha hs.length hc) ∧ X.cell? ⟨W.heap.size, 1, none⟩ = some (.slice na ns.length nc) ∧ X.cell? ⟨W.heap.size, 2, none⟩ = some (.slice ra rs.length rc) ∧ X.cell? ⟨W.heap.size, 3, none⟩ = some (.slice fa zs.length fc))) := fun X hb => (C3.next hb).cells
      have TW := hideP (fun X => world_at ha hc hs na nc ns ra rc rs fa fc zs X)
      have TM := hideP (fun X (hb : Below w3.heap.size w3 X) => mleast_at ra rc rs ha hc hs na nc ns fa fc zs o X ((H.out.lin HL.out HLI.out.rule).below (C3.next hb).below) (H.out.facts.lies.below (C3.next hb).below (Nat.le_refl _)) (fun z hz => (H.out.facts.at_ z hz).below (C3.next hb).below (Nat.le_refl _)) (fun z hz => (H.out.facts.each z hz).sm) LF.out)
      go_wp2_with fail
      go_region_held3 (fun X => X.cell? ⟨W.heap.size, 0, none⟩ = some (.slice ha hs.length hc) ∧ X.cell? ⟨W.heap.size, 1, none⟩ = some (.slice na ns.length nc) ∧ X.cell? ⟨W.heap.size, 2, none⟩ = some (.slice ra rs.length rc) ∧ X.cell? ⟨W.heap.size, 3, none⟩ = some (.slice fa zs.length fc)) (first | with_reducible exact HK.out _ GD | with_reducible exact HK.out _ G4 | with_reducible exact HK.out _ G5) (first
        | (go_at_call 16; refine (TW.out _).mono ?_; rintro e4 w4 ⟨rfl, b4⟩; have G4 := Below.then GD b4)
        | (go_at_call 19; refine (TM.out _ G4).mono ?_; rintro e5 w5 ⟨⟨ys, a5, c5, rfl, FA5, hy⟩, b5⟩; have G5 := Below.then G4 b5))
      have C5 := C3.next G5
      have E5 := (E3.safe (Safe.below G5 : Safe 56 _ _)).at_ C5.below
      have TK := hideP (like_at a5 a c5 m ys us w5 FA5.lies (L3.below G5 (Nat.le_refl _)) (fun y hy => row_args (FA5.each y hy).row) E5)
      have hlk : likeB (ys.map Fv.f) (us.map Fv.f) = true := likeB_true (hy.trans HU.out.symm)
      rw [hlk] at TK
      clear TW TM HK GD b4 b5 hlk hy
      generalize errOf o = er at *
      go_wp2_with fail
      refine TK.out.mono ?_
      rintro e w6 ⟨rfl, B6⟩
      have C6 := C5.next B6.below
      go_wp2_with fail
      refine (TV.out w6 C6.below).mono ?_
      rintro e w7 ⟨rfl, B7⟩
      go_wp2_with fail
      go_ret
      exact ⟨rfl, C6.below.trans (B7.mono C6.below.size)⟩
end Go.Proofs.YtdehimbfcilhpaaGreatDoor
