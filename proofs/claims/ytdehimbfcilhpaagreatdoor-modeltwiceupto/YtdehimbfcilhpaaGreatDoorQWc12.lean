/-
  The document's example: live.
-/
import Derived.Test.YtdehimbfcilhpaaGreatDoorQLe12
import Derived.Test.YtdehimbfcilhpaaGreatDoorQTw
import Derived.Test.YtdehimbfcilhpaaGreatDoorQNk
import Derived.Test.YtdehimbfcilhpaaGreatDoorQPd
namespace Go.Proofs.YtdehimbfcilhpaaGreatDoor
open Go.RowKit Go.Lib Go.Shelf

abbrev lx12 : List UInt8 := [65, 58, 32, 112, 40, 88, 41, 32, 116, 111, 32, 98, 32, 58, 45, 32, 113, 40, 88, 41, 46]
set_option maxRecDepth 100000 in
theorem px12 : Ps.prog lx12 = .ok [Ml.exR] := by kernel_rfl

theorem row_heap {α : Type} (D : Kd α) {w : World} {b : Nat} {C : Array Value} {T : TypeId} {xs : List α} (h : w.heap[b]? = some (.cells C T)) (hC : C.toList = xs.flatMap D.enc) (hl : xs.length ≤ 1000) : Row D w (some ⟨b, 0, none⟩) xs.length xs :=
  ⟨Nat.le_refl _, by omega, (fun h => by cases h), fun ad ha j u hu => by
    cases ha
    rw [Addr.add_lit, heap_cell h, Nat.zero_add, ← Array.getElem?_toList, hC]
    exact hu⟩
theorem ex_smr {x : Rv} (h : x.r = Ml.exR) : SmR x ∧ SmH x.r := by
  have hb : x.body.length = 1 := by have := congrArg (fun r => r.body.length) h; simpa [Rv.r, Ml.exR] using this
  have ha : x.args.length = 1 := by have := congrArg (fun r => r.args.length) h; simpa [Rv.r, Ml.exR] using this
  have hl : ∀ l ∈ x.body, l.l = ⟨t0, [113], [⟨[88], k0⟩], t0⟩ := fun l hl => by
    have : l.l ∈ x.r.body := List.mem_map_of_mem hl
    rw [h] at this
    simpa [Ml.exR] using this
  refine ⟨⟨by omega, by omega, fun l q => ?_, fun v hv => ?_, fun l q v hv => ?_⟩, ?_⟩
  · have := congrArg (fun r => r.args.length) (hl l q)
    have h2 : l.args.length = 1 := by simpa [Lv.l] using this
    omega
  · rw [h] at hv
    have : v ∈ [[65], [], [88]] := hv
    simp at this
    rcases this with rfl | rfl | rfl <;> decide
  · rw [hl l q] at hv
    have : v ∈ [[], [], [88]] := hv
    simp at this
    rcases this with rfl | rfl <;> decide
  · rw [h]
    refine ⟨⟨by decide, by decide, by decide⟩, ⟨by decide, by decide, by decide⟩, fun t ht => ?_⟩
    have : t = ⟨[88], k0⟩ := by simpa [Ml.exR] using ht
    subst this
    exact ⟨by decide, by decide, by decide⟩

set_option maxRecDepth 100000 in
set_option maxHeartbeats 1000000 in
theorem live12_at (w : World) (hL : Laid w) : Calls Tryz.prog 10 #[] w fun e w' => e = .returned (.bool true) ∧ Below w.heap.size w w' := by
  have T1 := hideP (pprog_ok px12 w (by decide) hL)
  go_enter Tryz.func10, Tryz.ntmps10
  go_wp2_with fail
  refine T1.out.mono ?_
  rintro e w1 ⟨⟨a1, c1, rfl, r1⟩, b1⟩
  obtain ⟨a1', c1', xs, hu, hx, RW⟩ := r1.weak
  cases xs with
  | nil => cases hx
  | cons x0 xs =>
    cases xs with
    | cons _ _ => simp at hx
    | nil =>
      cases hu
      have hx0 : x0.r = Ml.exR := by simpa using hx
      obtain ⟨e0, e1, e2, A3⟩ := boxes3 w1 (.cells #[.bool true, .int .i64 1, .string { data := #[] }] 56) (.cells #[.string { data := #[97] }, .string { data := #[97] }, .string { data := #[113] }, .slice (some ⟨w1.heap.size, 0, none⟩) 1 1] 36) (.cells #[.string { data := #[97] }] 9)
      have A4 := below_alloc (((w1.alloc (.cells #[.bool true, .int .i64 1, .string { data := #[] }] 56)).alloc (.cells #[.string { data := #[97] }, .string { data := #[97] }, .string { data := #[113] }, .slice (some ⟨w1.heap.size, 0, none⟩) 1 1] 36)).alloc (.cells #[.string { data := #[97] }] 9)) (.cells #[.string { data := #[97] }, .string { data := #[98] }] 9)
      have n3 := heap_alloc_new (((w1.alloc (.cells #[.bool true, .int .i64 1, .string { data := #[] }] 56)).alloc (.cells #[.string { data := #[97] }, .string { data := #[97] }, .string { data := #[113] }, .slice (some ⟨w1.heap.size, 0, none⟩) 1 1] 36)).alloc (.cells #[.string { data := #[97] }] 9)) (.cells #[.string { data := #[97] }, .string { data := #[98] }] 9)
      have A5 := below_alloc (((((w1.alloc (.cells #[.bool true, .int .i64 1, .string { data := #[] }] 56)).alloc (.cells #[.string { data := #[97] }, .string { data := #[97] }, .string { data := #[113] }, .slice (some ⟨w1.heap.size, 0, none⟩) 1 1] 36)).alloc (.cells #[.string { data := #[97] }] 9)).alloc (.cells #[.string { data := #[97] }, .string { data := #[98] }] 9))) (.cells #[.string { data := #[97] }, .string { data := #[97] }, .string { data := #[113] }, .slice (some ⟨w1.heap.size, 0, none⟩) 1 1] 36)
      have n4 := heap_alloc_new (((((w1.alloc (.cells #[.bool true, .int .i64 1, .string { data := #[] }] 56)).alloc (.cells #[.string { data := #[97] }, .string { data := #[97] }, .string { data := #[113] }, .slice (some ⟨w1.heap.size, 0, none⟩) 1 1] 36)).alloc (.cells #[.string { data := #[97] }] 9)).alloc (.cells #[.string { data := #[97] }, .string { data := #[98] }] 9))) (.cells #[.string { data := #[97] }, .string { data := #[97] }, .string { data := #[113] }, .slice (some ⟨w1.heap.size, 0, none⟩) 1 1] 36)
      simp only [World.size_alloc] at n3 n4
      have E0 := below_heap A5 (below_heap A4 e0)
      have E2 := below_heap A5 (below_heap A4 e2)
      have E3 := below_heap A5 n3
      have B5 := Below.then A3 (Below.then A4 A5)
      have BW := Below.then b1 B5
      have LI := hL.below BW
      have TAB : TabB (_ : World).heap.size _ := fun W h => (LI.below h).tab
      have RH := row_heap sK (xs := [[97]]) E2 rfl (by decide)
      have RN := row_heap sK (xs := [[97], [98]]) E3 rfl (by decide)
      have RK := row_heap kK (xs := [⟨true, 1, []⟩]) E0 rfl (by decide)
      have RF := row_heap fK (xs := [(⟨[97], [97], [113], some ⟨w1.heap.size, 0, none⟩, 1, [⟨true, 1, []⟩]⟩ : Fv)]) n4 rfl (by simp)
      have SR := ex_smr hx0
      have TL := hideP (mleast_at a1 c1 [x0] _ 1 [[97]] _ 2 [[97], [98]] _ 1 [(⟨[97], [97], [113], some ⟨w1.heap.size, 0, none⟩, 1, [⟨true, 1, []⟩]⟩ : Fv)] (some [Ml.exQ, Ml.exP]) _
        ⟨RW.below B5, fun r hr => by rw [List.mem_singleton] at hr; subst hr; exact SR.1, fun r hr => by rw [List.map_singleton, List.mem_singleton] at hr; subst hr; exact SR.2, RH, fun h hh => by rw [List.mem_singleton] at hh; subst hh; decide, RN, TAB⟩
        ⟨RF.room, by decide, by simp, RF.void, RF.cells⟩ (fun z hz => by rw [List.mem_singleton] at hz; subst hz; exact row_args RK) (fun z hz => by
          rw [List.mem_singleton] at hz; subst hz
          exact ⟨by show 1 ≤ 1048576; omega, by show 1 ≤ 1048576; omega, fun k hk => by
            have : k = ⟨true, 1, []⟩ := List.mem_singleton.1 hk
            subst this
            exact ⟨by decide, by decide, by decide⟩⟩) (by
          rw [List.map_singleton, hx0]
          exact Ml.ex_leastF))
      clear RH RN RK RF TAB LI E0 E2 E3 n3 n4 e0 e1 e2 A3 A4 A5 SR hx
      go_wp2_with fail
      refine TL.out.mono ?_
      rintro e w9 ⟨⟨ys, a9, c9, rfl, FA, hys⟩, B9⟩
      have BF := Below.then BW B9
      have hy : ys.map Fv.f = [Ml.exQ, Ml.exP] := hys
      clear hys TL
      rcases ys with _ | ⟨y0, _ | ⟨y1, _ | ⟨y2, ys⟩⟩⟩
      · simp at hy
      · simp at hy
      · have h1 : y1.f = Ml.exP := by
          simp only [List.map_cons, List.map_nil, List.cons.injEq, and_true] at hy
          exact hy.2
        have g1 : y1.at_ = [98] := congrArg F.at_ h1
        have g2 : y1.by_ = [97] := congrArg F.by_ h1
        have g3 : y1.pred = [112] := congrArg F.pred h1
        obtain ⟨P, O, rfl⟩ := FA.lies.addr (by simp)
        obtain ⟨k1, k2, k3, _⟩ := FA.lies.get 1 (by simp)
        simp only [List.getElem_cons_succ, List.getElem_cons_zero, g1, g2, g3] at k1 k2 k3
        clear h1 g1 g2 g3 hy FA
        go_wp2_with fail
        go_ret
        exact ⟨rfl, BF⟩
      · simp at hy
end Go.Proofs.YtdehimbfcilhpaaGreatDoor

/-
  What the six walks share: a case's box; the regions that call Least.
-/
namespace Go.Proofs.YtdehimbfcilhpaaGreatDoor
open Go.RowKit Go.Lib Go.Shelf

/-- a case's box, in a world in which but blocks from B on nothing turned -/
structure CsW (W : World) (S : Nat) (ha : Option Addr) (hc : Nat) (hs : List (List UInt8)) (na : Option Addr) (nc : Nat) (ns : List (List UInt8)) (ra : Option Addr) (rc : Nat) (rs : List Rv) (fa : Option Addr) (fc : Nat) (zs : List Fv) (w : World) : Prop where
  box : w.heap[S]? = some (.cells #[.slice ha hs.length hc, .slice na ns.length nc, .slice ra rs.length rc, .slice fa zs.length fc] 26)
  below : Below W.heap.size W w
theorem CsW.cells {W : World} {S : Nat} {ha : Option Addr} {hc : Nat} {hs : List (List UInt8)} {na : Option Addr} {nc : Nat} {ns : List (List UInt8)} {ra : Option Addr} {rc : Nat} {rs : List Rv} {fa : Option Addr} {fc : Nat} {zs : List Fv} {w : World} (h : CsW W S ha hc hs na nc ns ra rc rs fa fc zs w) : w.cell? ⟨S, 0, none⟩ = some (.slice ha hs.length hc) ∧ w.cell? ⟨S, 1, none⟩ = some (.slice na ns.length nc) ∧ w.cell? ⟨S, 2, none⟩ = some (.slice ra rs.length rc) ∧ w.cell? ⟨S, 3, none⟩ = some (.slice fa zs.length fc) := by
  refine ⟨?_, ?_, ?_, ?_⟩ <;> (rw [heap_cell h.box]; rfl)
theorem CsW.next {W : World} {S : Nat} {ha : Option Addr} {hc : Nat} {hs : List (List UInt8)} {na : Option Addr} {nc : Nat} {ns : List (List UInt8)} {ra : Option Addr} {rc : Nat} {rs : List Rv} {fa : Option Addr} {fc : Nat} {zs : List Fv} {w w' : World} (h : CsW W S ha hc hs na nc ns ra rc rs fa fc zs w) (b : Below w.heap.size w w') : CsW W S ha hc hs na nc ns ra rc rs fa fc zs w' := ⟨below_heap b h.box, h.below.trans (b.mono h.below.size)⟩
theorem CsW.but {W : World} {S q : Nat} {ha : Option Addr} {hc : Nat} {hs : List (List UInt8)} {na : Option Addr} {nc : Nat} {ns : List (List UInt8)} {ra : Option Addr} {rc : Nat} {rs : List Rv} {fa : Option Addr} {fc : Nat} {zs : List Fv} {w w' : World} (h : CsW W S ha hc hs na nc ns ra rc rs fa fc zs w) (b : But q w w') (hq : W.heap.size ≤ q) (hn : S ≠ q) : CsW W S ha hc hs na nc ns ra rc rs fa fc zs w' := ⟨b.heap hn h.box, h.below.trans (b.lower hq h.below.size)⟩
theorem likeB_true {l m : List F} (h : l = m) : likeB l m = true := (likeB_iff _ _).2 h
end Go.Proofs.YtdehimbfcilhpaaGreatDoor
