/-
  Where a fact stands among sorted ones, or would stand; model.search.
-/
import Derived.Test.YtdehimbfcilhpaaGreatDoorQSame
import Derived.Test.YtdehimbfcilhpaaGreatDoorQCpt
import Derived.Shelf.SlSortCmp.QuietGrown
import Derived.Lib.SliceRun
import Derived.Shelf.RegionOpenPlain
namespace Go.Proofs.YtdehimbfcilhpaaGreatDoor
open Go.RowKit Go.Sort

/-- a fact's place among sorted ones -/
def SPos (ys : List Fv) (f : F) (i : Nat) : Prop := i ≤ ys.length ∧ (∀ k (hk : k < ys.length), k < i → cF ys[k].f f < 0) ∧ ∀ k (hk : k < ys.length), i ≤ k → 0 ≤ cF ys[k].f f

set_option maxHeartbeats 4000000 in
theorem search2_at (a : Option Addr) (c : Nat) (ys : List Fv) (x : Fv) (w : World) (hl : Lies w a c ys) (hys : ∀ y ∈ ys, Fv.At w y) (hx : Fv.At w x) (hs : SS (ys.map Fv.f)) :
    Calls Tryz.prog 41 #[.slice a ys.length c, x.val, .func (.func 42) #[] #[]] w fun e w' => (∃ i : Nat, e = .returned (.tuple #[.int .i64 (i : Int), .bool (hasF (ys.map Fv.f) x.f)]) ∧ SPos ys x.f i) ∧ Grew w w' := by
  have mixed : Tryz.prog.follows .mixedOrders = true := by kernel_rfl
  have eg : ∀ args w, (callFunc 42 args).run Tryz.prog w = .ok (.enter 42 args) w := enters_of Tryz.func42 (by kernel_rfl) rfl
  have hC := fun (p : Fv) (W : World) (hp : Fv.At W p) (hq : Fv.At W x) => order_at p x W hp hq
  have few := hl.few
  have hord : Hid (∀ i j (hi : i < ys.length) (hj : j < ys.length), i < j → cF ys[i].f ys[j].f < 0) := fun i j hi hj hij => by
    have := List.pairwise_iff_getElem.1 hs i j (by simpa using hi) (by simpa using hj) hij
    simpa using this
  have hfin : Hid (∀ i, i ≤ ys.length → (∀ k (hk : k < ys.length), k < i → cF ys[k].f x.f < 0) → (∀ k (hk : k < ys.length), i ≤ k → 0 ≤ cF ys[k].f x.f) → hasF (ys.map Fv.f) x.f = (if h : i < ys.length then decide (cF ys[i].f x.f = 0) else false)) := fun i hi h1 h2 => by
    rw [found_iff hs x.f i (by simpa using hi) (fun k hk hki => by rw [List.getElem_map]; exact h1 k (by simpa using hk) hki) (fun k hk hki => by rw [List.getElem_map]; exact h2 k (by simpa using hk) hki)]
    by_cases h : i < ys.length
    · rw [dif_pos (by simpa using h), dif_pos h, List.getElem_map]
    · rw [dif_neg (by simpa using h), dif_neg h]
  generalize hasF (ys.map Fv.f) x.f = R at *
  clear hs
  obtain ⟨x1, x2, x3, xa, xc, xk⟩ := x
  go_enter Tryz.func41, Tryz.ntmps41
  go_wp2_with fail
  obtain ⟨w2, hw2⟩ : ∃ w2, w2 = w.alloc (.cells #[str x1, str x2, str x3, .slice xa xk.length xc] 36) := ⟨_, rfl⟩
  have G2 : Grew w w2 := by rw [hw2]; exact (Grew.refl w).allocs _
  have H2 : w2.heap[w.heap.size]? = some (.cells #[str x1, str x2, str x3, .slice xa xk.length xc] 36) := by rw [hw2]; exact heap_alloc_new w _
  rw [← hw2]
  clear hw2
  have b0 := heap_cell H2 0; have b1 := heap_cell H2 1; have b2 := heap_cell H2 2; have b3 := heap_cell H2 3
  simp at b0 b1 b2 b3
  go_loopw [9, 10, 11] (fun v9 v10 _ wr => ∃ i j : Nat, v9 = .int .i64 (i : Int) ∧ v10 = .int .i64 (j : Int) ∧ i ≤ j ∧ j ≤ ys.length ∧ Hid (∀ k (hk : k < ys.length), k < i → cF ys[k].f (Fv.f ⟨x1, x2, x3, xa, xc, xk⟩) < 0) ∧ Hid (∀ k (hk : k < ys.length), j ≤ k → 0 ≤ cF ys[k].f (Fv.f ⟨x1, x2, x3, xa, xc, xk⟩)) ∧ Grew w2 wr) (fun v9 v10 _ _ => (intOf v10).toNat - (intOf v9).toNat)
  case atStart => exact ⟨0, ys.length, rfl, rfl, by omega, by omega, fun k _ h => absurd h (by omega), fun k hk h => absurd hk (by omega), Grew.refl _⟩
  case round =>
    obtain ⟨i, j, rfl, rfl, hij, hj, hlo, hhi, hg⟩ := hrel
    have hGw := G2.trans hg
    have p0 := (hg.below.cell (p := ⟨w.heap.size, 0, none⟩) (cell_block b0)).trans b0
    have p1 := (hg.below.cell (p := ⟨w.heap.size, 1, none⟩) (cell_block b1)).trans b1
    have p2 := (hg.below.cell (p := ⟨w.heap.size, 2, none⟩) (cell_block b2)).trans b2
    have p3 := (hg.below.cell (p := ⟨w.heap.size, 3, none⟩) (cell_block b3)).trans b3
    have C0 := fun n os => cell_grown (cell_block p0) p0 n os
    have C1 := fun n os => cell_grown (cell_block p1) p1 n os
    have C2 := fun n os => cell_grown (cell_block p2) p2 n os
    have C3 := fun n os => cell_grown (cell_block p3) p3 n os
    clear b0 b1 b2 b3 p0 p1 p2 p3
    by_cases hlt : i < j
    · have q1 : (i : Int) < (j : Int) := by omega
      obtain ⟨h, hh⟩ : ∃ h, h = (i + j) / 2 := ⟨_, rfl⟩
      have hh1 : i ≤ h := by omega
      have hh2 : h < j := by omega
      have qh : ((i : Int) + (j : Int)) / 2 = (h : Int) := by omega
      have hhl : h < ys.length := by omega
      have q2 : (h : Int) < (ys.length : Int) := by omega
      obtain ⟨P, O, rfl⟩ := hl.addr (Nat.lt_of_le_of_lt (Nat.zero_le _) hhl)
      obtain ⟨a1, a2, a3, a4⟩ := (hl.below hGw.below (Nat.le_refl _)).get h hhl
      have hn := fun n os => hC (ys[h]'hhl) (grow (wr.drewN n) os) ((hys _ (List.getElem_mem hhl)).grew (hGw.trans (Grew.grow _ _ _))) (hx.grew (hGw.trans (Grew.grow _ _ _)))
      have hlo' : Hid (cF (ys[h]'hhl).f (Fv.f ⟨x1, x2, x3, xa, xc, xk⟩) < 0 → ∀ k (hk : k < ys.length), k < h + 1 → cF ys[k].f (Fv.f ⟨x1, x2, x3, xa, xc, xk⟩) < 0) := fun h0 k hk hkh => by
        by_cases e : k = h
        · subst e; exact h0
        · exact pre_cF.lt_of_le_of_lt (Int.le_of_lt (hord.out k h hk hhl (by omega))) h0
      have hhi' : Hid (¬ cF (ys[h]'hhl).f (Fv.f ⟨x1, x2, x3, xa, xc, xk⟩) < 0 → ∀ k (hk : k < ys.length), h ≤ k → 0 ≤ cF ys[k].f (Fv.f ⟨x1, x2, x3, xa, xc, xk⟩)) := fun h0 k hk hkh => by
        by_cases e : k = h
        · subst e; omega
        · have h1 := hord.out h k hhl hk (by omega)
          rcases Int.lt_or_le (cF ys[k].f (Fv.f ⟨x1, x2, x3, xa, xc, xk⟩)) 0 with h2 | h2
          · exact absurd (pre_cF.lt_of_le_of_lt (Int.le_of_lt h1) h2) h0
          · exact h2
      generalize (ys[h]'hhl) = p at *
      have A1 := fun n os => cell_grown (cell_block a1) a1 n os
      have A2 := fun n os => cell_grown (cell_block a2) a2 n os
      have A3 := fun n os => cell_grown (cell_block a3) a3 n os
      have A4 := fun n os => cell_grown (cell_block a4) a4 n os
      have Hh := hideP hh
      clear hh hC a1 a2 a3 a4
      by_cases hr : cF p.f (Fv.f ⟨x1, x2, x3, xa, xc, xk⟩) < 0
      · have hl2 := hideP (hlo'.out hr)
        generalize cF p.f (Fv.f ⟨x1, x2, x3, xa, xc, xk⟩) = r at hn hr
        go_wp2_with fail
        go_quiet_grown (first | (go_at_fn 42; refine Calls.grown_of (hn _ _)))
        go_wp2_with fail
        exact ⟨⟨h + 1, j, by simp, rfl, by omega, by omega, hl2, hhi, hg.trans (Grew.grow _ _ _)⟩, by simp [intOf]; omega⟩
      · have hl2 := hideP (hhi'.out hr)
        generalize cF p.f (Fv.f ⟨x1, x2, x3, xa, xc, xk⟩) = r at hn hr
        go_wp2_with fail
        go_quiet_grown (first | (go_at_fn 42; refine Calls.grown_of (hn _ _)))
        go_wp2_with fail
        exact ⟨⟨i, h, rfl, rfl, by omega, by omega, hlo, hl2, hg.trans (Grew.grow _ _ _)⟩, by simp [intOf]; omega⟩
    · have q1 : ¬ (i : Int) < (j : Int) := by omega
      obtain rfl : i = j := by omega
      have hR := hfin.out i hj hlo.out hhi.out
      have POS : SPos ys (Fv.f ⟨x1, x2, x3, xa, xc, xk⟩) i := ⟨hj, hlo.out, hhi.out⟩
      have HPOS := hideP POS
      clear POS
      by_cases hil : i < ys.length
      · rw [dif_pos hil] at hR
        have q2 : (i : Int) < (ys.length : Int) := by omega
        obtain ⟨P, O, rfl⟩ := hl.addr (Nat.lt_of_le_of_lt (Nat.zero_le _) hil)
        obtain ⟨a1, a2, a3, a4⟩ := (hl.below hGw.below (Nat.le_refl _)).get i hil
        have hn := fun n os => hC (ys[i]'hil) (grow (wr.drewN n) os) ((hys _ (List.getElem_mem hil)).grew (hGw.trans (Grew.grow _ _ _))) (hx.grew (hGw.trans (Grew.grow _ _ _)))
        generalize (ys[i]'hil) = p at *
        have A1 := fun n os => cell_grown (cell_block a1) a1 n os
        have A2 := fun n os => cell_grown (cell_block a2) a2 n os
        have A3 := fun n os => cell_grown (cell_block a3) a3 n os
        have A4 := fun n os => cell_grown (cell_block a4) a4 n os
        clear hC a1 a2 a3 a4 hlo hhi
        generalize cF p.f (Fv.f ⟨x1, x2, x3, xa, xc, xk⟩) = r at hn hR
        have HR := hideP hR; clear hR
        go_wp2_with fail
        go_quiet_grown (first | (go_at_fn 42; refine Calls.grown_of (hn _ _)))
        go_wp2_with fail
        go_ret2
        exact ⟨⟨i, by rw [HR.out]; rfl, HPOS.out⟩, hGw.trans (Grew.grow _ _ _)⟩
      · rw [dif_neg hil] at hR
        have q2 : ¬ (i : Int) < (ys.length : Int) := by omega
        have HR := hideP hR
        clear hR hC C0 C1 C2 C3 hlo hhi hfin hord hys
        go_wp2_with fail
        go_big_region_o
        go_wp2_with fail
        go_ret2
        exact ⟨⟨i, by rw [HR.out]; rfl, HPOS.out⟩, hGw.trans (Grew.drew _)⟩


set_option maxRecDepth 100000 in
theorem msearch_at (a : Option Addr) (c : Nat) (ys : List Fv) (x : Fv) (w : World) (hl : Lies w a c ys) (hys : ∀ y ∈ ys, Fv.At w y) (hx : Fv.At w x) (hs : SS (ys.map Fv.f)) :
    Calls Tryz.prog 34 #[.slice a ys.length c, x.val] w fun e w' => (∃ i : Nat, e = .returned (.tuple #[.int .i64 (i : Int), .bool (hasF (ys.map Fv.f) x.f)]) ∧ SPos ys x.f i) ∧ Below w.heap.size w w' := by
  have A0 := fun o : Obj => below_alloc w o
  have T := hideP (fun o => search2_at a c ys x (w.alloc o) (hl.below (A0 o) (Nat.le_refl _)) (fun y hy => Fv.At.below (hys y hy) (A0 o) (Nat.le_refl _)) (Fv.At.below hx (A0 o) (Nat.le_refl _)) hs)
  have HA := hideP A0
  clear A0 hl hys hx hs
  obtain ⟨x1, x2, x3, xa, xc, xk⟩ := x
  go_enter Tryz.func34, Tryz.ntmps34
  go_wp2_with fail
  refine (T.out _).mono ?_
  rintro e w1 ⟨⟨i, rfl, hp⟩, hg⟩
  have HP := hideP hp
  clear hp
  go_wp2_with fail
  go_ret2
  exact ⟨⟨i, rfl, HP.out⟩, Below.then (HA.out _) hg.below⟩
end Go.Proofs.YtdehimbfcilhpaaGreatDoor
