/-
  Where a fact stands, or would stand: find$1, slices.BinarySearchFunc over pointers, find.
-/
import Derived.Test.YtomiefhfkdfgbaaNw15
import Derived.Shelf.SlSortCmp.QuietGrown
import Derived.Lib.SliceRun
import Derived.Deep.RegionHeld3
import Derived.Shelf.RegionOpenPlain
namespace Go.Proofs.Ytomiefhfkdfgbaa
open Go.RowKit Go.Sort

/-- where a fact would stand: what is found there -/
theorem found_iff {l : List F} (hs : SS l) (x : F) (i : Nat) (hi : i ≤ l.length) (h1 : ∀ k (hk : k < l.length), k < i → cF l[k] x < 0) (h2 : ∀ k (hk : k < l.length), i ≤ k → 0 ≤ cF l[k] x) :
    hasF l x = (if h : i < l.length then decide (cF l[i] x = 0) else false) := by
  rw [Bool.eq_iff_iff, hasF_iff]
  constructor
  · intro hx
    obtain ⟨m, hm, rfl⟩ := List.getElem_of_mem hx
    have h0 := cF_self l[m]
    have hmi : i ≤ m := by
      rcases Nat.lt_or_ge m i with h | h
      · have := h1 m hm h; omega
      · exact h
    have hlt : i < l.length := by omega
    rw [dif_pos hlt, decide_eq_true_eq]
    rcases Nat.lt_or_eq_of_le hmi with h | h
    · have h3 := List.pairwise_iff_getElem.1 hs i m hlt hm h
      have := h2 i hlt (Nat.le_refl _)
      omega
    · simp only [h]; exact h0
  · intro h
    split at h
    · rename_i hlt
      rw [decide_eq_true_eq, cF_zero] at h
      rw [← h]; exact List.getElem_mem hlt
    · cases h

theorem InAt.grew {w w' : World} {p : Pn} (h : InAt w p) (hg : Grew w w') : InAt w' p := h.safe (S3.below hg.below)
set_option maxHeartbeats 1000000 in
theorem find1_at (p : Pn) (x : Fv) (w : World) (hp : InAt w p) (hx : Fv.At w x) : Calls Try.prog 53 #[ptr p.q, x.val] w fun e w' => e = .returned (.int .i64 (cF p.f x.f)) ∧ Grew w w' := by
  have hA := fun (W : World) (hg : Grew w W) => (order_at p.x x W (hp.grew hg).at_ (hx.grew hg))
  have hH := hp.cell
  obtain ⟨q, z⟩ := p
  obtain ⟨x1, x2, x3, xa, xc, xk⟩ := x
  obtain ⟨z1, z2, z3, za, zc, zk⟩ := z
  have G2 : Grew w (w.alloc (.cells #[str x1, str x2, str x3, .slice xa xk.length xc] 34)) := (Grew.refl w).allocs _
  have H2 := heap_alloc_new w (.cells #[str x1, str x2, str x3, .slice xa xk.length xc] 34)
  have H1 := below_heap G2.below hH
  show Calls Try.prog _ _ w fun e w' => e = .returned (.int .i64 (cF (Fv.f ⟨z1, z2, z3, za, zc, zk⟩) (Fv.f ⟨x1, x2, x3, xa, xc, xk⟩))) ∧ Grew w w'
  replace hA := hA
  have mixed : Try.prog.follows .mixedOrders = true := by kernel_rfl
  have few : True := trivial
  generalize hr : cF (Fv.f ⟨z1, z2, z3, za, zc, zk⟩) (Fv.f ⟨x1, x2, x3, xa, xc, xk⟩) = r
  have hA2 : ∀ (W : World), Grew w W → Calls Try.prog 54 #[Fv.val ⟨z1, z2, z3, za, zc, zk⟩, Fv.val ⟨x1, x2, x3, xa, xc, xk⟩] W fun e w' => e = .returned (.int .i64 r) ∧ Grew W w' := fun W hg => by have := hA W hg; rw [← hr]; exact this
  clear hA hr hH hp hx
  have hn := fun n os => hA2 (grow ((w.alloc (.cells #[str x1, str x2, str x3, .slice xa xk.length xc] 34)).drewN n) os) (G2.trans (Grew.grow _ _ _))
  generalize hw2 : w.alloc (.cells #[str x1, str x2, str x3, .slice xa xk.length xc] 34) = w2 at *
  have b0 := heap_cell H2 0; have b1 := heap_cell H2 1; have b2 := heap_cell H2 2; have b3 := heap_cell H2 3
  have a0 := heap_cell H1 0; have a1 := heap_cell H1 1; have a2 := heap_cell H1 2; have a3 := heap_cell H1 3
  simp [fv] at b0 b1 b2 b3 a0 a1 a2 a3
  have C0 := fun n os => cell_grown (cell_block b0) b0 n os
  have C1 := fun n os => cell_grown (cell_block b1) b1 n os
  have C2 := fun n os => cell_grown (cell_block b2) b2 n os
  have C3 := fun n os => cell_grown (cell_block b3) b3 n os
  have A0 := fun n os => cell_grown (cell_block a0) a0 n os
  have A1 := fun n os => cell_grown (cell_block a1) a1 n os
  have A2 := fun n os => cell_grown (cell_block a2) a2 n os
  have A3 := fun n os => cell_grown (cell_block a3) a3 n os
  clear a0 a1 a2 a3 b0 b1 b2 b3 hA2 H1 H2
  go_enter Try.func53, Try.ntmps53
  go_wp2_with fail
  go_quiet_grown (first | (go_at_fn 54; refine Calls.grown_of (hn _ _)) | (go_at_call 54; refine Calls.grown_of (hn _ _)))
  go_wp2_with fail
  go_ret
  exact ⟨rfl, G2.trans (Grew.grow _ _ _)⟩

set_option maxHeartbeats 4000000 in
theorem psearch_at (a : Option Addr) (c : Nat) (ys : List Pn) (x : Fv) (w : World) (hl : LstAt w a c ys) (hx : Fv.At w x) (hs : SS (ys.map Pn.f)) :
    Calls Try.prog 52 #[.slice a ys.length c, x.val, .func (.func 53) #[] #[]] w fun e w' => (∃ i : Nat, e = .returned (.tuple #[.int .i64 (i : Int), .bool (hasF (ys.map Pn.f) x.f)]) ∧ i ≤ ys.length ∧ (∀ k (hk : k < ys.length), k < i → cF ys[k].f x.f < 0) ∧ (∀ k (hk : k < ys.length), i ≤ k → 0 ≤ cF ys[k].f x.f)) ∧ Grew w w' := by
  have mixed : Try.prog.follows .mixedOrders = true := by kernel_rfl
  have eg : ∀ args w, (callFunc 53 args).run Try.prog w = .ok (.enter 53 args) w := enters_of Try.func53 (by kernel_rfl) rfl
  have hC := fun (p : Pn) (W : World) (hp : InAt W p) (hq : Fv.At W x) => find1_at p x W hp hq
  have few := hl.row.row.few
  have hord : Hid (∀ i j (hi : i < ys.length) (hj : j < ys.length), i < j → cF ys[i].f ys[j].f < 0) := fun i j hi hj hij => by
    have := List.pairwise_iff_getElem.1 hs i j (by simpa using hi) (by simpa using hj) hij
    simpa using this
  have hfin : Hid (∀ i, i ≤ ys.length → (∀ k (hk : k < ys.length), k < i → cF ys[k].f x.f < 0) → (∀ k (hk : k < ys.length), i ≤ k → 0 ≤ cF ys[k].f x.f) → hasF (ys.map Pn.f) x.f = (if h : i < ys.length then decide (cF ys[i].f x.f = 0) else false)) := fun i hi h1 h2 => by
    rw [found_iff hs x.f i (by simpa using hi) (fun k hk hki => by rw [List.getElem_map]; exact h1 k (by simpa using hk) hki) (fun k hk hki => by rw [List.getElem_map]; exact h2 k (by simpa using hk) hki)]
    by_cases h : i < ys.length
    · rw [dif_pos (by simpa using h), dif_pos h, List.getElem_map]
    · rw [dif_neg (by simpa using h), dif_neg h]
  generalize hasF (ys.map Pn.f) x.f = R at *
  clear hs
  obtain ⟨x1, x2, x3, xa, xc, xk⟩ := x
  go_enter Try.func52, Try.ntmps52
  go_wp2_with fail
  obtain ⟨w2, hw2⟩ : ∃ w2, w2 = w.alloc (.cells #[str x1, str x2, str x3, .slice xa xk.length xc] 34) := ⟨_, rfl⟩
  have G2 : Grew w w2 := by rw [hw2]; exact (Grew.refl w).allocs _
  have H2 : w2.heap[w.heap.size]? = some (.cells #[str x1, str x2, str x3, .slice xa xk.length xc] 34) := by rw [hw2]; exact heap_alloc_new w _
  rw [← hw2]
  clear hw2
  have b0 := heap_cell H2 0; have b1 := heap_cell H2 1; have b2 := heap_cell H2 2; have b3 := heap_cell H2 3
  simp at b0 b1 b2 b3
  go_loopw [9, 10, 11] (fun v9 v10 _ wr => ∃ i j : Nat, v9 = .int .i64 (i : Int) ∧ v10 = .int .i64 (j : Int) ∧ i ≤ j ∧ j ≤ ys.length ∧ Hid (∀ k (hk : k < ys.length), k < i → cF ys[k].f (Fv.f ⟨x1, x2, x3, xa, xc, xk⟩) < 0) ∧ Hid (∀ k (hk : k < ys.length), j ≤ k → 0 ≤ cF ys[k].f (Fv.f ⟨x1, x2, x3, xa, xc, xk⟩)) ∧ Grew w2 wr) (fun v9 v10 _ _ => (intOf v10).toNat - (intOf v9).toNat)
  case atStart => exact ⟨0, ys.length, rfl, rfl, by omega, by omega, fun k _ h => absurd h (by omega), fun k hk h => absurd hk (by omega), Grew.refl _⟩
  case round =>
    obtain ⟨i, j, rfl, rfl, hij, hj, hlo, hhi, hg⟩ := hrel
    have hGw := G2.trans hg
    have p0 := (hg.below.cell (p := ⟨w.heap.size, 0, none⟩) (cell_block b0)).trans b0
    have p1 := (hg.below.cell (p := ⟨w.heap.size, 1, none⟩) (cell_block b1)).trans b1
    have p2 := (hg.below.cell (p := ⟨w.heap.size, 2, none⟩) (cell_block b2)).trans b2
    have p3 := (hg.below.cell (p := ⟨w.heap.size, 3, none⟩) (cell_block b3)).trans b3
    have C0 := fun n os => cell_grown (cell_block p0) p0 n os
    have C1 := fun n os => cell_grown (cell_block p1) p1 n os
    have C2 := fun n os => cell_grown (cell_block p2) p2 n os
    have C3 := fun n os => cell_grown (cell_block p3) p3 n os
    clear b0 b1 b2 b3 p0 p1 p2 p3
    by_cases hlt : i < j
    · have q1 : (i : Int) < (j : Int) := by omega
      obtain ⟨h, hh⟩ : ∃ h, h = (i + j) / 2 := ⟨_, rfl⟩
      have hh1 : i ≤ h := by omega
      have hh2 : h < j := by omega
      have qh : ((i : Int) + (j : Int)) / 2 = (h : Int) := by omega
      have hhl : h < ys.length := by omega
      have q2 : (h : Int) < (ys.length : Int) := by omega
      obtain ⟨P, O, rfl⟩ := hl.row.row.addr (Nat.lt_of_le_of_lt (Nat.zero_le _) hhl)
      have a1 : wr.cell? ⟨P, O + h * 1 + 0, none⟩ = some (ptr ys[h].q) := (hl.below hGw.below).row.row.range h hhl 0 _ rfl
      simp only [Nat.mul_one, Nat.add_zero] at a1
      have hn := fun n os => hC (ys[h]'hhl) (grow (wr.drewN n) os) ((hl.each _ (List.getElem_mem hhl)).grew (hGw.trans (Grew.grow _ _ _))) (hx.grew (hGw.trans (Grew.grow _ _ _)))
      have hlo' : Hid (cF (ys[h]'hhl).f (Fv.f ⟨x1, x2, x3, xa, xc, xk⟩) < 0 → ∀ k (hk : k < ys.length), k < h + 1 → cF ys[k].f (Fv.f ⟨x1, x2, x3, xa, xc, xk⟩) < 0) := fun h0 k hk hkh => by
        by_cases e : k = h
        · subst e; exact h0
        · exact pre_cF.lt_of_le_of_lt (Int.le_of_lt (hord.out k h hk hhl (by omega))) h0
      have hhi' : Hid (¬ cF (ys[h]'hhl).f (Fv.f ⟨x1, x2, x3, xa, xc, xk⟩) < 0 → ∀ k (hk : k < ys.length), h ≤ k → 0 ≤ cF ys[k].f (Fv.f ⟨x1, x2, x3, xa, xc, xk⟩)) := fun h0 k hk hkh => by
        by_cases e : k = h
        · subst e; omega
        · have h1 := hord.out h k hhl hk (by omega)
          rcases Int.lt_or_le (cF ys[k].f (Fv.f ⟨x1, x2, x3, xa, xc, xk⟩)) 0 with h2 | h2
          · exact absurd (pre_cF.lt_of_le_of_lt (Int.le_of_lt h1) h2) h0
          · exact h2
      generalize (ys[h]'hhl) = p at *
      have A1 := fun n os => cell_grown (cell_block a1) a1 n os
      have Hh := hideP hh
      clear hh hC a1
      by_cases hr : cF p.f (Fv.f ⟨x1, x2, x3, xa, xc, xk⟩) < 0
      · have hl2 := hideP (hlo'.out hr)
        generalize cF p.f (Fv.f ⟨x1, x2, x3, xa, xc, xk⟩) = r at hn hr
        go_wp2_with fail
        go_quiet_grown (first | (go_at_fn 53; refine Calls.grown_of (hn _ _)))
        go_wp2_with fail
        exact ⟨⟨h + 1, j, by simp, rfl, by omega, by omega, hl2, hhi, hg.trans (Grew.grow _ _ _)⟩, by simp [intOf]; omega⟩
      · have hl2 := hideP (hhi'.out hr)
        generalize cF p.f (Fv.f ⟨x1, x2, x3, xa, xc, xk⟩) = r at hn hr
        go_wp2_with fail
        go_quiet_grown (first | (go_at_fn 53; refine Calls.grown_of (hn _ _)))
        go_wp2_with fail
        exact ⟨⟨i, h, rfl, rfl, by omega, by omega, hlo, hl2, hg.trans (Grew.grow _ _ _)⟩, by simp [intOf]; omega⟩
    · have q1 : ¬ (i : Int) < (j : Int) := by omega
      obtain rfl : i = j := by omega
      have hR := hfin.out i hj hlo.out hhi.out
      by_cases hil : i < ys.length
      · rw [dif_pos hil] at hR
        have q2 : (i : Int) < (ys.length : Int) := by omega
        obtain ⟨P, O, rfl⟩ := hl.row.row.addr (Nat.lt_of_le_of_lt (Nat.zero_le _) hil)
        have a1 : wr.cell? ⟨P, O + i * 1 + 0, none⟩ = some (ptr ys[i].q) := (hl.below hGw.below).row.row.range i hil 0 _ rfl
        simp only [Nat.mul_one, Nat.add_zero] at a1
        have hn := fun n os => hC (ys[i]'hil) (grow (wr.drewN n) os) ((hl.each _ (List.getElem_mem hil)).grew (hGw.trans (Grew.grow _ _ _))) (hx.grew (hGw.trans (Grew.grow _ _ _)))
        generalize (ys[i]'hil) = p at *
        have A1 := fun n os => cell_grown (cell_block a1) a1 n os
        clear hC a1
        generalize cF p.f (Fv.f ⟨x1, x2, x3, xa, xc, xk⟩) = r at hn hR
        have HR := hideP hR; clear hR
        go_wp2_with fail
        go_quiet_grown (first | (go_at_fn 53; refine Calls.grown_of (hn _ _)))
        go_wp2_with fail
        go_ret2
        exact ⟨⟨i, by rw [HR.out]; rfl, hj, hlo.out, hhi.out⟩, hGw.trans (Grew.grow _ _ _)⟩
      · rw [dif_neg hil] at hR
        have q2 : ¬ (i : Int) < (ys.length : Int) := by omega
        have HR := hideP hR
        clear hR hC C0 C1 C2 C3 hfin hord
        go_wp2_with fail
        go_big_region_o
        go_wp2_with fail
        go_ret2
        exact ⟨⟨i, by rw [HR.out]; rfl, hj, hlo.out, hhi.out⟩, hGw.trans (Grew.drew _)⟩

theorem find_at {b m : Nat} {a : Option Addr} {cap : Nat} {ps : List Pn} (x : Fv) (w : World) (h : TabAt w b m a cap ps) (hx : Fv.At w x) :
    Calls Try.prog 34 #[ptr b, x.val] w fun e w' => (∃ i : Nat, e = .returned (.tuple #[.int .i64 (i : Int), .bool (hasF (ps.map Pn.f) x.f)]) ∧ i ≤ ps.length ∧ (∀ k (hk : k < ps.length), k < i → cF ps[k].f x.f < 0) ∧ (∀ k (hk : k < ps.length), i ≤ k → 0 ≤ cF ps[k].f x.f)) ∧ Grew w w' := by
  have mixed : Try.prog.follows .mixedOrders = true := by kernel_rfl
  have hS := fun (W : World) (hg : Grew w W) => psearch_at a cap ps x W (h.lst.below hg.below) (hx.grew hg) h.sorted
  have hH := h.cell
  generalize hasF (ps.map Pn.f) x.f = R at *
  obtain ⟨x1, x2, x3, xa, xc, xk⟩ := x
  have G2 : Grew w (w.alloc (.cells #[str x1, str x2, str x3, .slice xa xk.length xc] 34)) := (Grew.refl w).allocs _
  have H2 := heap_alloc_new w (.cells #[str x1, str x2, str x3, .slice xa xk.length xc] 34)
  have H1 := below_heap G2.below hH
  clear h hH hx
  have hS2 := fun n => hS ((w.alloc (.cells #[str x1, str x2, str x3, .slice xa xk.length xc] 34)).drewN n) (G2.trans (Grew.drewN _ _))
  generalize hw2 : w.alloc (.cells #[str x1, str x2, str x3, .slice xa xk.length xc] 34) = w2 at *
  have hS3 := hS w2.drew (G2.trans (Grew.drew _))
  have HS := hideP hS3
  clear hS hS2
  have b0 := heap_cell H2 0; have b1 := heap_cell H2 1; have b2 := heap_cell H2 2; have b3 := heap_cell H2 3
  have a1 := heap_cell H1 1
  simp at b0 b1 b2 b3 a1
  clear H1 H2
  go_enter Try.func34, Try.ntmps34
  go_wp2_with fail
  clear hw2
  have K : ∀ X, Grew w2 X → X.cell? ⟨w.heap.size, 0, none⟩ = some (str x1) ∧ X.cell? ⟨w.heap.size, 1, none⟩ = some (str x2) ∧ X.cell? ⟨w.heap.size, 2, none⟩ = some (str x3) ∧ X.cell? ⟨w.heap.size, 3, none⟩ = some (.slice xa xk.length xc) ∧ X.cell? ⟨b, 1, none⟩ = some (.slice a ps.length cap) := fun X g =>
    ⟨(g.below.cell (p := ⟨_, 0, none⟩) (cell_block b0)).trans b0, (g.below.cell (p := ⟨_, 1, none⟩) (cell_block b1)).trans b1, (g.below.cell (p := ⟨_, 2, none⟩) (cell_block b2)).trans b2, (g.below.cell (p := ⟨_, 3, none⟩) (cell_block b3)).trans b3, (g.below.cell (p := ⟨_, 1, none⟩) (cell_block a1)).trans a1⟩
  have K0 := K _ (Grew.drew w2)
  go_region_held3 (fun X => X.cell? ⟨w.heap.size, 0, none⟩ = some (str x1) ∧ X.cell? ⟨w.heap.size, 1, none⟩ = some (str x2) ∧ X.cell? ⟨w.heap.size, 2, none⟩ = some (str x3) ∧ X.cell? ⟨w.heap.size, 3, none⟩ = some (.slice xa xk.length xc) ∧ X.cell? ⟨b, 1, none⟩ = some (.slice a ps.length cap)) (first | with_reducible exact K0 | exact K3) (first | (go_at_call 52; refine HS.out.mono ?_; rintro e w3 ⟨⟨i, rfl, hi, h1, h2⟩, g3⟩; have K3 := K _ ((Grew.drew w2).trans g3)))
  go_wp2_with fail
  go_ret2
  exact ⟨⟨i, rfl, hi, h1, h2⟩, (G2.trans (Grew.drew _)).trans g3⟩

end Go.Proofs.Ytomiefhfkdfgbaa
