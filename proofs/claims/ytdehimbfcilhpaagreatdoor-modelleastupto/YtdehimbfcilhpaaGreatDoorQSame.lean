/-
  slices.BinarySearchFunc over facts in order; Minus$1.
-/
import Derived.Shelf.SlSortCmp.QuietGrown
import Derived.Lib.SliceRun
import Derived.Shelf.RegionOpenPlain
import Derived.Shelf.SlicesQ.IndexFunc
import Derived.Test.YtdehimbfcilhpaaGreatDoorQCpt
import Derived.Test.YtdehimbfcilhpaaGreatDoorQSorted
import Derived.Test.YtdehimbfcilhpaaGreatDoorQRSorted
namespace Go.Proofs.YtdehimbfcilhpaaGreatDoor
open Go.RowKit Go.Sort

/-- where a fact would stand: what is found there -/
theorem found_iff {l : List F} (hs : SS l) (x : F) (i : Nat) (hi : i ≤ l.length) (h1 : ∀ k (hk : k < l.length), k < i → cF l[k] x < 0) (h2 : ∀ k (hk : k < l.length), i ≤ k → 0 ≤ cF l[k] x) :
    hasF l x = (if h : i < l.length then decide (cF l[i] x = 0) else false) := by
  rw [Bool.eq_iff_iff, hasF_iff]
  constructor
  · intro hx
    obtain ⟨m, hm, rfl⟩ := List.getElem_of_mem hx
    have h0 := cF_self l[m]
    have hmi : i ≤ m := by
      rcases Nat.lt_or_ge m i with h | h
      · have := h1 m hm h; omega
      · exact h
    have hlt : i < l.length := by omega
    rw [dif_pos hlt, decide_eq_true_eq]
    rcases Nat.lt_or_eq_of_le hmi with h | h
    · have h3 := List.pairwise_iff_getElem.1 hs i m hlt hm h
      have := h2 i hlt (Nat.le_refl _)
      omega
    · simp only [h]; exact h0
  · intro h
    split at h
    · rename_i hlt
      rw [decide_eq_true_eq, cF_zero] at h
      rw [← h]; exact List.getElem_mem hlt
    · cases h

set_option maxHeartbeats 4000000 in
theorem search_at (a : Option Addr) (c : Nat) (ys : List Fv) (x : Fv) (w : World) (hl : Lies w a c ys) (hys : ∀ y ∈ ys, Fv.At w y) (hx : Fv.At w x) (hs : SS (ys.map Fv.f)) :
    Calls Tryz.prog 41 #[.slice a ys.length c, x.val, .func (.func 42) #[] #[]] w fun e w' => (∃ i : Int, e = .returned (.tuple #[.int .i64 i, .bool (hasF (ys.map Fv.f) x.f)])) ∧ Grew w w' := by
  have mixed : Tryz.prog.follows .mixedOrders = true := by kernel_rfl
  have eg : ∀ args w, (callFunc 42 args).run Tryz.prog w = .ok (.enter 42 args) w := enters_of Tryz.func42 (by kernel_rfl) rfl
  have hC := fun (p : Fv) (W : World) (hp : Fv.At W p) (hq : Fv.At W x) => order_at p x W hp hq
  have few := hl.few
  have hord : Hid (∀ i j (hi : i < ys.length) (hj : j < ys.length), i < j → cF ys[i].f ys[j].f < 0) := fun i j hi hj hij => by
    have := List.pairwise_iff_getElem.1 hs i j (by simpa using hi) (by simpa using hj) hij
    simpa using this
  have hfin : Hid (∀ i, i ≤ ys.length → (∀ k (hk : k < ys.length), k < i → cF ys[k].f x.f < 0) → (∀ k (hk : k < ys.length), i ≤ k → 0 ≤ cF ys[k].f x.f) → hasF (ys.map Fv.f) x.f = (if h : i < ys.length then decide (cF ys[i].f x.f = 0) else false)) := fun i hi h1 h2 => by
    rw [found_iff hs x.f i (by simpa using hi) (fun k hk hki => by rw [List.getElem_map]; exact h1 k (by simpa using hk) hki) (fun k hk hki => by rw [List.getElem_map]; exact h2 k (by simpa using hk) hki)]
    by_cases h : i < ys.length
    · rw [dif_pos (by simpa using h), dif_pos h, List.getElem_map]
    · rw [dif_neg (by simpa using h), dif_neg h]
  generalize hasF (ys.map Fv.f) x.f = R at *
  clear hs
  obtain ⟨x1, x2, x3, xa, xc, xk⟩ := x
  go_enter Tryz.func41, Tryz.ntmps41
  go_wp2_with fail
  obtain ⟨w2, hw2⟩ : ∃ w2, w2 = w.alloc (.cells #[str x1, str x2, str x3, .slice xa xk.length xc] 36) := ⟨_, rfl⟩
  have G2 : Grew w w2 := by rw [hw2]; exact (Grew.refl w).allocs _
  have H2 : w2.heap[w.heap.size]? = some (.cells #[str x1, str x2, str x3, .slice xa xk.length xc] 36) := by rw [hw2]; exact heap_alloc_new w _
  rw [← hw2]
  clear hw2
  have b0 := heap_cell H2 0; have b1 := heap_cell H2 1; have b2 := heap_cell H2 2; have b3 := heap_cell H2 3
  simp at b0 b1 b2 b3
  go_loopw [9, 10, 11] (fun v9 v10 _ wr => ∃ i j : Nat, v9 = .int .i64 (i : Int) ∧ v10 = .int .i64 (j : Int) ∧ i ≤ j ∧ j ≤ ys.length ∧ Hid (∀ k (hk : k < ys.length), k < i → cF ys[k].f (Fv.f ⟨x1, x2, x3, xa, xc, xk⟩) < 0) ∧ Hid (∀ k (hk : k < ys.length), j ≤ k → 0 ≤ cF ys[k].f (Fv.f ⟨x1, x2, x3, xa, xc, xk⟩)) ∧ Grew w2 wr) (fun v9 v10 _ _ => (intOf v10).toNat - (intOf v9).toNat)
  case atStart => exact ⟨0, ys.length, rfl, rfl, by omega, by omega, fun k _ h => absurd h (by omega), fun k hk h => absurd hk (by omega), Grew.refl _⟩
  case round =>
    obtain ⟨i, j, rfl, rfl, hij, hj, hlo, hhi, hg⟩ := hrel
    have hGw := G2.trans hg
    have p0 := (hg.below.cell (p := ⟨w.heap.size, 0, none⟩) (cell_block b0)).trans b0
    have p1 := (hg.below.cell (p := ⟨w.heap.size, 1, none⟩) (cell_block b1)).trans b1
    have p2 := (hg.below.cell (p := ⟨w.heap.size, 2, none⟩) (cell_block b2)).trans b2
    have p3 := (hg.below.cell (p := ⟨w.heap.size, 3, none⟩) (cell_block b3)).trans b3
    have C0 := fun n os => cell_grown (cell_block p0) p0 n os
    have C1 := fun n os => cell_grown (cell_block p1) p1 n os
    have C2 := fun n os => cell_grown (cell_block p2) p2 n os
    have C3 := fun n os => cell_grown (cell_block p3) p3 n os
    clear b0 b1 b2 b3 p0 p1 p2 p3
    by_cases hlt : i < j
    · have q1 : (i : Int) < (j : Int) := by omega
      obtain ⟨h, hh⟩ : ∃ h, h = (i + j) / 2 := ⟨_, rfl⟩
      have hh1 : i ≤ h := by omega
      have hh2 : h < j := by omega
      have qh : ((i : Int) + (j : Int)) / 2 = (h : Int) := by omega
      have hhl : h < ys.length := by omega
      have q2 : (h : Int) < (ys.length : Int) := by omega
      obtain ⟨P, O, rfl⟩ := hl.addr (Nat.lt_of_le_of_lt (Nat.zero_le _) hhl)
      obtain ⟨a1, a2, a3, a4⟩ := (hl.below hGw.below (Nat.le_refl _)).get h hhl
      have hn := fun n os => hC (ys[h]'hhl) (grow (wr.drewN n) os) ((hys _ (List.getElem_mem hhl)).grew (hGw.trans (Grew.grow _ _ _))) (hx.grew (hGw.trans (Grew.grow _ _ _)))
      have hlo' : Hid (cF (ys[h]'hhl).f (Fv.f ⟨x1, x2, x3, xa, xc, xk⟩) < 0 → ∀ k (hk : k < ys.length), k < h + 1 → cF ys[k].f (Fv.f ⟨x1, x2, x3, xa, xc, xk⟩) < 0) := fun h0 k hk hkh => by
        by_cases e : k = h
        · subst e; exact h0
        · exact pre_cF.lt_of_le_of_lt (Int.le_of_lt (hord.out k h hk hhl (by omega))) h0
      have hhi' : Hid (¬ cF (ys[h]'hhl).f (Fv.f ⟨x1, x2, x3, xa, xc, xk⟩) < 0 → ∀ k (hk : k < ys.length), h ≤ k → 0 ≤ cF ys[k].f (Fv.f ⟨x1, x2, x3, xa, xc, xk⟩)) := fun h0 k hk hkh => by
        by_cases e : k = h
        · subst e; omega
        · have h1 := hord.out h k hhl hk (by omega)
          rcases Int.lt_or_le (cF ys[k].f (Fv.f ⟨x1, x2, x3, xa, xc, xk⟩)) 0 with h2 | h2
          · exact absurd (pre_cF.lt_of_le_of_lt (Int.le_of_lt h1) h2) h0
          · exact h2
      generalize (ys[h]'hhl) = p at *
      have A1 := fun n os => cell_grown (cell_block a1) a1 n os
      have A2 := fun n os => cell_grown (cell_block a2) a2 n os
      have A3 := fun n os => cell_grown (cell_block a3) a3 n os
      have A4 := fun n os => cell_grown (cell_block a4) a4 n os
      have Hh := hideP hh
      clear hh hC a1 a2 a3 a4
      by_cases hr : cF p.f (Fv.f ⟨x1, x2, x3, xa, xc, xk⟩) < 0
      · have hl2 := hideP (hlo'.out hr)
        generalize cF p.f (Fv.f ⟨x1, x2, x3, xa, xc, xk⟩) = r at hn hr
        go_wp2_with fail
        go_quiet_grown (first | (go_at_fn 42; refine Calls.grown_of (hn _ _)))
        go_wp2_with fail
        exact ⟨⟨h + 1, j, by simp, rfl, by omega, by omega, hl2, hhi, hg.trans (Grew.grow _ _ _)⟩, by simp [intOf]; omega⟩
      · have hl2 := hideP (hhi'.out hr)
        generalize cF p.f (Fv.f ⟨x1, x2, x3, xa, xc, xk⟩) = r at hn hr
        go_wp2_with fail
        go_quiet_grown (first | (go_at_fn 42; refine Calls.grown_of (hn _ _)))
        go_wp2_with fail
        exact ⟨⟨i, h, rfl, rfl, by omega, by omega, hlo, hl2, hg.trans (Grew.grow _ _ _)⟩, by simp [intOf]; omega⟩
    · have q1 : ¬ (i : Int) < (j : Int) := by omega
      obtain rfl : i = j := by omega
      have hR := hfin.out i hj hlo.out hhi.out
      by_cases hil : i < ys.length
      · rw [dif_pos hil] at hR
        have q2 : (i : Int) < (ys.length : Int) := by omega
        obtain ⟨P, O, rfl⟩ := hl.addr (Nat.lt_of_le_of_lt (Nat.zero_le _) hil)
        obtain ⟨a1, a2, a3, a4⟩ := (hl.below hGw.below (Nat.le_refl _)).get i hil
        have hn := fun n os => hC (ys[i]'hil) (grow (wr.drewN n) os) ((hys _ (List.getElem_mem hil)).grew (hGw.trans (Grew.grow _ _ _))) (hx.grew (hGw.trans (Grew.grow _ _ _)))
        generalize (ys[i]'hil) = p at *
        have A1 := fun n os => cell_grown (cell_block a1) a1 n os
        have A2 := fun n os => cell_grown (cell_block a2) a2 n os
        have A3 := fun n os => cell_grown (cell_block a3) a3 n os
        have A4 := fun n os => cell_grown (cell_block a4) a4 n os
        clear hC a1 a2 a3 a4 hlo hhi
        generalize cF p.f (Fv.f ⟨x1, x2, x3, xa, xc, xk⟩) = r at hn hR
        have HR := hideP hR; clear hR
        go_wp2_with fail
        go_quiet_grown (first | (go_at_fn 42; refine Calls.grown_of (hn _ _)))
        go_wp2_with fail
        go_ret2
        exact ⟨⟨i, by rw [HR.out]; rfl⟩, hGw.trans (Grew.grow _ _ _)⟩
      · rw [dif_neg hil] at hR
        have q2 : ¬ (i : Int) < (ys.length : Int) := by omega
        have HR := hideP hR
        clear hR hC C0 C1 C2 C3 hlo hhi hfin hord hys
        go_wp2_with fail
        go_big_region_o
        go_wp2_with fail
        go_ret2
        exact ⟨⟨i, by rw [HR.out]; rfl⟩, hGw.trans (Grew.drew _)⟩

end Go.Proofs.YtdehimbfcilhpaaGreatDoor

/-
  slices.DeleteFunc over a row of facts; Minus.
-/
namespace Go.Proofs.YtdehimbfcilhpaaGreatDoor
open Go.RowKit Go.Sort

/-- what the closure of Minus has captured: a list in order, in the world w -/
structure Cap (w : World) (B : Nat) (a : Option Addr) (c : Nat) (ys : List Fv) : Prop where
  cell : w.cell? ⟨B, 0, none⟩ = some (.slice a ys.length c)
  lies : Lies w a c ys
  each : ∀ y ∈ ys, Fv.At w y
  ord : SS (ys.map Fv.f)
theorem Cap.below {w w' : World} {B : Nat} {a : Option Addr} {c : Nat} {ys : List Fv} (h : Cap w B a c ys) (hb : Below w.heap.size w w') : Cap w' B a c ys :=
  ⟨(hb.cell (p := ⟨B, 0, none⟩) (cell_block h.cell)).trans h.cell, h.lies.below hb (Nat.le_refl _), fun y hy => (h.each y hy).below hb (Nat.le_refl _), h.ord⟩

theorem minus1_at (x : Fv) (B : Nat) (a : Option Addr) (c : Nat) (ys : List Fv) (w : World) (hc : Cap w B a c ys) (hx : Fv.At w x) :
    Calls Tryz.prog 40 #[x.val, .pointer (some ⟨B, 0, none⟩)] w fun e w' => e = .returned (.bool (hasF (ys.map Fv.f) x.f)) ∧ Grew w w' := by
  have hg2 : ∀ o : Obj, Grew w (w.alloc o) := fun o => (Grew.refl w).allocs o
  have hS := fun (o : Obj) => search_at a c ys x (w.alloc o) (hc.lies.below (below_alloc w o) (Nat.le_refl _)) (fun y hy => (hc.each y hy).below (below_alloc w o) (Nat.le_refl _)) (hx.grew (hg2 o)) hc.ord
  have c0 := fun o : Obj => Lib.cell?_alloc_some o hc.cell
  clear hc
  generalize hasF (ys.map Fv.f) x.f = R at *
  obtain ⟨x1, x2, x3, xa, xc, xk⟩ := x
  go_enter Tryz.func40, Tryz.ntmps40
  go_wp2_with fail
  refine (hS _).mono ?_; rintro e w1 ⟨⟨i, rfl⟩, hg⟩
  go_wp2_with fail
  go_ret
  exact ⟨rfl, (hg2 _).trans hg⟩

theorem indexF_none (a : Option Addr) (c : Nat) (f : Value) (w : World) : Calls Tryz.prog 68 #[.slice a 0 c, f] w fun e w' => e = .returned (.int .i64 (-1)) ∧ w = w' := by
  go_enter Tryz.func68, Tryz.ntmps68
  go_wp2
  go_loopw [5, 8] (fun _ v wr => v = .int .i64 0 ∧ w = wr) (fun _ _ _ => 0)
  case atStart => exact ⟨rfl, rfl⟩
  case round =>
    obtain ⟨rfl, rfl⟩ := hrel
    go_wp2
    go_ret
    exact ⟨rfl, rfl⟩

theorem indexF_at (g c : Nat) (zs : List Fv) (B : Nat) (a' : Option Addr) (c' : Nat) (ys : List Fv) (w : World) (hrow : RowF w g zs) (hg : g < w.heap.size) (hz : ∀ z ∈ zs, Fv.At w z) (hc : Cap w B a' c' ys) (hlen : zs.length ≤ 1954687338211) :
    Calls Tryz.prog 68 #[.slice (some ⟨g, 0, none⟩) zs.length c, .func (.func 40) #[] #[.pointer (some ⟨B, 0, none⟩)]] w
      fun e w' => ((e = .returned (.int .i64 (-1)) ∧ ∀ z ∈ zs, hasF (ys.map Fv.f) z.f = false) ∨ ∃ i : Nat, ∃ hi : i < zs.length, e = .returned (.int .i64 (i : Int)) ∧ hasF (ys.map Fv.f) zs[i].f = true ∧ ∀ j (hj : j < zs.length), j < i → hasF (ys.map Fv.f) zs[j].f = false) ∧ Below w.heap.size w w' := by
  have eg : ∀ args w, (callFunc 40 args).run Tryz.prog w = .ok (.enter 40 args) w := enters_of Tryz.func40 (by kernel_rfl) rfl
  haveI : Inhabited (In w) := ⟨noIn w⟩
  have hd : (allIn w zs hz).length = zs.length := by rw [← List.length_map (f := fun x : In w => x.1), allIn_val]
  have hv : ∀ j (hj : j < zs.length), ((allIn w zs hz)[j]!).1 = zs[j] := fun j hj => by
    rw [getElem!_pos (allIn w zs hz) j (by omega)]
    have h1 : ((allIn w zs hz).map (·.1))[j]'(by simp; omega) = zs[j] := by simp only [allIn_val]
    simpa using h1
  have := AnyQ.slices_IndexFunc Tryz.idxF 4 Tryz.isAgg36 Tryz.sizeOf36 (encIn w) (fun x => fv_len x.1) (fun y => hasF (ys.map Fv.f) y.1.f) 40 #[.pointer (some ⟨B, 0, none⟩)] eg g 0 zs.length c (allIn w zs hz) w
    (fun W y hW => (minus1_at y.1 B a' c' ys W (hc.below hW) (y.2.below hW (Nat.le_refl _))).mono fun _ _ ⟨h1, h2⟩ => ⟨h1, hW.trans (h2.below.mono hW.size)⟩) (by omega) (by omega) hg
    (fun j hj i v hv' => by
      have hj' : j < zs.length := by omega
      have hv2 : (fv ((allIn w zs hz)[j]!).1)[i]? = some v := hv'
      have hi : i < 4 := by have := (List.getElem?_eq_some_iff.1 hv2).1; rwa [fv_len] at this
      rw [hv j hj'] at hv2
      rw [Nat.zero_add, (hrow j hj' i hi).1, hv2])
  refine this.mono fun e w' ⟨h1, h2⟩ => ⟨?_, h2⟩
  by_cases hex : ∃ i, ∃ hi : i < zs.length, hasF (ys.map Fv.f) zs[i].f = true
  · right
    have hex' : ∃ i, i < zs.length ∧ ∃ hi : i < zs.length, hasF (ys.map Fv.f) zs[i].f = true := by obtain ⟨i, hi, h⟩ := hex; exact ⟨i, hi, hi, h⟩
    obtain ⟨i, ⟨hi, _, hp⟩, hmin⟩ : ∃ i, (i < zs.length ∧ ∃ hi : i < zs.length, hasF (ys.map Fv.f) zs[i].f = true) ∧ ∀ j, j < i → ¬ (j < zs.length ∧ ∃ hj : j < zs.length, hasF (ys.map Fv.f) zs[j].f = true) := by
      obtain ⟨i0, h0⟩ := hex'
      induction i0 using Nat.strongRecOn with
      | ind n ih =>
        by_cases hb : ∃ j, j < n ∧ (j < zs.length ∧ ∃ hj : j < zs.length, hasF (ys.map Fv.f) zs[j].f = true)
        · obtain ⟨j, hj, hpj⟩ := hb
          exact ih j hj hpj
        · exact ⟨n, h0, fun j hj hpj => hb ⟨j, hj, hpj⟩⟩
    have hno : ∀ j (hj : j < zs.length), j < i → hasF (ys.map Fv.f) zs[j].f = false := fun j hj hji => by
      rw [Bool.eq_false_iff]; exact fun h => hmin j hji ⟨hj, hj, h⟩
    refine ⟨i, hi, ?_, hp, hno⟩
    rw [h1, Lib.idxBy_hit (fun _ y => hasF (ys.map Fv.f) y.1.f) (allIn w zs hz) zs.length i default hi (by omega) (by show hasF _ ((allIn w zs hz)[i]!).1.f = true; rw [hv i hi]; exact hp) (fun j hj => by show hasF _ ((allIn w zs hz)[j]!).1.f = false; rw [hv j (by omega)]; exact hno j (by omega) hj)]
  · left
    have hno : ∀ j (hj : j < zs.length), hasF (ys.map Fv.f) zs[j].f = false := fun j hj => by
      rw [Bool.eq_false_iff]; exact fun h => hex ⟨j, hj, h⟩
    refine ⟨?_, fun z hz' => by obtain ⟨j, hj, rfl⟩ := List.getElem_of_mem hz'; exact hno j hj⟩
    rw [h1, Lib.idxBy_miss (fun _ y => hasF (ys.map Fv.f) y.1.f) (allIn w zs hz) zs.length default (fun j hj => by show hasF _ ((allIn w zs hz)[j]!).1.f = false; rw [hv j hj]; exact hno j hj)]

end Go.Proofs.YtdehimbfcilhpaaGreatDoor

/-
  slices.DeleteFunc, walked; Minus.
-/
namespace Go.Proofs.YtdehimbfcilhpaaGreatDoor
open Go.RowKit Go.Sort

abbrev stays (ys : List Fv) (z : Fv) : Bool := !hasF (ys.map Fv.f) z.f

set_option maxHeartbeats 4000000 in
theorem delete_at (wh w : World) (g c : Nat) (zs : List Fv) (B : Nat) (a' : Option Addr) (c' : Nat) (ys : List Fv) (hc : Cap wh B a' c' ys) (hB : Below wh.heap.size wh w) (hg0 : wh.heap.size ≤ g) (hg1 : g < w.heap.size) (hrow : RowF w g zs) (hz : ∀ z ∈ zs, Fv.At w z ∧ Fv.Apart g z) (hcap : zs.length ≤ c) (hlen : zs.length ≤ 1954687338211) :
    Calls Tryz.prog 39 #[.slice (some ⟨g, 0, none⟩) zs.length c, .func (.func 40) #[] #[.pointer (some ⟨B, 0, none⟩)]] w
      fun e w' => e = .returned (.slice (some ⟨g, 0, none⟩) (zs.filter (stays ys)).length c) ∧ RowF w' g (zs.filter (stays ys)) ∧ But g w w' := by
  have eg : ∀ args w, (callFunc 40 args).run Tryz.prog w = .ok (.enter 40 args) w := enters_of Tryz.func40 (by kernel_rfl) rfl
  have hM := fun (x : Fv) (W : World) (hW : Below wh.heap.size wh W) (h : Fv.At W x) => minus1_at x B a' c' ys W (hc.below hW) h
  have hI := indexF_at g c zs B a' c' ys w hrow hg1 (fun z h => (hz z h).1) (hc.below hB) hlen
  go_enter Tryz.func39, Tryz.ntmps39
  go_wp2_with fail
  refine hI.mono ?_
  rintro e w1 ⟨hcase, hb1⟩
  rcases hcase with ⟨rfl, hall⟩ | ⟨i, hi, rfl, hyes, hbefore⟩
  · have hf : Hid (zs.filter (stays ys) = zs) := List.filter_eq_self.2 fun z h => by rw [stays, hall z h]; rfl
    have Hall := hideP hall; clear hall
    go_wp2_with fail
    go_ret
    rw [hf.out]
    exact ⟨rfl, hrow.below hb1 hg1, (But.refl _ _).below hb1⟩
  · have hst : Hid ((zs.take (i + 1)).filter (stays ys) = zs.take i) := by
      show _ = _
      rw [List.take_succ_eq_append_getElem hi, List.filter_append, List.filter_eq_self.2 fun z h => by
        obtain ⟨j, hj, rfl⟩ := List.mem_take_iff_getElem.1 h
        rw [stays, hbefore j (by omega) (by omega)]; rfl]
      simp [stays, hyes]
    have Hy := hideP hyes; have Hb := hideP hbefore; clear hyes hbefore
    have hne : ((i : Int) == -1) = false := by rw [beq_eq_false_iff_ne]; omega
    go_wp2_with fail
    have hli : (zs.take i).length = i := by rw [List.length_take]; omega
    go_loopw [5, 6, 7] (fun v5 v6 _ wr => ∃ (t : Nat) (L : List Fv), i < t ∧ t ≤ zs.length ∧ v6 = .int .i64 (t : Int) ∧ v5 = .int .i64 (L.length : Int) ∧ Hid (L = (zs.take t).filter (stays ys)) ∧ L.length < t ∧ RowF wr g (L ++ zs.drop L.length) ∧ But g w wr) (fun _ v6 _ _ => zs.length - (intOf v6).toNat)
    case atStart => exact ⟨i + 1, zs.take i, by omega, by omega, by simp, by rw [hli], hst.out.symm, by omega, by rw [hli, List.take_append_drop]; exact hrow.below hb1 hg1, (But.refl _ _).below hb1⟩
    case round =>
      obtain ⟨t, L, hit, ht, rfl, rfl, hL, hLl, hR, hbut⟩ := hrel
      by_cases hlt : t < zs.length
      · have q1 : (t : Int) < (zs.length : Int) := by omega
        have hRl : (L ++ zs.drop L.length).length = zs.length := by simp; omega
        have gi := mid_get zs L t hlt (by omega)
        obtain ⟨a1, a2, a3, a4⟩ := hR.get t (by omega)
        rw [gi] at a1 a2 a3 a4
        have hzz := hz _ (List.getElem_mem hlt)
        have hA := hzz.1.but hzz.2 hbut
        have hBr : Below wh.heap.size wh wr := hB.trans (hbut.lower hg0 hB.size)
        have hfil : Hid ((zs.take (t + 1)).filter (stays ys) = (zs.take t).filter (stays ys) ++ [zs[t]'hlt].filter (stays ys)) := by
          show _ = _
          rw [List.take_succ_eq_append_getElem hlt, List.filter_append]
        generalize (zs[t]'hlt) = p at *
        have hn := fun o : Obj => hM p (wr.alloc o) (hBr.trans ((below_alloc wr o).mono hBr.size)) (hA.below (below_alloc wr o) (Nat.le_refl _))
        have hgr : g < wr.heap.size := Nat.lt_of_lt_of_le hg1 hbut.size
        have HRl := hideP hRl; clear hRl gi hM
        cases hr : hasF (ys.map Fv.f) p.f
        · simp only [hr] at hn
          have hL2 : Hid (L ++ [p] = (zs.take (t + 1)).filter (stays ys)) := by
            show _ = _
            rw [hfil.out, hL.out]; simp [stays, hr]
          clear hr
          go_wp2_with fail
          refine (hn _).mono ?_; rintro e w2 ⟨rfl, hg2⟩
          have hb2 : Below wr.heap.size wr w2 := Below.then (below_alloc _ _) hg2.below
          have hbut2 := hbut.below hb2
          have hR2 := hR.below hb2 hgr
          have H2 : w2.heap[wr.heap.size]? = some (.cells #[str p.at_, str p.by_, str p.pred, .slice p.a p.ks.length p.cap] 36) := (hg2.below.block _ (by simp)).trans (heap_alloc_new _ _)
          have e0 := heap_cell H2 0; have e1 := heap_cell H2 1; have e2 := heap_cell H2 2; have e3 := heap_cell H2 3
          simp at e0 e1 e2 e3
          have hl : L.length < (L ++ zs.drop L.length).length := by rw [HRl.out]; omega
          obtain ⟨c1, c2, c3, c4⟩ := hR2.get L.length hl
          obtain ⟨f1, f2, f3, f4⟩ := hR2.thaw L.length hl
          have qc : (L.length : Int) < (zs.length : Int) := by omega
          have hstr := hR2.store L.length hl p
          rw [mid_set zs L p (by omega)] at hstr
          generalize (L ++ zs.drop L.length)[L.length]'hl = old at *
          clear a1 a2 a3 a4 H2
          go_wp2_with fail
          refine ⟨⟨t + 1, L ++ [p], by omega, by omega, by simp, by simp, hL2, by simp; omega, hstr, ?_⟩, by simp [intOf]; omega⟩
          exact (((hbut2.set _ _).set _ _).set _ _).set _ _
        · simp only [hr] at hn
          have hL2 : Hid (L = (zs.take (t + 1)).filter (stays ys)) := by
            show _ = _
            rw [hfil.out, ← hL.out]; simp [stays, hr]
          clear hr
          go_wp2_with fail
          refine (hn _).mono ?_; rintro e w2 ⟨rfl, hg2⟩
          have hb2 : Below wr.heap.size wr w2 := Below.then (below_alloc _ _) hg2.below
          clear a1 a2 a3 a4
          go_wp2_with fail
          exact ⟨⟨t + 1, L, by omega, by omega, by simp, rfl, hL2, by omega, hR.below hb2 hgr, hbut.below hb2⟩, by simp [intOf]; omega⟩
      · have q1 : ¬ (t : Int) < (zs.length : Int) := by omega
        have hRl : (L ++ zs.drop L.length).length = zs.length := by simp; omega
        have qd : L.length < zs.length := by omega
        obtain ⟨Z, hZ, hcl⟩ := run_clear_facts wr g (L.length * 4) (zs.length - L.length) (c - L.length) (by omega)
          (fun j hj => (hR.some (L.length * 4 + j) (by rw [hRl]; omega)).1) (fun j hj => (hR.some (L.length * 4 + j) (by rw [hRl]; omega)).2)
        have qe : (L.length : Int) ≤ (zs.length : Int) := by omega
        have qf : ¬ c = L.length := by omega
        have qg : (L.length : Int) ≤ (c : Int) := by omega
        have HL : Hid (zs.filter (stays ys) = L) := by show _ = _; rw [hL.out, List.take_of_length_le (by omega)]
        clear hL
        go_wp2_with fail
        go_ret
        rw [HL.out]
        exact ⟨rfl, hR.head Z, hbut.cells Z _ _⟩

theorem delete_none (a : Option Addr) (c : Nat) (f : Value) (w : World) : Calls Tryz.prog 39 #[.slice a 0 c, f] w fun e w' => e = .returned (.slice a 0 c) ∧ w = w' := by
  have hI := fun W => indexF_none a c f W
  go_enter Tryz.func39, Tryz.ntmps39
  go_wp2_with fail
  refine (hI _).mono ?_; rintro e w1 ⟨rfl, rfl⟩
  go_wp2_with fail
  go_ret
  exact ⟨rfl, rfl⟩

end Go.Proofs.YtdehimbfcilhpaaGreatDoor

/-
  Has and Same, the program's; Has, the reference's.
-/
namespace Go.Proofs.YtdehimbfcilhpaaGreatDoor
open Go.RowKit Go.Sort

theorem has1_at (x y : Fv) (B : Nat) (w : World) (hx : Fv.At w x) (hy : Fv.At w y) (hB : w.heap[B]? = some (.cells #[str x.at_, str x.by_, str x.pred, .slice x.a x.ks.length x.cap] 36)) :
    Calls Tryz.prog 46 #[y.val, .pointer (some ⟨B, 0, none⟩)] w fun e w' => e = .returned (.bool (decide (cF x.f y.f = 0))) ∧ Grew w w' := by
  have hO := fun (W : World) (hg : Grew w W) => order_at x y W (hx.grew hg) (hy.grew hg)
  have hg2 : ∀ o : Obj, Grew w (w.alloc o) := fun o => (Grew.refl w).allocs o
  have b0 := heap_cell hB 0; have b1 := heap_cell hB 1; have b2 := heap_cell hB 2; have b3 := heap_cell hB 3
  simp at b0 b1 b2 b3
  clear hB
  have c0 := fun o : Obj => Lib.cell?_alloc_some o b0
  have c1 := fun o : Obj => Lib.cell?_alloc_some o b1
  have c2 := fun o : Obj => Lib.cell?_alloc_some o b2
  have c3 := fun o : Obj => Lib.cell?_alloc_some o b3
  clear b0 b1 b2 b3
  generalize cF x.f y.f = r at *
  obtain ⟨x1, x2, x3, xa, xc, xk⟩ := x; obtain ⟨y1, y2, y3, ya, yc, yk⟩ := y
  simp only at c0 c1 c2 c3
  go_enter Tryz.func46, Tryz.ntmps46
  go_wp2_with fail
  refine (hO _ (hg2 _)).mono ?_; rintro e w1 ⟨rfl, hg⟩
  go_wp2_with fail
  go_ret
  refine ⟨ret_bool ?_, (hg2 _).trans hg⟩
  rw [Bool.eq_iff_iff]; simp

set_option maxHeartbeats 1000000 in
theorem hasF_nil (a : Option Addr) (c : Nat) (f : Value) (w : World) : Calls Tryz.prog 45 #[.slice a 0 c, f] w fun e w' => e = .returned (.bool false) ∧ w = w' := by
  go_enter Tryz.func45, Tryz.ntmps45
  go_wp2
  go_loopw [5, 8] (fun _ v wr => v = .int .i64 0 ∧ w = wr) (fun _ _ _ => 0)
  case atStart => exact ⟨rfl, rfl⟩
  case round =>
    obtain ⟨rfl, rfl⟩ := hrel
    go_wp2
    go_ret
    exact ⟨rfl, rfl⟩

theorem any_has (xs : List Fv) (x : Fv) : (xs.any fun y => decide (cF x.f y.f = 0)) = hasF (xs.map Fv.f) x.f := by
  unfold hasF; rw [List.any_map]; rfl

theorem containsF_at (a : Option Addr) (c : Nat) (xs : List Fv) (x : Fv) (B : Nat) (w : World) (hl : Lies w a c xs) (hxs : ∀ y ∈ xs, Fv.At w y) (hx : Fv.At w x) (hB : w.heap[B]? = some (.cells #[str x.at_, str x.by_, str x.pred, .slice x.a x.ks.length x.cap] 36)) :
    Calls Tryz.prog 45 #[.slice a xs.length c, .func (.func 46) #[] #[.pointer (some ⟨B, 0, none⟩)]] w fun e w' => e = .returned (.bool (hasF (xs.map Fv.f) x.f)) ∧ Below w.heap.size w w' := by
  have eg : ∀ args w, (callFunc 46 args).run Tryz.prog w = .ok (.enter 46 args) w := enters_of Tryz.func46 (by kernel_rfl) rfl
  haveI : Inhabited (In w) := ⟨noIn w⟩
  by_cases h0 : xs.length = 0
  · obtain rfl : xs = [] := List.eq_nil_of_length_eq_zero h0
    exact (hasF_nil a c _ w).mono fun _ _ ⟨h1, h2⟩ => ⟨by rw [h1, ← any_has]; rfl, by rw [h2]; exact Below.refl _ _⟩
  · obtain ⟨P, O, rfl⟩ := hl.addr (by omega)
    have hd : (allIn w xs hxs).length = xs.length := by rw [← List.length_map (f := fun x : In w => x.1), allIn_val]
    have hv : ∀ j (hj : j < xs.length), ((allIn w xs hxs)[j]!).1 = xs[j] := fun j hj => by
      rw [getElem!_pos (allIn w xs hxs) j (by omega)]
      have h1 : ((allIn w xs hxs).map (·.1))[j]'(by simp; omega) = xs[j] := by simp only [allIn_val]
      simpa using h1
    have hpos : 0 < xs.length := by omega
    have := AnyQ.slices_ContainsFunc Tryz.hasF 4 Tryz.isAgg36 Tryz.sizeOf36 (encIn w) (fun x => fv_len x.1) (fun y => decide (cF x.f y.1.f = 0)) 46 #[.pointer (some ⟨B, 0, none⟩)] eg P O xs.length c (allIn w xs hxs) w
      (fun W y hW => (has1_at x y.1 B W (hx.below hW (Nat.le_refl _)) (y.2.below hW (Nat.le_refl _)) ((hW.block B (heap_lt hB)).trans hB)).mono fun _ _ ⟨h1, h2⟩ => ⟨h1, hW.trans (h2.below.mono hW.size)⟩) (by omega) (by have := hl.few; omega)
      (cell_block (hl.get 0 hpos).1) (fun j hj i v hv' => by
        have hj' : j < xs.length := by omega
        have hi : i < 4 := by have := (List.getElem?_eq_some_iff.1 hv').1; rwa [fv_len] at this
        have hv2 : (fv ((allIn w xs hxs)[j]!).1)[i]? = some v := hv'
        rw [hv j hj'] at hv2
        have h2 := flat_get fv 4 fv_len xs j i hj' hi
        have h3 := hl.cells _ rfl (j * 4 + i) v (by rw [fcells, h2, hv2])
        rw [Addr.add_lit] at h3
        rw [← h3, Nat.add_assoc])
    refine this.mono fun e w' ⟨h1, h2⟩ => ⟨?_, h2⟩
    rw [h1, ← any_has, List.take_of_length_le (by omega)]
    congr 2
    have h3 : (xs.any fun y => decide (cF x.f y.f = 0)) = (((allIn w xs hxs).map (·.1)).any fun y => decide (cF x.f y.f = 0)) := by rw [allIn_val]
    rw [h3, List.any_map]; rfl

theorem has_at (a : Option Addr) (c : Nat) (xs : List Fv) (x : Fv) (w : World) (hl : Lies w a c xs) (hxs : ∀ y ∈ xs, Fv.At w y) (hx : Fv.At w x) :
    Calls Tryz.prog 25 #[.slice a xs.length c, x.val] w fun e w' => e = .returned (.bool (hasF (xs.map Fv.f) x.f)) ∧ Below w.heap.size w w' := by
  obtain ⟨x1, x2, x3, xa, xc, xk⟩ := x
  have hb := below_alloc w (.cells #[str x1, str x2, str x3, .slice xa xk.length xc] 36)
  have hC := containsF_at a c xs ⟨x1, x2, x3, xa, xc, xk⟩ w.heap.size (w.alloc (.cells #[str x1, str x2, str x3, .slice xa xk.length xc] 36)) (hl.below hb (Nat.le_refl _)) (fun y hy => (hxs y hy).below hb (Nat.le_refl _)) (hx.below hb (Nat.le_refl _)) (heap_alloc_new w _)
  generalize hasF (xs.map Fv.f) (Fv.f ⟨x1, x2, x3, xa, xc, xk⟩) = r at *
  go_enter Tryz.func25, Tryz.ntmps25
  go_wp2_with fail
  refine hC.mono ?_; rintro e w1 ⟨rfl, hb1⟩
  go_wp2_with fail
  go_ret
  exact ⟨rfl, Below.then hb hb1⟩

set_option maxHeartbeats 2000000 in
theorem refhas_at (a : Option Addr) (c : Nat) (xs : List Fv) (x : Fv) (w : World) (hl : Lies w a c xs) (hxs : ∀ y ∈ xs, Fv.At w y) (hx : Fv.At w x) :
    Calls Tryz.prog 12 #[.slice a xs.length c, x.val] w fun e w' => e = .returned (.bool (hasF (xs.map Fv.f) x.f)) ∧ Grew w w' := by
  have mixed : Tryz.prog.follows .mixedOrders = true := by kernel_rfl
  have hC := fun (p : Fv) (W : World) (hp : Fv.At W p) (hq : Fv.At W x) => reforder_at p x W hp hq
  have few := hl.few
  have hyes : Hid (∀ k (h : k < xs.length), cF xs[k].f x.f = 0 → hasF (xs.map Fv.f) x.f = true) := fun k h h' => (hasF_iff _ _).2 (by rw [← (cF_zero _ _).1 h']; exact List.mem_map_of_mem (List.getElem_mem h))
  have hno : Hid ((∀ k (h : k < xs.length), cF xs[k].f x.f ≠ 0) → hasF (xs.map Fv.f) x.f = false) := fun h => by
    rw [Bool.eq_false_iff]; intro h'
    obtain ⟨y, hy, he⟩ := List.mem_map.1 ((hasF_iff _ _).1 h')
    obtain ⟨k, hk, rfl⟩ := List.getElem_of_mem hy
    exact h k hk (by rw [he]; exact cF_self _)
  generalize hasF (xs.map Fv.f) x.f = R at *
  obtain ⟨x1, x2, x3, xa, xc, xk⟩ := x
  go_enter Tryz.func12, Tryz.ntmps12
  go_wp2_with fail
  obtain ⟨w2, hw2⟩ : ∃ w2, w2 = w.alloc (.cells #[str x1, str x2, str x3, .slice xa xk.length xc] 36) := ⟨_, rfl⟩
  have G2 : Grew w w2 := by rw [hw2]; exact (Grew.refl w).allocs _
  have H2 : w2.heap[w.heap.size]? = some (.cells #[str x1, str x2, str x3, .slice xa xk.length xc] 36) := by rw [hw2]; exact heap_alloc_new w _
  rw [← hw2]
  clear hw2
  have b0 := heap_cell H2 0; have b1 := heap_cell H2 1; have b2 := heap_cell H2 2; have b3 := heap_cell H2 3
  simp at b0 b1 b2 b3
  go_loopw [5] (fun v wr => ∃ k : Nat, v = .int .i64 (k : Int) ∧ k ≤ xs.length ∧ Hid (∀ j (h1 : j < xs.length), j < k → cF xs[j].f (Fv.f ⟨x1, x2, x3, xa, xc, xk⟩) ≠ 0) ∧ Grew w2 wr) (fun v _ => xs.length - (intOf v).toNat)
  case atStart => exact ⟨0, rfl, by omega, fun j _ h => absurd h (by omega), Grew.refl _⟩
  case round =>
    obtain ⟨k, rfl, hk, hev, hg⟩ := hrel
    by_cases hlt : k < xs.length
    · have q2 : (k : Int) < (xs.length : Int) := by omega
      obtain ⟨P, O, rfl⟩ := hl.addr (Nat.lt_of_le_of_lt (Nat.zero_le _) hlt)
      have hGw := G2.trans hg
      obtain ⟨a1, a2, a3, a4⟩ := (hl.below hGw.below (Nat.le_refl _)).get k hlt
      have hn := fun n os => hC (xs[k]'hlt) (grow (wr.drewN n) os) ((hxs _ (List.getElem_mem hlt)).grew (hGw.trans (Grew.grow _ _ _))) (hx.grew (hGw.trans (Grew.grow _ _ _)))
      have hy := hyes.out k hlt
      have hev' : Hid (cF (xs[k]'hlt).f (Fv.f ⟨x1, x2, x3, xa, xc, xk⟩) ≠ 0 → ∀ j (h1 : j < xs.length), j < k + 1 → cF xs[j].f (Fv.f ⟨x1, x2, x3, xa, xc, xk⟩) ≠ 0) := fun h j h1 hj => by
        by_cases e : j = k
        · subst e; exact h
        · exact hev.out j h1 (by omega)
      generalize (xs[k]'hlt) = p at *
      have Hy := hideP hy; clear hy
      have A1 := fun n os => cell_grown (cell_block a1) a1 n os
      have A2 := fun n os => cell_grown (cell_block a2) a2 n os
      have A3 := fun n os => cell_grown (cell_block a3) a3 n os
      have A4 := fun n os => cell_grown (cell_block a4) a4 n os
      have p0 := (hg.below.cell (p := ⟨w.heap.size, 0, none⟩) (cell_block b0)).trans b0
      have p1 := (hg.below.cell (p := ⟨w.heap.size, 1, none⟩) (cell_block b1)).trans b1
      have p2 := (hg.below.cell (p := ⟨w.heap.size, 2, none⟩) (cell_block b2)).trans b2
      have p3 := (hg.below.cell (p := ⟨w.heap.size, 3, none⟩) (cell_block b3)).trans b3
      have C0 := fun n os => cell_grown (cell_block p0) p0 n os
      have C1 := fun n os => cell_grown (cell_block p1) p1 n os
      have C2 := fun n os => cell_grown (cell_block p2) p2 n os
      have C3 := fun n os => cell_grown (cell_block p3) p3 n os
      clear a1 a2 a3 a4 b0 b1 b2 b3 p0 p1 p2 p3 hC
      by_cases hr : cF p.f (Fv.f ⟨x1, x2, x3, xa, xc, xk⟩) = 0
      · have HR := hideP (Hy.out hr)
        simp only [hr] at hn
        clear hr
        go_wp2_with fail
        go_quiet_grown (first | (go_at_call 30; refine Calls.grown_of (hn _ _)))
        go_wp2_with fail
        go_ret
        exact ⟨ret_bool HR.out.symm, hGw.trans (Grew.grow _ _ _)⟩
      · have hev'' := hideP (hev'.out hr)
        generalize cF p.f (Fv.f ⟨x1, x2, x3, xa, xc, xk⟩) = r at hn hr
        go_wp2_with fail
        go_quiet_grown (first | (go_at_call 30; refine Calls.grown_of (hn _ _)))
        go_wp2_with fail
        exact ⟨⟨k + 1, by simp, by omega, hev'', hg.trans (Grew.grow _ _ _)⟩, by simp [intOf]; omega⟩
    · have q2 : ¬ (k : Int) < (xs.length : Int) := by omega
      have HR := hideP (hno.out fun j h => hev.out j h (by omega))
      go_wp2_with fail
      go_ret
      exact ⟨ret_bool HR.out.symm, G2.trans hg⟩

end Go.Proofs.YtdehimbfcilhpaaGreatDoor

/-
  Minus, the program's and the reference's.
-/
namespace Go.Proofs.YtdehimbfcilhpaaGreatDoor
open Go.RowKit Go.Sort

theorem hasF_sortF (b : List F) (x : F) : hasF (sortF b) x = hasF b x := by
  rw [Bool.eq_iff_iff, hasF_iff, hasF_iff, mem_sortF]
theorem filter_map (zs us : List Fv) : (zs.filter (stays us)).map Fv.f = (zs.map Fv.f).filter fun x => !hasF (us.map Fv.f) x := by
  rw [List.filter_map]; rfl
theorem minusF_eq (a b : List F) : (sortF a).filter (fun x => !hasF (sortF b) x) = minusF a b := by
  unfold minusF
  congr 1
  funext x
  rw [hasF_sortF]

set_option maxHeartbeats 2000000 in
theorem minus_at (a a' : Option Addr) (c c' : Nat) (xs ys : List Fv) (w : World) (hx : Lies w a c xs) (hy : Lies w a' c' ys) (ax : ∀ x ∈ xs, Fv.At w x) (ay : ∀ y ∈ ys, Fv.At w y) :
    Calls Tryz.prog 22 #[.slice a xs.length c, .slice a' ys.length c'] w fun e w' => ∃ a2 c2 zs, e = .returned (.slice a2 zs.length c2) ∧ OwF w' w.heap.size a2 c2 zs ∧ (∀ z ∈ zs, Fv.At w' z) ∧ zs.map Fv.f = minusF (xs.map Fv.f) (ys.map Fv.f) ∧ Below w.heap.size w w' := by
  go_enter Tryz.func22, Tryz.ntmps22
  go_wp2_with fail
  refine (ordered_at a' c' ys w hy ay).mono ?_
  rintro e w1 ⟨a1, c1, us, rfl, hO1, hin1, hf1, hb1⟩
  have Hf1 := hideP hf1; clear hf1
  go_wp2_with fail
  obtain ⟨w2, hw2⟩ : ∃ w2, w2 = w1.alloc (.cells #[.slice a1 us.length c1] 24) := ⟨_, rfl⟩
  have hb12 : Below w1.heap.size w1 w2 := by rw [hw2]; exact below_alloc _ _
  have hb02 := Below.then hb1 hb12
  have hcap : Cap w2 w1.heap.size a1 c1 us := by
    refine ⟨?_, hO1.lies.below hb12 (Nat.le_refl _), fun y h => (ay y (hin1 y h)).below hb02 (Nat.le_refl _), ?_⟩
    · rw [hw2, heap_cell (heap_alloc_new w1 _)]; rfl
    · rw [Hf1.out]; exact sortF_SS _
  have L2 : w1.heap.size < w2.heap.size := by rw [hw2]; simp
  rw [← hw2]
  clear hw2
  generalize w1.heap.size = Bx at *
  have hS := sorted_at a c xs w2 (hx.below hb02 (Nat.le_refl _)) (fun x h => (ax x h).below hb02 (Nat.le_refl _))
  refine hS.mono ?_
  rintro e w3 ⟨a3, c3, zs, rfl, hO3, hat3, hf3, hb3⟩
  have Hf3 := hideP hf3; clear hf3 hS
  have hb03 := Below.then hb02 hb3
  by_cases h0 : zs.length = 0
  · obtain rfl : zs = [] := List.eq_nil_of_length_eq_zero h0
    go_wp2_with fail
    refine (delete_none a3 c3 _ w3).mono ?_
    rintro e w4 ⟨rfl, rfl⟩
    go_wp2_with fail
    go_ret
    refine ⟨a3, c3, [], rfl, hO3.lower hb02.size, fun z h => by simp at h, ?_, hb03⟩
    rw [← minusF_eq, ← Hf3.out]; rfl
  · cases a3 with
    | none => exfalso; have := (hO3.void rfl).1; subst this; simp at h0
    | some ad =>
      obtain ⟨g, rfl, hg0, hg1, hrow⟩ := hO3.row ad rfl
      have hD := delete_at w2 w3 g c3 zs Bx a1 c1 us hcap hb3 hg0 hg1 hrow (fun z h => ⟨(hat3 z h).1, (hat3 z h).2.2.1 _ rfl⟩) hO3.room hO3.few
      have e1 := hideP (filter_map zs us)
      have e2 : Hid ((zs.filter (stays us)).map Fv.f = minusF (xs.map Fv.f) (ys.map Fv.f)) := by
        show _ = _
        rw [e1.out, Hf3.out, Hf1.out, minusF_eq]
      have e3 : ∀ z ∈ zs.filter (stays us), z ∈ zs := fun z h => (List.mem_filter.1 h).1
      have e4 : (zs.filter (stays us)).length ≤ zs.length := List.length_filter_le _ _
      generalize zs.filter (stays us) = L at *
      have E4 := hideP e4; clear e4 e1
      go_wp2_with fail
      refine hD.mono ?_
      rintro e w4 ⟨rfl, hrow4, hbut⟩
      go_wp2_with fail
      go_ret
      have hr := hO3.room; have hf := hO3.few; have e4 := E4.out
      refine ⟨some ⟨g, 0, none⟩, c3, L, rfl, ⟨by omega, hO3.most, by omega, (fun h => by cases h), fun ad ha => ?_⟩, fun z h => (hat3 z (e3 z h)).1.but ((hat3 z (e3 z h)).2.2.1 _ rfl) hbut, e2.out, hb03.trans (hbut.lower (Nat.le_trans hb02.size hg0) hb03.size)⟩
      cases ha
      exact ⟨g, rfl, Nat.le_trans hb02.size hg0, Nat.lt_of_lt_of_le hg1 hbut.size, hrow4⟩

/-- what is kept of the first k, in order -/
def foldM (l b : List F) (k : Nat) : List F := ((l.take k).filter fun x => !hasF b x).foldl ins []
theorem foldM_all (l b : List F) : foldM l b l.length = minusF l b := by
  unfold foldM
  rw [List.take_length]
  obtain ⟨h1, h2⟩ := foldl_ins (l.filter fun x => !hasF b x) [] List.Pairwise.nil
  refine h1.uniq (minusF_SS l b) fun x => ?_
  rw [h2, mem_minusF]
  simp [← hasF_iff b x]
theorem foldM_skip (l b : List F) (k : Nat) (h : k < l.length) (hb : hasF b l[k] = true) : foldM l b (k + 1) = foldM l b k := by
  unfold foldM
  rw [List.take_succ_eq_append_getElem h, List.filter_append]
  simp [hb]
theorem foldM_more (l b : List F) (k : Nat) (h : k < l.length) (hb : hasF b l[k] = false) : foldM l b (k + 1) = ins (foldM l b k) l[k] := by
  unfold foldM
  rw [List.take_succ_eq_append_getElem h, List.filter_append, List.foldl_append]
  simp [hb]

end Go.Proofs.YtdehimbfcilhpaaGreatDoor

/-
  Same: whether two lists are the same set.
-/
namespace Go.Proofs.YtdehimbfcilhpaaGreatDoor
open Go.RowKit Go.Sort

theorem same1F_at (x y : Fv) (w : World) (hx : Fv.At w x) (hy : Fv.At w y) : Calls Tryz.prog 44 #[x.val, y.val] w fun e w' => e = .returned (.bool (decide (cV x y = 0))) ∧ Grew w w' := by
  have hO := fun (W : World) (hg : Grew w W) => order_at x y W (hx.grew hg) (hy.grew hg)
  have hg2 : ∀ o o' : Obj, Grew w ((w.alloc o).alloc o') := fun o o' => ((Grew.refl w).allocs o).allocs o'
  show Calls _ _ _ _ fun e w' => e = .returned (.bool (decide (cF x.f y.f = 0))) ∧ Grew w w'
  generalize cF x.f y.f = r at *
  obtain ⟨x1, x2, x3, xa, xc, xk⟩ := x; obtain ⟨y1, y2, y3, ya, yc, yk⟩ := y
  go_enter Tryz.func44, Tryz.ntmps44
  go_wp2_with fail
  refine (hO _ (hg2 _ _)).mono ?_; rintro e w1 ⟨rfl, hg⟩
  go_wp2_with fail
  go_ret
  refine ⟨ret_bool ?_, (hg2 _ _).trans hg⟩
  rw [Bool.eq_iff_iff]; simp

set_option maxHeartbeats 2000000 in
theorem equalFunc_at (a a' : Option Addr) (c c' : Nat) (xs ys : List Fv) (w : World) (hx : Lies w a c xs) (hy : Lies w a' c' ys) (ax : ∀ x ∈ xs, Fv.At w x) (ay : ∀ y ∈ ys, Fv.At w y) :
    Calls Tryz.prog 43 #[.slice a xs.length c, .slice a' ys.length c', .func (.func 44) #[] #[]] w fun e w' => e = .returned (.bool (likeB (xs.map Fv.f) (ys.map Fv.f))) ∧ Grew w w' := by
  have eg : ∀ args w, (callFunc 44 args).run Tryz.prog w = .ok (.enter 44 args) w := enters_of Tryz.func44 (by kernel_rfl) rfl
  have hC := fun (p q : Fv) (W : World) (hp : Fv.At W p) (hq : Fv.At W q) => same1F_at p q W hp hq
  have b1 := hx.few; have b2 := hy.few
  by_cases hl : xs.length = ys.length
  rotate_left
  · have q0 : ((xs.length : Int) != (ys.length : Int)) = true := by simp; omega
    have hno : likeB (xs.map Fv.f) (ys.map Fv.f) = false := likeB_no fun h => hl (by have := congrArg List.length h; simpa using this)
    rw [hno]
    go_enter Tryz.func43, Tryz.ntmps43
    go_wp2_with fail
    go_ret
    exact ⟨rfl, Grew.refl _⟩
  · have q0 : ((xs.length : Int) != (ys.length : Int)) = false := by simp; omega
    have Hl := hideP hl; clear hl
    go_enter Tryz.func43, Tryz.ntmps43
    go_wp2_with fail
    go_loopw [7, 8, 9, 17] (fun _ _ _ v wr => ∃ k : Nat, v = .int .i64 (k : Int) ∧ k ≤ xs.length ∧ Hid (∀ j (h1 : j < xs.length) (h2 : j < ys.length), j < k → xs[j].f = ys[j].f) ∧ Grew w wr) (fun _ _ _ v _ => xs.length - (intOf v).toNat)
    case atStart => exact ⟨0, rfl, by omega, fun j _ _ h => absurd h (by omega), Grew.refl _⟩
    case round =>
      obtain ⟨k, rfl, hk, hev, hg⟩ := hrel
      by_cases hlt : k < xs.length
      · have q2 : (k : Int) < (xs.length : Int) := by omega
        have hlt' : k < ys.length := by have := Hl.out; omega
        have q3 : (k : Int) < (ys.length : Int) := by omega
        obtain ⟨P1, O1, rfl⟩ := hx.addr (Nat.lt_of_le_of_lt (Nat.zero_le _) hlt)
        obtain ⟨P2, O2, rfl⟩ := hy.addr (Nat.lt_of_le_of_lt (Nat.zero_le _) hlt')
        obtain ⟨a1, a2, a3, a4⟩ := (hx.below hg.below (Nat.le_refl _)).get k hlt
        obtain ⟨d1, d2, d3, d4⟩ := (hy.below hg.below (Nat.le_refl _)).get k hlt'
        have D1 := fun o : Obj => Lib.cell?_alloc_some o d1
        have D2 := fun o : Obj => Lib.cell?_alloc_some o d2
        have D3 := fun o : Obj => Lib.cell?_alloc_some o d3
        have D4 := fun o : Obj => Lib.cell?_alloc_some o d4
        have hn := fun (o o' : Obj) => hC (xs[k]'hlt) (ys[k]'hlt') ((wr.alloc o).alloc o') ((ax _ (List.getElem_mem hlt)).grew ((hg.allocs _).allocs _)) ((ay _ (List.getElem_mem hlt')).grew ((hg.allocs _).allocs _))
        have hev' : Hid (cV (xs[k]'hlt) (ys[k]'hlt') = 0 → ∀ j (h1 : j < xs.length) (h2 : j < ys.length), j < k + 1 → xs[j].f = ys[j].f) := fun h j h1 h2 hj => by
          by_cases e : j = k
          · subst e; exact (cF_zero _ _).1 h
          · exact hev.out j h1 h2 (by omega)
        have hno : Hid (cV (xs[k]'hlt) (ys[k]'hlt') ≠ 0 → likeB (xs.map Fv.f) (ys.map Fv.f) = false) := fun h => likeB_no fun he => h (by
          rw [cV, cF_zero]
          have h1 : (xs.map Fv.f)[k]'(by simpa using hlt) = (ys.map Fv.f)[k]'(by simpa using hlt') := by simp only [he]
          simpa using h1)
        generalize (xs[k]'hlt) = p at *
        generalize (ys[k]'hlt') = q at *
        clear hC ax ay d1 d2 d3 d4
        by_cases hr : cV p q = 0
        · have hev'' := hideP (hev'.out hr)
          simp only [hr, decide_true] at hn
          go_wp2_with fail
          refine (hn _ _).mono ?_; rintro e w1 ⟨rfl, hg1⟩
          go_wp2_with fail
          exact ⟨⟨k + 1, by simp, by omega, hev'', (hg.allocs _).allocs _ |>.trans hg1⟩, by simp [intOf]; omega⟩
        · have hno' := hideP (hno.out hr)
          simp only [hr, decide_false] at hn
          go_wp2_with fail
          refine (hn _ _).mono ?_; rintro e w1 ⟨rfl, hg1⟩
          go_wp2_with fail
          go_ret
          exact ⟨ret_bool hno'.out.symm, (hg.allocs _).allocs _ |>.trans hg1⟩
      · have q2 : ¬ (k : Int) < (xs.length : Int) := by omega
        have hyes : Hid (likeB (xs.map Fv.f) (ys.map Fv.f) = true) := (likeB_iff _ _).2 (List.ext_getElem (by simpa using Hl.out) fun j h1 h2 => by
          simp only [List.getElem_map]
          exact hev.out j (by simpa using h1) (by simpa using h2) (by simp at h1; omega))
        go_wp2_with fail
        go_ret
        exact ⟨ret_bool hyes.out.symm, hg⟩

theorem sameF_at (a a' : Option Addr) (c c' : Nat) (xs ys : List Fv) (w : World) (hx : Lies w a c xs) (hy : Lies w a' c' ys) (ax : ∀ x ∈ xs, Fv.At w x) (ay : ∀ y ∈ ys, Fv.At w y) :
    Calls Tryz.prog 23 #[.slice a xs.length c, .slice a' ys.length c'] w fun e w' => e = .returned (.bool (likeB (sortF (xs.map Fv.f)) (sortF (ys.map Fv.f)))) ∧ Below w.heap.size w w' := by
  go_enter Tryz.func23, Tryz.ntmps23
  go_wp2_with fail
  refine (ordered_at a c xs w hx ax).mono ?_
  rintro e w1 ⟨a1, c1, us, rfl, hO1, hin1, hf1, hb1⟩
  have Hf1 := hideP hf1; clear hf1
  go_wp2_with fail
  refine (ordered_at a' c' ys w1 (hy.below hb1 (Nat.le_refl _)) (fun y h => (ay y h).below hb1 (Nat.le_refl _))).mono ?_
  rintro e w2 ⟨a2, c2, vs, rfl, hO2, hin2, hf2, hb2⟩
  have Hf2 := hideP hf2; clear hf2
  have hb12 := Below.then hb1 hb2
  have hE := equalFunc_at a1 a2 c1 c2 us vs w2 (hO1.lies.below hb2 (Nat.le_refl _)) hO2.lies (fun y h => (ax y (hin1 y h)).below hb12 (Nat.le_refl _)) (fun y h => (ay y (hin2 y h)).below hb12 (Nat.le_refl _))
  rw [Hf1.out, Hf2.out] at hE
  go_wp2_with fail
  refine hE.mono ?_
  rintro e w3 ⟨rfl, hg3⟩
  go_wp2_with fail
  go_ret
  exact ⟨rfl, Below.then hb12 hg3.below⟩

end Go.Proofs.YtdehimbfcilhpaaGreatDoor
