/-
  Has and Same, the program's; Has, the reference's.
-/
import Derived.Test.YtdehimbfcilhpaaGreatDoorQSorted
import Derived.Shelf.SlicesQ.IndexFunc
namespace Go.Proofs.YtdehimbfcilhpaaGreatDoor
open Go.RowKit Go.Sort

theorem has1_at (x y : Fv) (B : Nat) (w : World) (hx : Fv.At w x) (hy : Fv.At w y) (hB : w.heap[B]? = some (.cells #[str x.at_, str x.by_, str x.pred, .slice x.a x.ks.length x.cap] 36)) :
    Calls Tryz.prog 46 #[y.val, .pointer (some ⟨B, 0, none⟩)] w fun e w' => e = .returned (.bool (decide (cF x.f y.f = 0))) ∧ Grew w w' := by
  have hO := fun (W : World) (hg : Grew w W) => order_at x y W (hx.grew hg) (hy.grew hg)
  have hg2 : ∀ o : Obj, Grew w (w.alloc o) := fun o => (Grew.refl w).allocs o
  have b0 := heap_cell hB 0; have b1 := heap_cell hB 1; have b2 := heap_cell hB 2; have b3 := heap_cell hB 3
  simp at b0 b1 b2 b3
  clear hB
  have c0 := fun o : Obj => Lib.cell?_alloc_some o b0
  have c1 := fun o : Obj => Lib.cell?_alloc_some o b1
  have c2 := fun o : Obj => Lib.cell?_alloc_some o b2
  have c3 := fun o : Obj => Lib.cell?_alloc_some o b3
  clear b0 b1 b2 b3
  generalize cF x.f y.f = r at *
  obtain ⟨x1, x2, x3, xa, xc, xk⟩ := x; obtain ⟨y1, y2, y3, ya, yc, yk⟩ := y
  simp only at c0 c1 c2 c3
  go_enter Tryz.func46, Tryz.ntmps46
  go_wp2_with fail
  refine (hO _ (hg2 _)).mono ?_; rintro e w1 ⟨rfl, hg⟩
  go_wp2_with fail
  go_ret
  refine ⟨ret_bool ?_, (hg2 _).trans hg⟩
  rw [Bool.eq_iff_iff]; simp

set_option maxHeartbeats 1000000 in
theorem hasF_nil (a : Option Addr) (c : Nat) (f : Value) (w : World) : Calls Tryz.prog 45 #[.slice a 0 c, f] w fun e w' => e = .returned (.bool false) ∧ w = w' := by
  go_enter Tryz.func45, Tryz.ntmps45
  go_wp2
  go_loopw [5, 8] (fun _ v wr => v = .int .i64 0 ∧ w = wr) (fun _ _ _ => 0)
  case atStart => exact ⟨rfl, rfl⟩
  case round =>
    obtain ⟨rfl, rfl⟩ := hrel
    go_wp2
    go_ret
    exact ⟨rfl, rfl⟩

theorem any_has (xs : List Fv) (x : Fv) : (xs.any fun y => decide (cF x.f y.f = 0)) = hasF (xs.map Fv.f) x.f := by
  unfold hasF; rw [List.any_map]; rfl

theorem containsF_at (a : Option Addr) (c : Nat) (xs : List Fv) (x : Fv) (B : Nat) (w : World) (hl : Lies w a c xs) (hxs : ∀ y ∈ xs, Fv.At w y) (hx : Fv.At w x) (hB : w.heap[B]? = some (.cells #[str x.at_, str x.by_, str x.pred, .slice x.a x.ks.length x.cap] 36)) :
    Calls Tryz.prog 45 #[.slice a xs.length c, .func (.func 46) #[] #[.pointer (some ⟨B, 0, none⟩)]] w fun e w' => e = .returned (.bool (hasF (xs.map Fv.f) x.f)) ∧ Below w.heap.size w w' := by
  have eg : ∀ args w, (callFunc 46 args).run Tryz.prog w = .ok (.enter 46 args) w := enters_of Tryz.func46 (by kernel_rfl) rfl
  haveI : Inhabited (In w) := ⟨noIn w⟩
  by_cases h0 : xs.length = 0
  · obtain rfl : xs = [] := List.eq_nil_of_length_eq_zero h0
    exact (hasF_nil a c _ w).mono fun _ _ ⟨h1, h2⟩ => ⟨by rw [h1, ← any_has]; rfl, by rw [h2]; exact Below.refl _ _⟩
  · obtain ⟨P, O, rfl⟩ := hl.addr (by omega)
    have hd : (allIn w xs hxs).length = xs.length := by rw [← List.length_map (f := fun x : In w => x.1), allIn_val]
    have hv : ∀ j (hj : j < xs.length), ((allIn w xs hxs)[j]!).1 = xs[j] := fun j hj => by
      rw [getElem!_pos (allIn w xs hxs) j (by omega)]
      have h1 : ((allIn w xs hxs).map (·.1))[j]'(by simp; omega) = xs[j] := by simp only [allIn_val]
      simpa using h1
    have hpos : 0 < xs.length := by omega
    have := AnyQ.slices_ContainsFunc Tryz.hasF 4 Tryz.isAgg36 Tryz.sizeOf36 (encIn w) (fun x => fv_len x.1) (fun y => decide (cF x.f y.1.f = 0)) 46 #[.pointer (some ⟨B, 0, none⟩)] eg P O xs.length c (allIn w xs hxs) w
      (fun W y hW => (has1_at x y.1 B W (hx.below hW (Nat.le_refl _)) (y.2.below hW (Nat.le_refl _)) ((hW.block B (heap_lt hB)).trans hB)).mono fun _ _ ⟨h1, h2⟩ => ⟨h1, hW.trans (h2.below.mono hW.size)⟩) (by omega) (by have := hl.few; omega)
      (cell_block (hl.get 0 hpos).1) (fun j hj i v hv' => by
        have hj' : j < xs.length := by omega
        have hi : i < 4 := by have := (List.getElem?_eq_some_iff.1 hv').1; rwa [fv_len] at this
        have hv2 : (fv ((allIn w xs hxs)[j]!).1)[i]? = some v := hv'
        rw [hv j hj'] at hv2
        have h2 := flat_get fv 4 fv_len xs j i hj' hi
        have h3 := hl.cells _ rfl (j * 4 + i) v (by rw [fcells, h2, hv2])
        rw [Addr.add_lit] at h3
        rw [← h3, Nat.add_assoc])
    refine this.mono fun e w' ⟨h1, h2⟩ => ⟨?_, h2⟩
    rw [h1, ← any_has, List.take_of_length_le (by omega)]
    congr 2
    have h3 : (xs.any fun y => decide (cF x.f y.f = 0)) = (((allIn w xs hxs).map (·.1)).any fun y => decide (cF x.f y.f = 0)) := by rw [allIn_val]
    rw [h3, List.any_map]; rfl

theorem has_at (a : Option Addr) (c : Nat) (xs : List Fv) (x : Fv) (w : World) (hl : Lies w a c xs) (hxs : ∀ y ∈ xs, Fv.At w y) (hx : Fv.At w x) :
    Calls Tryz.prog 25 #[.slice a xs.length c, x.val] w fun e w' => e = .returned (.bool (hasF (xs.map Fv.f) x.f)) ∧ Below w.heap.size w w' := by
  obtain ⟨x1, x2, x3, xa, xc, xk⟩ := x
  have hb := below_alloc w (.cells #[str x1, str x2, str x3, .slice xa xk.length xc] 36)
  have hC := containsF_at a c xs ⟨x1, x2, x3, xa, xc, xk⟩ w.heap.size (w.alloc (.cells #[str x1, str x2, str x3, .slice xa xk.length xc] 36)) (hl.below hb (Nat.le_refl _)) (fun y hy => (hxs y hy).below hb (Nat.le_refl _)) (hx.below hb (Nat.le_refl _)) (heap_alloc_new w _)
  generalize hasF (xs.map Fv.f) (Fv.f ⟨x1, x2, x3, xa, xc, xk⟩) = r at *
  go_enter Tryz.func25, Tryz.ntmps25
  go_wp2_with fail
  refine hC.mono ?_; rintro e w1 ⟨rfl, hb1⟩
  go_wp2_with fail
  go_ret
  exact ⟨rfl, Below.then hb hb1⟩

set_option maxHeartbeats 2000000 in
theorem refhas_at (a : Option Addr) (c : Nat) (xs : List Fv) (x : Fv) (w : World) (hl : Lies w a c xs) (hxs : ∀ y ∈ xs, Fv.At w y) (hx : Fv.At w x) :
    Calls Tryz.prog 12 #[.slice a xs.length c, x.val] w fun e w' => e = .returned (.bool (hasF (xs.map Fv.f) x.f)) ∧ Grew w w' := by
  have mixed : Tryz.prog.follows .mixedOrders = true := by kernel_rfl
  have hC := fun (p : Fv) (W : World) (hp : Fv.At W p) (hq : Fv.At W x) => reforder_at p x W hp hq
  have few := hl.few
  have hyes : Hid (∀ k (h : k < xs.length), cF xs[k].f x.f = 0 → hasF (xs.map Fv.f) x.f = true) := fun k h h' => (hasF_iff _ _).2 (by rw [← (cF_zero _ _).1 h']; exact List.mem_map_of_mem (List.getElem_mem h))
  have hno : Hid ((∀ k (h : k < xs.length), cF xs[k].f x.f ≠ 0) → hasF (xs.map Fv.f) x.f = false) := fun h => by
    rw [Bool.eq_false_iff]; intro h'
    obtain ⟨y, hy, he⟩ := List.mem_map.1 ((hasF_iff _ _).1 h')
    obtain ⟨k, hk, rfl⟩ := List.getElem_of_mem hy
    exact h k hk (by rw [he]; exact cF_self _)
  generalize hasF (xs.map Fv.f) x.f = R at *
  obtain ⟨x1, x2, x3, xa, xc, xk⟩ := x
  go_enter Tryz.func12, Tryz.ntmps12
  go_wp2_with fail
  obtain ⟨w2, hw2⟩ : ∃ w2, w2 = w.alloc (.cells #[str x1, str x2, str x3, .slice xa xk.length xc] 36) := ⟨_, rfl⟩
  have G2 : Grew w w2 := by rw [hw2]; exact (Grew.refl w).allocs _
  have H2 : w2.heap[w.heap.size]? = some (.cells #[str x1, str x2, str x3, .slice xa xk.length xc] 36) := by rw [hw2]; exact heap_alloc_new w _
  rw [← hw2]
  clear hw2
  have b0 := heap_cell H2 0; have b1 := heap_cell H2 1; have b2 := heap_cell H2 2; have b3 := heap_cell H2 3
  simp at b0 b1 b2 b3
  go_loopw [5] (fun v wr => ∃ k : Nat, v = .int .i64 (k : Int) ∧ k ≤ xs.length ∧ Hid (∀ j (h1 : j < xs.length), j < k → cF xs[j].f (Fv.f ⟨x1, x2, x3, xa, xc, xk⟩) ≠ 0) ∧ Grew w2 wr) (fun v _ => xs.length - (intOf v).toNat)
  case atStart => exact ⟨0, rfl, by omega, fun j _ h => absurd h (by omega), Grew.refl _⟩
  case round =>
    obtain ⟨k, rfl, hk, hev, hg⟩ := hrel
    by_cases hlt : k < xs.length
    · have q2 : (k : Int) < (xs.length : Int) := by omega
      obtain ⟨P, O, rfl⟩ := hl.addr (Nat.lt_of_le_of_lt (Nat.zero_le _) hlt)
      have hGw := G2.trans hg
      obtain ⟨a1, a2, a3, a4⟩ := (hl.below hGw.below (Nat.le_refl _)).get k hlt
      have hn := fun n os => hC (xs[k]'hlt) (grow (wr.drewN n) os) ((hxs _ (List.getElem_mem hlt)).grew (hGw.trans (Grew.grow _ _ _))) (hx.grew (hGw.trans (Grew.grow _ _ _)))
      have hy := hyes.out k hlt
      have hev' : Hid (cF (xs[k]'hlt).f (Fv.f ⟨x1, x2, x3, xa, xc, xk⟩) ≠ 0 → ∀ j (h1 : j < xs.length), j < k + 1 → cF xs[j].f (Fv.f ⟨x1, x2, x3, xa, xc, xk⟩) ≠ 0) := fun h j h1 hj => by
        by_cases e : j = k
        · subst e; exact h
        · exact hev.out j h1 (by omega)
      generalize (xs[k]'hlt) = p at *
      have Hy := hideP hy; clear hy
      have A1 := fun n os => cell_grown (cell_block a1) a1 n os
      have A2 := fun n os => cell_grown (cell_block a2) a2 n os
      have A3 := fun n os => cell_grown (cell_block a3) a3 n os
      have A4 := fun n os => cell_grown (cell_block a4) a4 n os
      have p0 := (hg.below.cell (p := ⟨w.heap.size, 0, none⟩) (cell_block b0)).trans b0
      have p1 := (hg.below.cell (p := ⟨w.heap.size, 1, none⟩) (cell_block b1)).trans b1
      have p2 := (hg.below.cell (p := ⟨w.heap.size, 2, none⟩) (cell_block b2)).trans b2
      have p3 := (hg.below.cell (p := ⟨w.heap.size, 3, none⟩) (cell_block b3)).trans b3
      have C0 := fun n os => cell_grown (cell_block p0) p0 n os
      have C1 := fun n os => cell_grown (cell_block p1) p1 n os
      have C2 := fun n os => cell_grown (cell_block p2) p2 n os
      have C3 := fun n os => cell_grown (cell_block p3) p3 n os
      clear a1 a2 a3 a4 b0 b1 b2 b3 p0 p1 p2 p3 hC
      by_cases hr : cF p.f (Fv.f ⟨x1, x2, x3, xa, xc, xk⟩) = 0
      · have HR := hideP (Hy.out hr)
        simp only [hr] at hn
        clear hr
        go_wp2_with fail
        go_quiet_grown (first | (go_at_call 30; refine Calls.grown_of (hn _ _)))
        go_wp2_with fail
        go_ret
        exact ⟨ret_bool HR.out.symm, hGw.trans (Grew.grow _ _ _)⟩
      · have hev'' := hideP (hev'.out hr)
        generalize cF p.f (Fv.f ⟨x1, x2, x3, xa, xc, xk⟩) = r at hn hr
        go_wp2_with fail
        go_quiet_grown (first | (go_at_call 30; refine Calls.grown_of (hn _ _)))
        go_wp2_with fail
        exact ⟨⟨k + 1, by simp, by omega, hev'', hg.trans (Grew.grow _ _ _)⟩, by simp [intOf]; omega⟩
    · have q2 : ¬ (k : Int) < (xs.length : Int) := by omega
      have HR := hideP (hno.out fun j h => hev.out j h (by omega))
      go_wp2_with fail
      go_ret
      exact ⟨ret_bool HR.out.symm, G2.trans hg⟩

end Go.Proofs.YtdehimbfcilhpaaGreatDoor
