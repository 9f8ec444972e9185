/-
  The reference's With and Sorted: a fact more, in order.
-/
import Derived.Test.YtdehimbfcilhpaaGreatDoorQSorted
namespace Go.Proofs.YtdehimbfcilhpaaGreatDoor
open Go.RowKit Go.Sort

theorem ownsRow_below {w w' : World} {base : Nat} {e : TypeId} {size : Nat} {v : Value} {n : Nat} {xs : List Value} (h : w.ownsRow base e size v n xs) (hb : Below w.heap.size w w') : w'.ownsRow base e size v n xs := by
  obtain ⟨h1, h2⟩ := h
  refine ⟨h1, ?_⟩
  rcases h2 with h2 | ⟨g, cap, cur, hv, hg, hh, r⟩
  · exact .inl h2
  · have hgs : g < w.heap.size := by
      rcases Nat.lt_or_ge g w.heap.size with h' | h'
      · exact h'
      · simp [h'] at hh
    exact .inr ⟨g, cap, cur, hv, hg, (hb.block g hgs).trans hh, r⟩
theorem ownsRow_empty (w : World) : (w.alloc (.cells #[] 36)).ownsRow w.heap.size 36 4 (.slice (some ⟨w.heap.size, 0, none⟩) 0 0) ([] : List Fv).length (fcells []) :=
  ⟨rfl, .inr ⟨w.heap.size, 0, #[], rfl, Nat.le_refl _, heap_alloc_new w _, Nat.le_refl _, Nat.zero_le _, rfl, rfl⟩⟩
theorem Lies.take {w : World} {a : Option Addr} {cap : Nat} {xs : List Fv} (h : Lies w a cap xs) (k : Nat) : Lies w a cap (xs.take k) :=
  ⟨Nat.le_trans (by rw [List.length_take]; omega) h.room, h.most, Nat.le_trans (by rw [List.length_take]; omega) h.few, fun ha => by obtain ⟨rfl, hc⟩ := h.void ha; exact ⟨by simp, hc⟩, fun ad ha j u hu => h.cells ad ha j u (by
    obtain ⟨i, c, hi, hc, rfl, hv⟩ := flat_spot fv 4 fv_len _ j u hu
    rw [List.length_take] at hi
    rw [fcells, flat_get fv 4 fv_len xs i c (by omega) hc, ← hv, List.getElem_take])⟩
theorem Lies.drop {w : World} {b o cap : Nat} {xs : List Fv} (h : Lies w (some ⟨b, o, none⟩) cap xs) (k : Nat) (hk : k ≤ xs.length) : Lies w (some ⟨b, o + k * 4, none⟩) (cap - k) (xs.drop k) := by
  have hr := h.room; have hm := h.most; have hf := h.few
  refine ⟨by rw [List.length_drop]; omega, by omega, by rw [List.length_drop]; omega, (fun ha => by cases ha), fun ad ha j u hu => ?_⟩
  cases ha
  obtain ⟨i, c, hi, hc, rfl, hv⟩ := flat_spot fv 4 fv_len _ j u hu
  rw [List.length_drop] at hi
  have := h.cells _ rfl ((k + i) * 4 + c) u (by rw [fcells, flat_get fv 4 fv_len xs (k + i) c (by omega) hc, ← hv, List.getElem_drop])
  rw [Addr.add_lit] at this ⊢
  rw [← this]
  congr 2; omega
theorem Lies.none_of (w : World) (a : Option Addr) (cap : Nat) (hm : cap ≤ maxLen) (h : a = none → cap = 0) : Lies w a cap [] :=
  ⟨Nat.zero_le _, hm, by simp, fun ha => ⟨rfl, h ha⟩, fun ad _ j u hu => by simp [fcells] at hu⟩

set_option maxRecDepth 100000 in
set_option maxHeartbeats 4000000 in
theorem with_at (a : Option Addr) (cap : Nat) (ys : List Fv) (x : Fv) (w : World) (base : Nat) (hO : OwF w base a cap ys) (ay : ∀ y ∈ ys, Fv.At w y) (hx : Fv.At w x) (hf : ys.length + 1 ≤ 1954687338211) (hbase : base ≤ w.heap.size) :
    Calls Tryz.prog 36 #[.slice a ys.length cap, x.val] w fun e w' => ∃ a' c' zs, e = .returned (.slice a' zs.length c') ∧ OwF w' base a' c' zs ∧ (∀ z ∈ zs, z ∈ ys ∨ z = x) ∧ zs.map Fv.f = ins (ys.map Fv.f) x.f ∧ zs.length ≤ ys.length + 1 ∧ Below w.heap.size w w' := by
  have mixed : Tryz.prog.follows .mixedOrders = true := by kernel_rfl
  have hC := fun (p : Fv) (W : World) (hp : Fv.At W p) (hq : Fv.At W x) => reforder_at p x W hp hq
  obtain ⟨x1, x2, x3, xa, xc, xk⟩ := x
  go_enter Tryz.func36, Tryz.ntmps36
  go_wp2_with fail
  obtain ⟨w2, hw2⟩ : ∃ w2, w2 = w.alloc (.cells #[str x1, str x2, str x3, .slice xa xk.length xc] 36) := ⟨_, rfl⟩
  have G2 : Grew w w2 := by rw [hw2]; exact (Grew.refl w).allocs _
  have H2 : w2.heap[w.heap.size]? = some (.cells #[str x1, str x2, str x3, .slice xa xk.length xc] 36) := by rw [hw2]; exact heap_alloc_new w _
  have S2 : w2.heap.size = w.heap.size + 1 := by rw [hw2]; simp
  rw [← hw2]
  clear hw2
  have b0 := heap_cell H2 0; have b1 := heap_cell H2 1; have b2 := heap_cell H2 2; have b3 := heap_cell H2 3
  simp at b0 b1 b2 b3
  go_loopw [5] (fun v wr => ∃ k : Nat, v = .int .i64 (k : Int) ∧ k ≤ ys.length ∧ Hid (∀ j (h1 : j < ys.length), j < k → cF ys[j].f (Fv.f ⟨x1, x2, x3, xa, xc, xk⟩) < 0) ∧ Grew w2 wr) (fun v _ => ys.length - (intOf v).toNat)
  case atStart => exact ⟨0, rfl, by omega, fun j _ h => absurd h (by omega), Grew.refl _⟩
  case round =>
    obtain ⟨k, rfl, hk, hev, hg⟩ := hrel
    have p0 := (hg.below.cell (p := ⟨w.heap.size, 0, none⟩) (cell_block b0)).trans b0
    have p1 := (hg.below.cell (p := ⟨w.heap.size, 1, none⟩) (cell_block b1)).trans b1
    have p2 := (hg.below.cell (p := ⟨w.heap.size, 2, none⟩) (cell_block b2)).trans b2
    have p3 := (hg.below.cell (p := ⟨w.heap.size, 3, none⟩) (cell_block b3)).trans b3
    have C0 := fun n os => cell_grown (cell_block p0) p0 n os
    have C1 := fun n os => cell_grown (cell_block p1) p1 n os
    have C2 := fun n os => cell_grown (cell_block p2) p2 n os
    have C3 := fun n os => cell_grown (cell_block p3) p3 n os
    clear b0 b1 b2 b3
    by_cases hlt : k < ys.length
    · have q2 : (k : Int) < (ys.length : Int) := by omega
      cases a with
      | none => exfalso; have := (hO.void rfl).1; subst this; simp at hlt
      | some ad =>
        obtain ⟨g, rfl, hg0, hg1, hrow⟩ := hO.row ad rfl
        have hGw := G2.trans hg
        have hrow' := hrow.below hGw.below hg1
        obtain ⟨a1, a2, a3, a4⟩ := hrow'.get k hlt
        have A1 := fun n os => cell_grown (cell_block a1) a1 n os
        have A2 := fun n os => cell_grown (cell_block a2) a2 n os
        have A3 := fun n os => cell_grown (cell_block a3) a3 n os
        have A4 := fun n os => cell_grown (cell_block a4) a4 n os
        have hn := fun n os => hC (ys[k]'hlt) (grow (wr.drewN n) os) ((ay _ (List.getElem_mem hlt)).grew (hGw.trans (Grew.grow _ _ _))) (hx.grew (hGw.trans (Grew.grow _ _ _)))
        have hev' : Hid (cF (ys[k]'hlt).f (Fv.f ⟨x1, x2, x3, xa, xc, xk⟩) < 0 → ∀ j (h1 : j < ys.length), j < k + 1 → cF ys[j].f (Fv.f ⟨x1, x2, x3, xa, xc, xk⟩) < 0) := fun h j h1 hj => by
          by_cases e : j = k
          · subst e; exact h
          · exact hev.out j h1 (by omega)
        have hins : Hid (¬ cF (ys[k]'hlt).f (Fv.f ⟨x1, x2, x3, xa, xc, xk⟩) < 0 → ins (ys.map Fv.f) (Fv.f ⟨x1, x2, x3, xa, xc, xk⟩) = if cF (ys[k]'hlt).f (Fv.f ⟨x1, x2, x3, xa, xc, xk⟩) = 0 then ys.map Fv.f else (ys.map Fv.f).take k ++ Fv.f ⟨x1, x2, x3, xa, xc, xk⟩ :: (ys.map Fv.f).drop k) := fun h => by
          have := ins_at (Fv.f ⟨x1, x2, x3, xa, xc, xk⟩) (ys.map Fv.f) k (by simp; omega) (fun j hj hjk => by rw [List.getElem_map]; exact hev.out j (by simpa using hj) hjk) (fun hk' => by rw [List.getElem_map]; exact h)
          rw [this, dif_pos (by simpa using hlt), List.getElem_map]
        have hAp := ay _ (List.getElem_mem hlt)
        have HC := hideP hC
        generalize (ys[k]'hlt) = p at *
        clear a1 a2 a3 a4 hC
        by_cases hr : cF p.f (Fv.f ⟨x1, x2, x3, xa, xc, xk⟩) < 0
        · have hev'' := hideP (hev'.out hr)
          generalize cF p.f (Fv.f ⟨x1, x2, x3, xa, xc, xk⟩) = r at hn hr
          go_wp2_with fail
          go_quiet_grown (first | (go_at_call 30; refine Calls.grown_of (hn _ _)))
          go_wp2_with fail
          exact ⟨⟨k + 1, by simp, by omega, hev'', hg.trans (Grew.grow _ _ _)⟩, by simp [intOf]; omega⟩
        · by_cases hr0 : cF p.f (Fv.f ⟨x1, x2, x3, xa, xc, xk⟩) = 0
          · have hi := hideP ((hins.out hr).trans (if_pos hr0))
            have Hr0 := hideP hr0
            simp only [hr0] at hn
            clear hr hr0 hins hev'
            go_wp2_with fail
            go_quiet_grown (first | (go_at_call 30; refine Calls.grown_of (hn _ _)))
            go_wp2_with fail
            have a1 := A1 nq osq; have a2 := A2 nq osq; have a3 := A3 nq osq; have a4 := A4 nq osq
            have c0 := C0 nq osq; have c1 := C1 nq osq; have c2 := C2 nq osq; have c3 := C3 nq osq
            have hG3 := hGw.trans (Grew.grow wr nq osq)
            clear hn A1 A2 A3 A4 C0 C1 C2 C3 hrow' p0 p1 p2 p3 hg hGw
            generalize grow (wr.drewN nq) osq = w3 at *
            have A1 := fun n os => cell_grown (cell_block a1) a1 n os
            have A2 := fun n os => cell_grown (cell_block a2) a2 n os
            have A3 := fun n os => cell_grown (cell_block a3) a3 n os
            have A4 := fun n os => cell_grown (cell_block a4) a4 n os
            have C0 := fun n os => cell_grown (cell_block c0) c0 n os
            have C1 := fun n os => cell_grown (cell_block c1) c1 n os
            have C2 := fun n os => cell_grown (cell_block c2) c2 n os
            have C3 := fun n os => cell_grown (cell_block c3) c3 n os
            have hn := fun n os => HC.out p (grow (w3.drewN n) os) (hAp.grew (hG3.trans (Grew.grow _ _ _))) (hx.grew (hG3.trans (Grew.grow _ _ _)))
            simp only [Hr0.out] at hn
            clear a1 a2 a3 a4 c0 c1 c2 c3
            go_quiet_grown (first | (go_at_call 30; refine Calls.grown_of (hn _ _)))
            go_wp2_with fail
            go_ret
            exact ⟨some ⟨g, 0, none⟩, cap, ys, rfl, hO.below (hG3.trans (Grew.grow _ _ _)).below, fun z hz => .inl hz, hi.out.symm, by omega, (hG3.trans (Grew.grow _ _ _)).below⟩
          · have hi := hideP ((hins.out hr).trans (if_neg hr0))
            have hr' : 0 < cF p.f (Fv.f ⟨x1, x2, x3, xa, xc, xk⟩) := by omega
            have Hrr := hideP (rfl : cF p.f (Fv.f ⟨x1, x2, x3, xa, xc, xk⟩) = cF p.f (Fv.f ⟨x1, x2, x3, xa, xc, xk⟩))
            generalize hrr : cF p.f (Fv.f ⟨x1, x2, x3, xa, xc, xk⟩) = r at hn hr hr0 hr'
            have Hr := hideP hrr
            clear hrr hins hev'
            go_wp2_with fail
            go_quiet_grown (first | (go_at_call 30; refine Calls.grown_of (hn _ _)))
            go_wp2_with fail
            have a1 := A1 nq osq; have a2 := A2 nq osq; have a3 := A3 nq osq; have a4 := A4 nq osq
            have c0 := C0 nq osq; have c1 := C1 nq osq; have c2 := C2 nq osq; have c3 := C3 nq osq
            have hG3 := hGw.trans (Grew.grow wr nq osq)
            clear hn A1 A2 A3 A4 C0 C1 C2 C3 hrow' p0 p1 p2 p3 hg hGw
            generalize grow (wr.drewN nq) osq = w3 at *
            have A1 := fun n os => cell_grown (cell_block a1) a1 n os
            have A2 := fun n os => cell_grown (cell_block a2) a2 n os
            have A3 := fun n os => cell_grown (cell_block a3) a3 n os
            have A4 := fun n os => cell_grown (cell_block a4) a4 n os
            have C0 := fun n os => cell_grown (cell_block c0) c0 n os
            have C1 := fun n os => cell_grown (cell_block c1) c1 n os
            have C2 := fun n os => cell_grown (cell_block c2) c2 n os
            have C3 := fun n os => cell_grown (cell_block c3) c3 n os
            have hn := fun n os => HC.out p (grow (w3.drewN n) os) (hAp.grew (hG3.trans (Grew.grow _ _ _))) (hx.grew (hG3.trans (Grew.grow _ _ _)))
            simp only [Hr.out] at hn
            clear a1 a2 a3 a4
            go_quiet_grown (first | (go_at_call 30; refine Calls.grown_of (hn _ _)))
            have e0 := C0 nq osq; have e1 := C1 nq osq; have e2 := C2 nq osq; have e3 := C3 nq osq
            have hG4 := hG3.trans (Grew.grow w3 nq osq)
            clear hn A1 A2 A3 A4 C0 C1 C2 C3 hG3 c0 c1 c2 c3
            generalize grow (w3.drewN nq) osq = w4 at *
            have hL4 : Lies w4 (some ⟨g, 0, none⟩) cap ys := hO.lies.below hG4.below (Nat.le_refl _)
            have hroom := hO.room
            have q5 : ¬ cap = k := by omega
            have q6 : (k : Int) ≤ (cap : Int) := by omega
            have q7 : (k : Int) ≤ (ys.length : Int) := by omega
            have hl1 : (ys.take k).length = k := by rw [List.length_take]; omega
            have hl2 : (ys.drop k).length = ys.length - k := by rw [List.length_drop]
            have hL5 : Lies (w4.alloc (.cells #[] 36)) (some ⟨g, 0, none⟩) cap (ys.take k) := (hL4.below (below_alloc _ _) (Nat.le_refl _)).take k
            have hown5 := ownsRow_empty w4
            have hb5 : w4.heap.size ≤ (w4.alloc (.cells #[] 36)).heap.size := (below_alloc _ _).size
            have hf5 : ([] : List Fv).length + (ys.take k).length ≤ 1954687338211 := by rw [hl1]; simp; omega
            go_wp2_with (at_builtin; refine wpList_append_fs _ rfl _ _ rfl w4.heap.size (.slice (some ⟨w4.heap.size, 0, none⟩) 0 0) [] (ys.take k) (some ⟨g, 0, none⟩) cap rfl hown5 (by rw [hl1]; rfl) hL5 hb5 hf5 ?ap)
            case ap =>
              intro v6 w6 ho6 hg6
              have B6 : Below w4.heap.size w4 w6 := (below_alloc w4 _).trans ((Below.refl _ _).grown hg6 hb5 (fun j hj => by cases hj; exact Nat.le_refl _))
              have r0 := (B6.cell (p := ⟨w.heap.size, 0, none⟩) (cell_block e0)).trans e0
              have r1 := (B6.cell (p := ⟨w.heap.size, 1, none⟩) (cell_block e1)).trans e1
              have r2 := (B6.cell (p := ⟨w.heap.size, 2, none⟩) (cell_block e2)).trans e2
              have r3 := (B6.cell (p := ⟨w.heap.size, 3, none⟩) (cell_block e3)).trans e3
              have ho7 : (w6.alloc (.cells #[str x1, str x2, str x3, .slice xa xk.length xc] 36)).ownsRow w4.heap.size 36 4 v6 (ys.take k).length (fcells (ys.take k)) := ownsRow_below (by rw [hl1]; exact ho6) (below_alloc _ _)
              have hL7 := lies_new w6 #[str x1, str x2, str x3, .slice xa xk.length xc] 36 [(⟨x1, x2, x3, xa, xc, xk⟩ : Fv)] rfl (by simp)
              have hb7 : w4.heap.size ≤ (w6.alloc (.cells #[str x1, str x2, str x3, .slice xa xk.length xc] 36)).heap.size := Nat.le_trans B6.size (below_alloc _ _).size
              have hf7 : (ys.take k).length + [(⟨x1, x2, x3, xa, xc, xk⟩ : Fv)].length ≤ 1954687338211 := by rw [hl1]; simp; omega
              clear e0 e1 e2 e3 hown5 hg6
              go_wp2_with (at_builtin; refine wpList_append_fs _ rfl _ _ rfl w4.heap.size v6 (ys.take k) [(⟨x1, x2, x3, xa, xc, xk⟩ : Fv)] (some ⟨w6.heap.size, 0, none⟩) 1 rfl ho7 rfl hL7 hb7 hf7 ?ap2)
              case ap2 =>
                intro v8 w8 ho8 hg8
                have B8 : Below w4.heap.size w4 w8 := (B6.trans ((below_alloc w6 _).mono B6.size)).trans ((Below.refl _ _).grown hg8 hb7 (fun j hj => by
                  rcases ho6.2 with ⟨h0, _⟩ | ⟨g', c', cur, hv, hgg, _⟩
                  · rw [h0] at hj; cases hj
                  · rw [hv] at hj; cases hj; exact hgg))
                have ho8' : w8.ownsRow w4.heap.size 36 4 v8 (ys.take k ++ [(⟨x1, x2, x3, xa, xc, xk⟩ : Fv)]).length (fcells (ys.take k ++ [(⟨x1, x2, x3, xa, xc, xk⟩ : Fv)])) := by simpa [hl1] using ho8
                have hl3 : (ys.take k ++ [(⟨x1, x2, x3, xa, xc, xk⟩ : Fv)]).length = k + 1 := by rw [List.length_append, hl1]; rfl
                have hf9 : (ys.take k ++ [(⟨x1, x2, x3, xa, xc, xk⟩ : Fv)]).length + (ys.drop k).length ≤ 1954687338211 := by rw [hl3, hl2]; omega
                have hL9 : Lies w8 (some ⟨g, k * 4, none⟩) (cap - k) (ys.drop k) := by
                  have := (hL4.below B8 (Nat.le_refl _)).drop k hk
                  rwa [Nat.zero_add] at this
                go_wp2_with (at_builtin; refine wpList_append_fs _ rfl _ _ rfl w4.heap.size v8 (ys.take k ++ [(⟨x1, x2, x3, xa, xc, xk⟩ : Fv)]) (ys.drop k) (some ⟨g, k * 4, none⟩) (cap - k) rfl ho8' (by rw [hl2]; rfl) hL9 B8.size hf9 ?ap3)
                case ap3 =>
                  intro v9 w9 ho9 hg9
                  have B9 : Below w4.heap.size w4 w9 := B8.trans ((Below.refl _ _).grown hg9 B8.size (fun j hj => by
                    rcases ho8'.2 with ⟨h0, _⟩ | ⟨g', c', cur, hv, hgg, _⟩
                    · rw [h0] at hj; cases hj
                    · rw [hv] at hj; cases hj; exact hgg))
                  have ho9' : w9.ownsRow w4.heap.size 36 4 v9 ((ys.take k ++ [(⟨x1, x2, x3, xa, xc, xk⟩ : Fv)]) ++ ys.drop k).length (fcells ((ys.take k ++ [(⟨x1, x2, x3, xa, xc, xk⟩ : Fv)]) ++ ys.drop k)) := by simpa [hl1, hl2] using ho9
                  have hl4 : ((ys.take k ++ [(⟨x1, x2, x3, xa, xc, xk⟩ : Fv)]) ++ ys.drop k).length = ys.length + 1 := by rw [List.length_append, hl3, hl2]; omega
                  obtain ⟨a9, c9, hv9, hO9⟩ := own_facts ho9' (by rw [hl4]; omega)
                  subst hv9
                  have e9 : ((ys.take k ++ [(⟨x1, x2, x3, xa, xc, xk⟩ : Fv)]) ++ ys.drop k).map Fv.f = ins (ys.map Fv.f) (Fv.f ⟨x1, x2, x3, xa, xc, xk⟩) := by
                    rw [hi.out, List.map_append, List.map_append, List.map_take, List.map_drop, List.append_assoc]; rfl
                  have m9 : ∀ z ∈ ((ys.take k ++ [(⟨x1, x2, x3, xa, xc, xk⟩ : Fv)]) ++ ys.drop k), z ∈ ys ∨ z = ⟨x1, x2, x3, xa, xc, xk⟩ := fun z hz => by
                    rcases List.mem_append.1 hz with hz | hz
                    · rcases List.mem_append.1 hz with hz | hz
                      · exact .inl (List.mem_of_mem_take hz)
                      · exact .inr (List.mem_singleton.1 hz)
                    · exact .inl (List.mem_of_mem_drop hz)
                  generalize ((ys.take k ++ [(⟨x1, x2, x3, xa, xc, xk⟩ : Fv)]) ++ ys.drop k) = zs at *
                  have E9 := hideP e9; have M9 := hideP m9; have L4 := hideP hl4
                  clear e9 m9 hl4 ho9 ho9' ho8 ho8' hg9 hg8
                  go_wp2_with fail
                  go_ret
                  exact ⟨a9, c9, zs, rfl, hO9.lower (Nat.le_trans hbase hG4.below.size), M9.out, E9.out, by rw [L4.out]; exact Nat.le_refl _, hG4.below.trans (B9.mono hG4.below.size)⟩
    · have q2 : ¬ (k : Int) < (ys.length : Int) := by omega
      have hi := hideP (ins_at (Fv.f ⟨x1, x2, x3, xa, xc, xk⟩) (ys.map Fv.f) k (by simp; omega) (fun j hj hjk => by rw [List.getElem_map]; exact hev.out j (by simpa using hj) hjk) (fun hk' => by simp at hk'; omega))
      rw [dif_neg (by simp; omega)] at hi
      clear hC hev
      go_wp2_with fail
      go_quiet_grown (fail)
      go_wp2_with fail
      have c0 := C0 nq osq; have c1 := C1 nq osq; have c2 := C2 nq osq; have c3 := C3 nq osq
      have hG3 := G2.trans (hg.trans (Grew.grow wr nq osq))
      clear C0 C1 C2 C3 p0 p1 p2 p3 hg
      generalize grow (wr.drewN nq) osq = w3 at *
      go_quiet_grown (fail)
      have e0 := cell_grown (cell_block c0) c0 nq osq; have e1 := cell_grown (cell_block c1) c1 nq osq; have e2 := cell_grown (cell_block c2) c2 nq osq; have e3 := cell_grown (cell_block c3) c3 nq osq
      have hG4 := hG3.trans (Grew.grow w3 nq osq)
      clear hG3 c0 c1 c2 c3
      generalize grow (w3.drewN nq) osq = w4 at *
      have hroom := hO.room
      have hL4 : Lies w4 a cap ys := hO.lies.below hG4.below (Nat.le_refl _)
      have hl1 : (ys.take k).length = k := by rw [List.length_take]; omega
      have hl2 : (ys.drop k).length = ys.length - k := by rw [List.length_drop]
      have hown5 := ownsRow_empty w4
      have hb5 : w4.heap.size ≤ (w4.alloc (.cells #[] 36)).heap.size := (below_alloc _ _).size
      have hf5 : ([] : List Fv).length + (ys.take k).length ≤ 1954687338211 := by rw [hl1]; simp; omega
      have hL5 : Lies (w4.alloc (.cells #[] 36)) a cap (ys.take k) := (hL4.below (below_alloc _ _) (Nat.le_refl _)).take k
      cases a with
      | none =>
        obtain ⟨rfl, rfl⟩ := hO.void rfl
        obtain rfl : k = 0 := by simpa using hk
        go_wp2_with (at_builtin; refine wpList_append_fs _ rfl _ _ rfl w4.heap.size (.slice (some ⟨w4.heap.size, 0, none⟩) 0 0) [] [] none 0 rfl hown5 rfl (Lies.nil _) hb5 (by simp) ?ap)
        case ap =>
          intro v6 w6 ho6 hg6
          have B6 : Below w4.heap.size w4 w6 := (below_alloc w4 _).trans ((Below.refl _ _).grown hg6 hb5 (fun j hj => by cases hj; exact Nat.le_refl _))
          have r0 := (B6.cell (p := ⟨w.heap.size, 0, none⟩) (cell_block e0)).trans e0
          have r1 := (B6.cell (p := ⟨w.heap.size, 1, none⟩) (cell_block e1)).trans e1
          have r2 := (B6.cell (p := ⟨w.heap.size, 2, none⟩) (cell_block e2)).trans e2
          have r3 := (B6.cell (p := ⟨w.heap.size, 3, none⟩) (cell_block e3)).trans e3
          have ho7 : (w6.alloc (.cells #[str x1, str x2, str x3, .slice xa xk.length xc] 36)).ownsRow w4.heap.size 36 4 v6 ([] : List Fv).length (fcells []) := ownsRow_below ho6 (below_alloc _ _)
          have hL7 := lies_new w6 #[str x1, str x2, str x3, .slice xa xk.length xc] 36 [(⟨x1, x2, x3, xa, xc, xk⟩ : Fv)] rfl (by simp)
          have hb7 : w4.heap.size ≤ (w6.alloc (.cells #[str x1, str x2, str x3, .slice xa xk.length xc] 36)).heap.size := Nat.le_trans B6.size (below_alloc _ _).size
          clear e0 e1 e2 e3 hown5 hg6
          go_wp2_with (at_builtin; refine wpList_append_fs _ rfl _ _ rfl w4.heap.size v6 [] [(⟨x1, x2, x3, xa, xc, xk⟩ : Fv)] (some ⟨w6.heap.size, 0, none⟩) 1 rfl ho7 rfl hL7 hb7 (by simp) ?ap2)
          case ap2 =>
            intro v8 w8 ho8 hg8
            have B8 : Below w4.heap.size w4 w8 := (B6.trans ((below_alloc w6 _).mono B6.size)).trans ((Below.refl _ _).grown hg8 hb7 (fun j hj => by
              rcases ho6.2 with ⟨h0, _⟩ | ⟨g', c', cur, hv, hgg, _⟩
              · rw [h0] at hj; cases hj
              · rw [hv] at hj; cases hj; exact hgg))
            have ho8' : w8.ownsRow w4.heap.size 36 4 v8 [(⟨x1, x2, x3, xa, xc, xk⟩ : Fv)].length (fcells [(⟨x1, x2, x3, xa, xc, xk⟩ : Fv)]) := ho8
            go_wp2_with (at_builtin; refine wpList_append_fs _ rfl _ _ rfl w4.heap.size v8 [(⟨x1, x2, x3, xa, xc, xk⟩ : Fv)] [] none 0 rfl ho8' rfl (Lies.nil _) B8.size (by simp) ?ap3)
            case ap3 =>
              intro v9 w9 ho9 hg9
              have B9 : Below w4.heap.size w4 w9 := B8.trans ((Below.refl _ _).grown hg9 B8.size (fun j hj => by
                rcases ho8'.2 with ⟨h0, _⟩ | ⟨g', c', cur, hv, hgg, _⟩
                · rw [h0] at hj; cases hj
                · rw [hv] at hj; cases hj; exact hgg))
              obtain ⟨a9, c9, hv9, hO9⟩ := own_facts (xs := [(⟨x1, x2, x3, xa, xc, xk⟩ : Fv)]) ho9 (by simp)
              subst hv9
              go_wp2_with fail
              go_ret
              exact ⟨a9, c9, [(⟨x1, x2, x3, xa, xc, xk⟩ : Fv)], rfl, hO9.lower (Nat.le_trans hbase hG4.below.size), fun z hz => .inr (List.mem_singleton.1 hz), hi.out.symm, by simp, hG4.below.trans (B9.mono hG4.below.size)⟩
      | some ad =>
        obtain ⟨g, rfl, hg0, hg1, hrow⟩ := hO.row ad rfl
        have q6 : (k : Int) ≤ (cap : Int) := by omega
        have q7 : (k : Int) ≤ (ys.length : Int) := by omega
        by_cases q5 : cap = k
        · have q5' := q5.symm
          clear q5
          subst q5'
          go_wp2_with (at_builtin; refine wpList_append_fs _ rfl _ _ rfl w4.heap.size (.slice (some ⟨w4.heap.size, 0, none⟩) 0 0) [] (ys.take k) (some ⟨g, 0, none⟩) k rfl hown5 (by rw [hl1]; rfl) hL5 hb5 hf5 ?ap)
          case ap =>
            intro v6 w6 ho6 hg6
            have B6 : Below w4.heap.size w4 w6 := (below_alloc w4 _).trans ((Below.refl _ _).grown hg6 hb5 (fun j hj => by cases hj; exact Nat.le_refl _))
            have r0 := (B6.cell (p := ⟨w.heap.size, 0, none⟩) (cell_block e0)).trans e0
            have r1 := (B6.cell (p := ⟨w.heap.size, 1, none⟩) (cell_block e1)).trans e1
            have r2 := (B6.cell (p := ⟨w.heap.size, 2, none⟩) (cell_block e2)).trans e2
            have r3 := (B6.cell (p := ⟨w.heap.size, 3, none⟩) (cell_block e3)).trans e3
            have ho7 : (w6.alloc (.cells #[str x1, str x2, str x3, .slice xa xk.length xc] 36)).ownsRow w4.heap.size 36 4 v6 (ys.take k).length (fcells (ys.take k)) := ownsRow_below (by rw [hl1]; exact ho6) (below_alloc _ _)
            have hL7 := lies_new w6 #[str x1, str x2, str x3, .slice xa xk.length xc] 36 [(⟨x1, x2, x3, xa, xc, xk⟩ : Fv)] rfl (by simp)
            have hb7 : w4.heap.size ≤ (w6.alloc (.cells #[str x1, str x2, str x3, .slice xa xk.length xc] 36)).heap.size := Nat.le_trans B6.size (below_alloc _ _).size
            have hf7 : (ys.take k).length + [(⟨x1, x2, x3, xa, xc, xk⟩ : Fv)].length ≤ 1954687338211 := by rw [hl1]; simp; omega
            clear e0 e1 e2 e3 hown5 hg6
            go_wp2_with (at_builtin; refine wpList_append_fs _ rfl _ _ rfl w4.heap.size v6 (ys.take k) [(⟨x1, x2, x3, xa, xc, xk⟩ : Fv)] (some ⟨w6.heap.size, 0, none⟩) 1 rfl ho7 rfl hL7 hb7 hf7 ?ap2)
            case ap2 =>
              intro v8 w8 ho8 hg8
              have B8 : Below w4.heap.size w4 w8 := (B6.trans ((below_alloc w6 _).mono B6.size)).trans ((Below.refl _ _).grown hg8 hb7 (fun j hj => by
                rcases ho6.2 with ⟨h0, _⟩ | ⟨g', c', cur, hv, hgg, _⟩
                · rw [h0] at hj; cases hj
                · rw [hv] at hj; cases hj; exact hgg))
              have ho8' : w8.ownsRow w4.heap.size 36 4 v8 (ys.take k ++ [(⟨x1, x2, x3, xa, xc, xk⟩ : Fv)]).length (fcells (ys.take k ++ [(⟨x1, x2, x3, xa, xc, xk⟩ : Fv)])) := by simpa [hl1] using ho8
              have hl3 : (ys.take k ++ [(⟨x1, x2, x3, xa, xc, xk⟩ : Fv)]).length = k + 1 := by rw [List.length_append, hl1]; rfl
              have hf9 : (ys.take k ++ [(⟨x1, x2, x3, xa, xc, xk⟩ : Fv)]).length + (ys.drop k).length ≤ 1954687338211 := by rw [hl3, hl2]; omega
              have hd : ys.drop k = [] := List.drop_eq_nil_of_le (by omega)
              have hL9 : Lies w8 (some ⟨g, 0, none⟩) 0 [] := Lies.none_of w8 _ 0 (Nat.zero_le _) (fun h => by cases h)
              have hf9' : (ys.take k ++ [(⟨x1, x2, x3, xa, xc, xk⟩ : Fv)]).length + ([] : List Fv).length ≤ 1954687338211 := by rw [hd] at hf9; exact hf9
              go_wp2_with (at_builtin; refine wpList_append_fs _ rfl _ _ rfl w4.heap.size v8 (ys.take k ++ [(⟨x1, x2, x3, xa, xc, xk⟩ : Fv)]) [] (some ⟨g, 0, none⟩) 0 rfl ho8' rfl hL9 B8.size hf9' ?ap3)
              case ap3 =>
                intro v9 w9 ho9 hg9
                have B9 : Below w4.heap.size w4 w9 := B8.trans ((Below.refl _ _).grown hg9 B8.size (fun j hj => by
                  rcases ho8'.2 with ⟨h0, _⟩ | ⟨g', c', cur, hv, hgg, _⟩
                  · rw [h0] at hj; cases hj
                  · rw [hv] at hj; cases hj; exact hgg))
                have ho9' : w9.ownsRow w4.heap.size 36 4 v9 ((ys.take k ++ [(⟨x1, x2, x3, xa, xc, xk⟩ : Fv)]) ++ ys.drop k).length (fcells ((ys.take k ++ [(⟨x1, x2, x3, xa, xc, xk⟩ : Fv)]) ++ ys.drop k)) := by rw [hd]; simpa [hl1] using ho9
                have hl4 : ((ys.take k ++ [(⟨x1, x2, x3, xa, xc, xk⟩ : Fv)]) ++ ys.drop k).length = ys.length + 1 := by rw [List.length_append, hl3, hl2]; omega
                obtain ⟨a9, c9, hv9, hO9⟩ := own_facts ho9' (by rw [hl4]; omega)
                subst hv9
                have e9 : ((ys.take k ++ [(⟨x1, x2, x3, xa, xc, xk⟩ : Fv)]) ++ ys.drop k).map Fv.f = ins (ys.map Fv.f) (Fv.f ⟨x1, x2, x3, xa, xc, xk⟩) := by
                  rw [hi.out, List.map_append, List.map_append, List.map_take, List.map_drop, List.append_assoc]; rfl
                have m9 : ∀ z ∈ ((ys.take k ++ [(⟨x1, x2, x3, xa, xc, xk⟩ : Fv)]) ++ ys.drop k), z ∈ ys ∨ z = ⟨x1, x2, x3, xa, xc, xk⟩ := fun z hz => by
                  rcases List.mem_append.1 hz with hz | hz
                  · rcases List.mem_append.1 hz with hz | hz
                    · exact .inl (List.mem_of_mem_take hz)
                    · exact .inr (List.mem_singleton.1 hz)
                  · exact .inl (List.mem_of_mem_drop hz)
                generalize ((ys.take k ++ [(⟨x1, x2, x3, xa, xc, xk⟩ : Fv)]) ++ ys.drop k) = zs at *
                have E9 := hideP e9; have M9 := hideP m9; have L4 := hideP hl4
                clear e9 m9 hl4 ho9 ho9' ho8 ho8' hg9 hg8
                go_wp2_with fail
                go_ret
                exact ⟨a9, c9, zs, rfl, hO9.lower (Nat.le_trans hbase hG4.below.size), M9.out, E9.out, by rw [L4.out]; exact Nat.le_refl _, hG4.below.trans (B9.mono hG4.below.size)⟩
        · go_wp2_with (at_builtin; refine wpList_append_fs _ rfl _ _ rfl w4.heap.size (.slice (some ⟨w4.heap.size, 0, none⟩) 0 0) [] (ys.take k) (some ⟨g, 0, none⟩) cap rfl hown5 (by rw [hl1]; rfl) hL5 hb5 hf5 ?ap)
          case ap =>
            intro v6 w6 ho6 hg6
            have B6 : Below w4.heap.size w4 w6 := (below_alloc w4 _).trans ((Below.refl _ _).grown hg6 hb5 (fun j hj => by cases hj; exact Nat.le_refl _))
            have r0 := (B6.cell (p := ⟨w.heap.size, 0, none⟩) (cell_block e0)).trans e0
            have r1 := (B6.cell (p := ⟨w.heap.size, 1, none⟩) (cell_block e1)).trans e1
            have r2 := (B6.cell (p := ⟨w.heap.size, 2, none⟩) (cell_block e2)).trans e2
            have r3 := (B6.cell (p := ⟨w.heap.size, 3, none⟩) (cell_block e3)).trans e3
            have ho7 : (w6.alloc (.cells #[str x1, str x2, str x3, .slice xa xk.length xc] 36)).ownsRow w4.heap.size 36 4 v6 (ys.take k).length (fcells (ys.take k)) := ownsRow_below (by rw [hl1]; exact ho6) (below_alloc _ _)
            have hL7 := lies_new w6 #[str x1, str x2, str x3, .slice xa xk.length xc] 36 [(⟨x1, x2, x3, xa, xc, xk⟩ : Fv)] rfl (by simp)
            have hb7 : w4.heap.size ≤ (w6.alloc (.cells #[str x1, str x2, str x3, .slice xa xk.length xc] 36)).heap.size := Nat.le_trans B6.size (below_alloc _ _).size
            have hf7 : (ys.take k).length + [(⟨x1, x2, x3, xa, xc, xk⟩ : Fv)].length ≤ 1954687338211 := by rw [hl1]; simp; omega
            clear e0 e1 e2 e3 hown5 hg6
            go_wp2_with (at_builtin; refine wpList_append_fs _ rfl _ _ rfl w4.heap.size v6 (ys.take k) [(⟨x1, x2, x3, xa, xc, xk⟩ : Fv)] (some ⟨w6.heap.size, 0, none⟩) 1 rfl ho7 rfl hL7 hb7 hf7 ?ap2)
            case ap2 =>
              intro v8 w8 ho8 hg8
              have B8 : Below w4.heap.size w4 w8 := (B6.trans ((below_alloc w6 _).mono B6.size)).trans ((Below.refl _ _).grown hg8 hb7 (fun j hj => by
                rcases ho6.2 with ⟨h0, _⟩ | ⟨g', c', cur, hv, hgg, _⟩
                · rw [h0] at hj; cases hj
                · rw [hv] at hj; cases hj; exact hgg))
              have ho8' : w8.ownsRow w4.heap.size 36 4 v8 (ys.take k ++ [(⟨x1, x2, x3, xa, xc, xk⟩ : Fv)]).length (fcells (ys.take k ++ [(⟨x1, x2, x3, xa, xc, xk⟩ : Fv)])) := by simpa [hl1] using ho8
              have hl3 : (ys.take k ++ [(⟨x1, x2, x3, xa, xc, xk⟩ : Fv)]).length = k + 1 := by rw [List.length_append, hl1]; rfl
              have hf9 : (ys.take k ++ [(⟨x1, x2, x3, xa, xc, xk⟩ : Fv)]).length + (ys.drop k).length ≤ 1954687338211 := by rw [hl3, hl2]; omega
              have hL9 : Lies w8 (some ⟨g, k * 4, none⟩) (cap - k) (ys.drop k) := by
                have := (hL4.below B8 (Nat.le_refl _)).drop k hk
                rwa [Nat.zero_add] at this
              go_wp2_with (at_builtin; refine wpList_append_fs _ rfl _ _ rfl w4.heap.size v8 (ys.take k ++ [(⟨x1, x2, x3, xa, xc, xk⟩ : Fv)]) (ys.drop k) (some ⟨g, k * 4, none⟩) (cap - k) rfl ho8' (by rw [hl2]; rfl) hL9 B8.size hf9 ?ap3)
              case ap3 =>
                intro v9 w9 ho9 hg9
                have B9 : Below w4.heap.size w4 w9 := B8.trans ((Below.refl _ _).grown hg9 B8.size (fun j hj => by
                  rcases ho8'.2 with ⟨h0, _⟩ | ⟨g', c', cur, hv, hgg, _⟩
                  · rw [h0] at hj; cases hj
                  · rw [hv] at hj; cases hj; exact hgg))
                have ho9' : w9.ownsRow w4.heap.size 36 4 v9 ((ys.take k ++ [(⟨x1, x2, x3, xa, xc, xk⟩ : Fv)]) ++ ys.drop k).length (fcells ((ys.take k ++ [(⟨x1, x2, x3, xa, xc, xk⟩ : Fv)]) ++ ys.drop k)) := by simpa [hl1, hl2] using ho9
                have hl4 : ((ys.take k ++ [(⟨x1, x2, x3, xa, xc, xk⟩ : Fv)]) ++ ys.drop k).length = ys.length + 1 := by rw [List.length_append, hl3, hl2]; omega
                obtain ⟨a9, c9, hv9, hO9⟩ := own_facts ho9' (by rw [hl4]; omega)
                subst hv9
                have e9 : ((ys.take k ++ [(⟨x1, x2, x3, xa, xc, xk⟩ : Fv)]) ++ ys.drop k).map Fv.f = ins (ys.map Fv.f) (Fv.f ⟨x1, x2, x3, xa, xc, xk⟩) := by
                  rw [hi.out, List.map_append, List.map_append, List.map_take, List.map_drop, List.append_assoc]; rfl
                have m9 : ∀ z ∈ ((ys.take k ++ [(⟨x1, x2, x3, xa, xc, xk⟩ : Fv)]) ++ ys.drop k), z ∈ ys ∨ z = ⟨x1, x2, x3, xa, xc, xk⟩ := fun z hz => by
                  rcases List.mem_append.1 hz with hz | hz
                  · rcases List.mem_append.1 hz with hz | hz
                    · exact .inl (List.mem_of_mem_take hz)
                    · exact .inr (List.mem_singleton.1 hz)
                  · exact .inl (List.mem_of_mem_drop hz)
                generalize ((ys.take k ++ [(⟨x1, x2, x3, xa, xc, xk⟩ : Fv)]) ++ ys.drop k) = zs at *
                have E9 := hideP e9; have M9 := hideP m9; have L4 := hideP hl4
                clear e9 m9 hl4 ho9 ho9' ho8 ho8' hg9 hg8
                go_wp2_with fail
                go_ret
                exact ⟨a9, c9, zs, rfl, hO9.lower (Nat.le_trans hbase hG4.below.size), M9.out, E9.out, by rw [L4.out]; exact Nat.le_refl _, hG4.below.trans (B9.mono hG4.below.size)⟩

end Go.Proofs.YtdehimbfcilhpaaGreatDoor
