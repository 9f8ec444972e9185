/-
  What the reference's reader does: terms.
-/
import Derived.Test.YtghhdbkgibpebaaRRd2
import Derived.Test.YtghhdbkgibpebaaRd4
import Derived.Test.YtghhdbkgibpebaaRt1
namespace Go.Proofs.Ytghhdbkgibpebaa
open Go.RowKit Go.Sort

theorem mark_of (b : Bool) (x e : Int) (g : Bool) : mark b (stOf x e g) = stOf x e (g || b) := by unfold stOf; split <;> simp [mark]
theorem got_err2 {α : Type} {p : Pr α} {st : St} {x er : Int} {g : Bool} (h : stp p noF st = stOf x er g) (he : er ≠ 0) (v : α) : ¬ Got p st v := fun hv => by
  obtain ⟨y, g', j, rfl, hj⟩ := hv
  rw [stp_ok hj] at h; unfold stOf at h; rw [if_neg he] at h; cases h

set_option maxRecDepth 100000 in
set_option maxHeartbeats 4000000 in
theorem rterm_r (R : Nat) (a : Option Addr) (c : Nat) (l : List UInt8) (st : St) (w : World) (h : Rd 73 w R a c l st) (hp : Pos l st) :
    Calls Try.prog 90 #[ptr R] w fun e w' => ∃ t, e = .returned (tval t) ∧ (∀ v, Got (pTerm l) st v → t = v.t) ∧ Rd 73 w' R a c l (stp (pTerm l) Rt.odd st) ∧ But R w w' := by
  have hK := fun W (h : Rd 73 W R a c l st) => rkind_r 2 R a c l st W h hp
  have hC := fun W st (h : Rd 73 W R a c l st) (hp : Pos l st) => rvalue_r R a c l st W h hp
  have hT := fun W st (h : Rd 73 W R a c l st) => rtext_r R a c l st W h
  have hlt := h.lt
  have hp1 : Pos l (stp (pKind l 2) noF st) := pos_kind hp
  have B0 := below_alloc w (.cells #[.string .empty, .bool false, .int .i64 0, .string .empty] 51)
  have H0 := heap_alloc_new w (.cells #[.string .empty, .bool false, .int .i64 0, .string .empty] 51)
  have R0 := h.below B0
  have iN : (Try.prog.info? 51).map (·.size) = some 4 := by kernel_rfl
  go_enter Try.func90, Try.ntmps90
  go_wp2_with fail
  refine (hK _ R0).mono ?_; rintro e w1 ⟨s, rfl, ⟨hs1, hs2, hs3⟩, R1, b1⟩
  have H1 := b1.heap (by omega) H0
  have B1 : But R w w1 := (But.of_below B0).trans b1
  have Hs2 := hideP hs2; have Hs3 := hideP hs3
  have l1 : w.heap.size < w1.heap.size := heap_lt H1
  clear hK B0 H0 R0 b1 hs2 hs3 h
  generalize hS : w.heap.size = S at *
  have HS := hideP hS; clear hS
  obtain ⟨x1, er, g1, Q1, q1⟩ := R1.obj
  have d2 : w1.cell? ⟨R, 2, none⟩ = some (.int .i64 er) := by rw [heap_cell Q1]; rfl
  have gT : ∀ w0 w' : World, But R w w0 → But S w0 w' → But R w w' := fun _ _ x y => x.fresh y (by rw [HS.out]; exact Nat.le_refl _)
  by_cases h0 : s = 0
  · subst h0
    have e0 : ∀ v, Got (pKind l 2) st v → v = 0 := fun v hv => (Hs2.out v hv).symm
    have Hg : Hid (∀ v, Got (pTerm l) st v → t0 = v.t) := fun v hv => by rw [got_term0 e0 hv]; rfl
    have Hf : Hid (stp (pTerm l) Rt.odd st = stp (pKind l 2) noF st) := st_term0 Rt.odd rfl e0
    clear hC hT Hs2 e0 hs1 q1
    by_cases he : er = 0
    · subst he
      go_wp2_with (refine wpList_store_all rfl 51 _ _ rfl S 4 _ 51 (tv t0) rfl rfl H1 rfl rfl iN rfl ?_; intro w5 H5 B5)
      refine bodyPost_ret (results_cell (b := S) rfl rfl H5 Try.underlying51 rfl (by kernel_rfl)) rfl ⟨t0, rfl, Hg.out, ?_, gT _ _ B1 B5⟩
      rw [Hf.out]; exact R1.but B5 (by omega)
    · have hq : (er != 0) = true := by simpa using he
      go_wp2_with (refine wpList_store_all rfl 51 _ _ rfl S 4 _ 51 (tv t0) rfl rfl H1 rfl rfl iN rfl ?_; intro w5 H5 B5)
      refine bodyPost_ret (results_cell (b := S) rfl rfl H5 Try.underlying51 rfl (by kernel_rfl)) rfl ⟨t0, rfl, Hg.out, ?_, gT _ _ B1 B5⟩
      rw [Hf.out]; exact R1.but B5 (by omega)
  have he : er = 0 := Classical.byContradiction fun he => h0 (Hs3.out (fun v => got_err2 q1 he v))
  subst he
  clear q1 Hs3
  have hF : ∀ (X Y : World) (o : Obj), But X.heap.size (X.alloc o) Y → Below X.heap.size X Y := fun X Y o d => (below_alloc X o).trans (d.lower (Nat.le_refl _) (by simp))
  by_cases h1 : s = 1
  · subst h1
    clear h0
    have e0 : ∀ v, Got (pKind l 2) st v → v = 1 := fun v hv => (Hs2.out v hv).symm
    go_wp2_with fail
    refine (hT _ _ R1).mono ?_; rintro e w2 ⟨n, rfl, hn, R2, b2⟩
    have H2 := b2.heap (by omega) H1
    have B2 := B1.trans b2
    have Hg : Hid (∀ v, Got (pTerm l) st v → (⟨n, k0⟩ : Tm) = v.t) := fun v hv => by
      obtain ⟨s, hs, rfl⟩ := got_term1 e0 hv
      rw [hn s hs]; rfl
    have Hf : Hid (stp (pTerm l) Rt.odd st = mark (!fitsB n) (stp (pText l) noF (stp (pKind l 2) noF st))) := by
      show _ = _
      rw [st_term1 Rt.odd e0, stp_mark (!fitsB n) (fun v hv => by rw [hn v hv]; rfl), stp_b]
    have HP := hideP (pos_text l (stp (pKind l 2) noF st))
    have hX := fun W => text_at n W
    clear hC hT Hs2 e0 hs1 hn H1 R1 B1 hp1 Q1 d2
    generalize stp (pText l) noF (stp (pKind l 2) noF st) = ST at *
    generalize fitsB n = fb at *
    have l2 : R < w2.heap.size ∧ S < w2.heap.size := ⟨by have := b2.size; omega, heap_lt H2⟩
    go_upto_region 6 with (refine wpList_store_all rfl 51 _ _ rfl w2.heap.size 4 _ 51 (tv ⟨n, k0⟩) rfl rfl (heap_alloc_new w2 _) rfl rfl iN rfl ?_; intro w3 V3 d3; have c3 := hF w2 w3 _ d3)
    generalize hM : w2.heap.size = M at *
    have R3 := R2.below (by rw [hM]; exact c3)
    have H3 := below_heap (by rw [hM]; exact c3) H2
    have B3 : But R w w3 := B2.below (by rw [hM]; exact c3)
    obtain ⟨x4, e4, m4, Q4, q4⟩ := R3.obj
    clear R2 H2 B2 b2 d3 c3
    have d3' : w3.cell? ⟨R, 3, none⟩ = some (.bool m4) := by rw [heap_cell Q4]; rfl
    have f0 : w3.cell? ⟨M, 0, none⟩ = some (str n) := by rw [heap_cell V3]; rfl
    cases m4
    · go_wp2_with fail
      refine (hX _).mono ?_; rintro e w4 ⟨rfl, rfl⟩
      go_wp2_with (first
        | (refine wpList_store_cel rfl 4 _ _ rfl R 3 4 73 (.bool (!fb)) #[.slice a l.length c, .int .i64 x4, .int .i64 e4, .bool (!fb)] rfl rfl Q4 rfl (by decide) (by kernel_rfl) rfl rfl ?_; intro w6 Q6 B6; have V6 := B6.heap (by omega) V3; have H6 := B6.heap (by omega) H3; clear V3 H3)
        | (refine wpList_load_all rfl 51 _ rfl M 4 51 (tv ⟨n, k0⟩) _ rfl V6 rfl Try.underlying51 rfl iN ?_)
        | (refine wpList_store_all rfl 51 _ _ rfl S 4 _ 51 (tv ⟨n, k0⟩) rfl rfl H6 rfl rfl iN rfl ?_; intro w5 H5 B5))
      refine bodyPost_ret (results_cell (b := S) rfl rfl H5 Try.underlying51 rfl (by kernel_rfl)) rfl ⟨⟨n, k0⟩, rfl, Hg.out, ?_, gT _ _ (B3.trans B6) B5⟩
      rw [Hf.out]
      have hm := R3.set B6 (st' := mark (!fb) ST) x4 e4 (!fb) Q6 (by rw [q4, mark_of]; rfl) (rng_of (pos_mark HP.out) R3.len)
      exact hm.but B5 (by omega)
    · go_wp2_with (first
        | (refine wpList_store_cel rfl 4 _ _ rfl R 3 4 73 (.bool true) #[.slice a l.length c, .int .i64 x4, .int .i64 e4, .bool true] rfl rfl Q4 rfl (by decide) (by kernel_rfl) rfl rfl ?_; intro w6 Q6 B6; have V6 := B6.heap (by omega) V3; have H6 := B6.heap (by omega) H3; clear V3 H3)
        | (refine wpList_load_all rfl 51 _ rfl M 4 51 (tv ⟨n, k0⟩) _ rfl V6 rfl Try.underlying51 rfl iN ?_)
        | (refine wpList_store_all rfl 51 _ _ rfl S 4 _ 51 (tv ⟨n, k0⟩) rfl rfl H6 rfl rfl iN rfl ?_; intro w5 H5 B5))
      refine bodyPost_ret (results_cell (b := S) rfl rfl H5 Try.underlying51 rfl (by kernel_rfl)) rfl ⟨⟨n, k0⟩, rfl, Hg.out, ?_, gT _ _ (B3.trans B6) B5⟩
      rw [Hf.out]
      have hm := R3.set B6 (st' := mark (!fb) ST) x4 e4 true Q6 (by rw [q4, mark_of]; rfl) (rng_of (pos_mark HP.out) R3.len)
      exact hm.but B5 (by omega)
  · obtain rfl : s = 2 := by omega
    clear h0 h1
    have e0 : ∀ v, Got (pKind l 2) st v → v = 2 := fun v hv => (Hs2.out v hv).symm
    go_wp2_with fail
    refine (hC _ _ R1 hp1).mono ?_; rintro e w2 ⟨n, rfl, hn, R2, b2⟩
    have H2 := b2.heap (by omega) H1
    have B2 := B1.trans b2
    have Hg : Hid (∀ v, Got (pTerm l) st v → (⟨[], n⟩ : Tm) = v.t) := fun v hv => by
      obtain ⟨s, hs, rfl⟩ := got_term2 e0 hv
      rw [hn s hs]; rfl
    have Hf : Hid (stp (pTerm l) Rt.odd st = mark (!goodB n) (stp (pConst l) noF (stp (pKind l 2) noF st))) := by
      show _ = _
      rw [st_term2 Rt.odd e0, stp_mark (!goodB n) (fun v hv => by rw [hn v hv]; rfl), stp_b]
    have HP := hideP (pos_snd (f := noF) (snd_const l) hp1)
    have hX := fun W => refgood_at n W
    clear hC hT Hs2 e0 hs1 hn H1 R1 B1 hp1 Q1 d2
    generalize stp (pConst l) noF (stp (pKind l 2) noF st) = ST at *
    generalize goodB n = fb at *
    have l2 : R < w2.heap.size ∧ S < w2.heap.size := ⟨by have := b2.size; omega, heap_lt H2⟩
    go_upto_region 9 with (refine wpList_store_all rfl 51 _ _ rfl w2.heap.size 4 _ 51 (tv ⟨[], n⟩) rfl rfl (heap_alloc_new w2 _) rfl rfl iN rfl ?_; intro w3 V3 d3; have c3 := hF w2 w3 _ d3)
    generalize hM : w2.heap.size = M at *
    have R3 := R2.below (by rw [hM]; exact c3)
    have H3 := below_heap (by rw [hM]; exact c3) H2
    have B3 : But R w w3 := B2.below (by rw [hM]; exact c3)
    obtain ⟨x4, e4, m4, Q4, q4⟩ := R3.obj
    clear R2 H2 B2 b2 d3 c3
    have d3' : w3.cell? ⟨R, 3, none⟩ = some (.bool m4) := by rw [heap_cell Q4]; rfl
    have f1 : w3.cell? ⟨M, 1, none⟩ = some (.bool n.num) := by rw [heap_cell V3]; rfl
    have f2 : w3.cell? ⟨M, 2, none⟩ = some (.int .i64 n.n) := by rw [heap_cell V3]; rfl
    have f3 : w3.cell? ⟨M, 3, none⟩ = some (str n.s) := by rw [heap_cell V3]; rfl
    cases m4
    · go_wp2_with fail
      refine (hX _).mono ?_; rintro e w4 ⟨rfl, g4⟩
      have V4 := below_heap g4.below V3
      have H4 := below_heap g4.below H3
      have R4 := R3.below g4.below
      have B4 := B3.below g4.below
      have Q5 := below_heap g4.below Q4
      clear V3 H3 R3 B3 Q4 d3' f1 f2 f3 g4
      go_wp2_with (first
        | (refine wpList_store_cel rfl 4 _ _ rfl R 3 4 73 (.bool (!fb)) #[.slice a l.length c, .int .i64 x4, .int .i64 e4, .bool (!fb)] rfl rfl Q5 rfl (by decide) (by kernel_rfl) rfl rfl ?_; intro w6 Q6 B6; have V6 := B6.heap (by omega) V4; have H6 := B6.heap (by omega) H4; clear V4 H4)
        | (refine wpList_load_all rfl 51 _ rfl M 4 51 (tv ⟨[], n⟩) _ rfl V6 rfl Try.underlying51 rfl iN ?_)
        | (refine wpList_store_all rfl 51 _ _ rfl S 4 _ 51 (tv ⟨[], n⟩) rfl rfl H6 rfl rfl iN rfl ?_; intro w5 H5 B5))
      refine bodyPost_ret (results_cell (b := S) rfl rfl H5 Try.underlying51 rfl (by kernel_rfl)) rfl ⟨⟨[], n⟩, rfl, Hg.out, ?_, gT _ _ (B4.trans B6) B5⟩
      rw [Hf.out]
      have hm := R4.set B6 (st' := mark (!fb) ST) x4 e4 (!fb) Q6 (by rw [q4, mark_of]; rfl) (rng_of (pos_mark HP.out) R4.len)
      exact hm.but B5 (by omega)
    · go_wp2_with (first
        | (refine wpList_store_cel rfl 4 _ _ rfl R 3 4 73 (.bool true) #[.slice a l.length c, .int .i64 x4, .int .i64 e4, .bool true] rfl rfl Q4 rfl (by decide) (by kernel_rfl) rfl rfl ?_; intro w6 Q6 B6; have V6 := B6.heap (by omega) V3; have H6 := B6.heap (by omega) H3; clear V3 H3)
        | (refine wpList_load_all rfl 51 _ rfl M 4 51 (tv ⟨[], n⟩) _ rfl V6 rfl Try.underlying51 rfl iN ?_)
        | (refine wpList_store_all rfl 51 _ _ rfl S 4 _ 51 (tv ⟨[], n⟩) rfl rfl H6 rfl rfl iN rfl ?_; intro w5 H5 B5))
      refine bodyPost_ret (results_cell (b := S) rfl rfl H5 Try.underlying51 rfl (by kernel_rfl)) rfl ⟨⟨[], n⟩, rfl, Hg.out, ?_, gT _ _ (B3.trans B6) B5⟩
      rw [Hf.out]
      have hm := R3.set B6 (st' := mark (!fb) ST) x4 e4 true Q6 (by rw [q4, mark_of]; rfl) (rng_of (pos_mark HP.out) R3.len)
      exact hm.but B5 (by omega)
end Go.Proofs.Ytghhdbkgibpebaa
