/-
  What the reference's reader does: kinds, constants.
-/
import Derived.Test.YtghhdbkgibpebaaRRd
namespace Go.Proofs.Ytghhdbkgibpebaa
open Go.RowKit Go.Sort

set_option maxRecDepth 100000 in
set_option maxHeartbeats 2000000 in
theorem rkind_r (m : Nat) (R : Nat) (a : Option Addr) (c : Nat) (l : List UInt8) (st : St) (w : World) (h : Rd 73 w R a c l st) (hp : Pos l st) :
    Calls Try.prog 70 #[ptr R, .int .i64 (m : Int)] w fun e w' => ∃ s : Nat, e = .returned (.int .i64 (s : Int)) ∧ (s ≤ m ∧ (∀ v, Got (pKind l m) st v → s = v) ∧ ((∀ v, ¬ Got (pKind l m) st v) → s = 0)) ∧ Rd 73 w' R a c l (stp (pKind l m) noF st) ∧ But R w w' := by
  have mixed : Try.prog.follows .mixedOrders = true := by kernel_rfl
  obtain ⟨x, er, g, H, hst⟩ := h.obj
  have hlen := h.len
  have b0 := heap_cell H 0; have b1 := heap_cell H 1; have b2 := heap_cell H 2
  simp at b0 b1 b2
  by_cases he : er = 0
  · subst he
    obtain rfl : st = .ok (x, g) := hst
    obtain ⟨hx0, hx1⟩ := hp x g rfl
    obtain ⟨X, rfl⟩ := Int.eq_ofNat_of_zero_le hx0
    by_cases hl : (l.length : Int) ≤ (X : Int)
    · have hS := st_kind_none l m X g (by omega) hl
      have hG : ∀ v, ¬ Got (pKind l m) (.ok ((X : Int), g)) v := fun v hv => by
        obtain ⟨j, hj⟩ := got_ok hv
        rw [stp_ok hj] at hS; cases hS
      have HG := hideP hG; have HS := hideP hS; clear hG hS
      have hq : (X : Int) ≥ (l.length : Int) := hl
      go_enter Try.func70, Try.ntmps70
      go_wp2_with fail
      go_quiet (fail)
      have hb1 := (Grew.drewN w nq).below
      have H1 := below_heap hb1 H
      have h1 := h.below hb1
      clear b0 b1 b2 H
      go_wp2_with (refine wpList_store_cel rfl 30 _ _ rfl R 2 4 73 (.int .i64 10) #[.slice a l.length c, .int .i64 X, .int .i64 10, .bool g] rfl rfl H1 rfl (by decide) (by kernel_rfl) rfl rfl ?_; intro w2 H2 B2)
      go_ret
      refine ⟨0, rfl, ⟨Nat.zero_le _, fun v hv => (HG.out v hv).elim, fun _ => rfl⟩, ?_, (But.of_below hb1).trans B2⟩
      rw [HS.out]
      exact h1.set B2 X 10 g H2 rfl (fun _ _ h => by cases h)
    · have hlt : X < l.length := by omega
      have hq : ¬ (X : Int) ≥ (l.length : Int) := hl
      have hc0 := h.holds.addr (Nat.lt_of_le_of_lt (Nat.zero_le _) hlt)
      obtain ⟨P1, O1, rfl⟩ := hc0
      have hcell := h.holds.cell X hlt
      have hbig := st_kind_big l m X g hlt
      have hok := kind_ok l m X hlt
      have hby := l[X].toNat_lt
      generalize hK : l[X].toNat = K at *
      clear hK
      by_cases hmk : m < K
      · have hS := hbig hmk
        have hG : ∀ v, ¬ Got (pKind l m) (.ok ((X : Int), g)) v := fun v hv => by
          obtain ⟨j, hj⟩ := got_ok hv
          rw [stp_ok hj] at hS; cases hS
        have HG := hideP hG; have HS := hideP hS; clear hG hS hok hbig
        have q1 : (K : Int) > (m : Int) := by omega
        go_enter Try.func70, Try.ntmps70
        go_wp2_with fail
        go_quiet (fail)
        have hb1 := (Grew.drewN w nq).below
        have H1 := below_heap hb1 H
        have h1 := h.below hb1
        have c1 := (hb1.cell (cell_block hcell)).trans hcell
        generalize w.drewN nq = w1 at *
        clear b0 b1 b2 H hcell
        have b0 := heap_cell H1 0; have b1 := heap_cell H1 1
        simp at b0 b1
        go_wp2_with fail
        go_quiet (fail)
        have hb2 := (Grew.drewN w1 nq).below
        have H2 := below_heap hb2 H1
        have h2 := h1.below hb2
        clear b0 b1 c1 H1
        go_wp2_with (refine wpList_store_cel rfl 30 _ _ rfl R 2 4 73 (.int .i64 11) #[.slice (some ⟨P1, O1, none⟩) l.length c, .int .i64 X, .int .i64 11, .bool g] rfl rfl H2 rfl (by decide) (by kernel_rfl) rfl rfl ?_; intro w3 H3 B3)
        go_ret
        refine ⟨0, rfl, ⟨Nat.zero_le _, fun v hv => (HG.out v hv).elim, fun _ => rfl⟩, ?_, (But.of_below (Below.then hb1 hb2)).trans B3⟩
        rw [HS.out]
        exact h2.set B3 X 11 g H3 rfl (fun _ _ h => by cases h)
      · have hS := hok hmk
        have HS := hideP hS; clear hS hok hbig
        have q1 : ¬ (K : Int) > (m : Int) := by omega
        go_enter Try.func70, Try.ntmps70
        go_wp2_with fail
        go_quiet (fail)
        have hb1 := (Grew.drewN w nq).below
        have H1 := below_heap hb1 H
        have h1 := h.below hb1
        have c1 := (hb1.cell (cell_block hcell)).trans hcell
        generalize w.drewN nq = w1 at *
        clear b0 b1 b2 H hcell
        have b0 := heap_cell H1 0; have b1 := heap_cell H1 1
        simp at b0 b1
        go_wp2_with fail
        go_quiet (fail)
        have hb2 := (Grew.drewN w1 nq).below
        have H2 := below_heap hb2 H1
        have h2 := h1.below hb2
        generalize w1.drewN nq = w2 at *
        clear b0 b1 c1 H1
        have b1 := heap_cell H2 1
        simp at b1
        have q2 : (X : Int) ≤ 281474976710655 := by omega
        go_wp2_with (refine wpList_store_cel rfl 3 _ _ rfl R 1 4 73 (.int .i64 ((X : Int) + 1)) #[.slice (some ⟨P1, O1, none⟩) l.length c, .int .i64 ((X : Int) + 1), .int .i64 0, .bool g] rfl rfl H2 rfl (by decide) (by kernel_rfl) rfl rfl ?_; intro w3 H3 B3)
        go_ret
        refine ⟨K, rfl, ⟨by omega, fun v hv => ?_, fun hn => (hn K ⟨X, g, _, rfl, HS.out⟩).elim⟩, ?_, (But.of_below (Below.then hb1 hb2)).trans B3⟩
        · obtain ⟨j, hj⟩ := got_ok hv
          rw [HS.out] at hj; cases hj; rfl
        · rw [stp_ok HS.out, noF, Bool.or_false]
          exact h2.set B3 ((X : Int) + 1) 0 g H3 rfl (fun _ _ h => by cases h; omega)
  · have hq : (er != 0) = true := by simpa using he
    have hs : st = .error er := by rw [hst]; unfold stOf; rw [if_neg he]
    have hk := h
    subst hs
    clear he hst
    go_enter Try.func70, Try.ntmps70
    go_wp2_with fail
    go_ret
    exact ⟨0, rfl, ⟨Nat.zero_le _, fun v hv => (got_err hv).elim, fun _ => rfl⟩, hk, But.refl _ _⟩

set_option maxRecDepth 100000 in
set_option maxHeartbeats 2000000 in
theorem rvalue_r (R : Nat) (a : Option Addr) (c : Nat) (l : List UInt8) (st : St) (w : World) (h : Rd 73 w R a c l st) (hp : Pos l st) :
    Calls Try.prog 38 #[ptr R] w fun e w' => ∃ k, e = .returned (kval k) ∧ (∀ v, Got (pConst l) st v → k = v) ∧ Rd 73 w' R a c l (stp (pConst l) noF st) ∧ But R w w' := by
  have hK := fun W (h : Rd 73 W R a c l st) => rkind_r 1 R a c l st W h hp
  have hN := fun W st (h : Rd 73 W R a c l st) => rnumber_r R a c l st W h
  have hT := fun W st (h : Rd 73 W R a c l st) => rtext_r R a c l st W h
  have hlt := h.lt
  have B0 := below_alloc w (.cells #[.bool false, .int .i64 0, .string .empty] 49)
  have H0 := heap_alloc_new w (.cells #[.bool false, .int .i64 0, .string .empty] 49)
  have R0 := h.below B0
  have iN : (Try.prog.info? 49).map (·.size) = some 3 := by kernel_rfl
  go_enter Try.func38, Try.ntmps38
  go_wp2_with fail
  refine (hK _ R0).mono ?_; rintro e w1 ⟨s, rfl, ⟨hs1, hs2, hs3⟩, R1, b1⟩
  have H1 := b1.heap (by omega) H0
  have B1 : But R w w1 := (But.of_below B0).trans b1
  have Hs2 := hideP hs2; have Hs3 := hideP hs3
  clear hK B0 H0 R0 b1 hs2 hs3 h
  generalize hS : w.heap.size = S at *
  have HS := hideP hS; clear hS
  by_cases h0 : s = 0
  · subst h0
    go_wp2_with fail
    refine (hN _ _ R1).mono ?_; rintro e w2 ⟨n, rfl, hn, R2, b2⟩
    have H2 := b2.heap (by omega) H1
    have Hn := hideP hn
    clear hN hT R1 H1 hn
    go_wp2_with (refine wpList_store_all rfl 49 _ _ rfl S 3 _ 49 (kv ⟨true, n, []⟩) rfl rfl H2 rfl rfl iN rfl ?_; intro w3 H3 B3)
    have e0 : ∀ v, Got (pKind l 1) st v → v = 0 := fun v hv => (Hs2.out v hv).symm
    refine bodyPost_ret (results_cell (b := S) rfl rfl H3 Try.underlying49 rfl (by kernel_rfl)) rfl ⟨⟨true, n, []⟩, rfl, fun v hv => ?_, ?_, (B1.trans b2).fresh B3 (by rw [HS.out]; exact Nat.le_refl _)⟩
    · obtain ⟨m, hm, rfl⟩ := got_const0 e0 hv
      rw [Hn.out m hm]
    · rw [st_const0 e0]; exact R2.but B3 (by omega)
  · obtain rfl : s = 1 := by omega
    clear h0
    go_wp2_with fail
    refine (hT _ _ R1).mono ?_; rintro e w2 ⟨n, rfl, hn, R2, b2⟩
    have H2 := b2.heap (by omega) H1
    have Hn := hideP hn
    clear hN hT R1 H1 hn
    go_wp2_with (refine wpList_store_all rfl 49 _ _ rfl S 3 _ 49 (kv ⟨false, 0, n⟩) rfl rfl H2 rfl rfl iN rfl ?_; intro w3 H3 B3)
    have e0 : ∀ v, Got (pKind l 1) st v → v ≠ 0 := fun v hv e => by have := Hs2.out v hv; omega
    refine bodyPost_ret (results_cell (b := S) rfl rfl H3 Try.underlying49 rfl (by kernel_rfl)) rfl ⟨⟨false, 0, n⟩, rfl, fun v hv => ?_, ?_, (B1.trans b2).fresh B3 (by rw [HS.out]; exact Nat.le_refl _)⟩
    · obtain ⟨m, hm, rfl⟩ := got_const1 e0 hv
      rw [Hn.out m hm]
    · rw [st_const1 e0]; exact R2.but B3 (by omega)

end Go.Proofs.Ytghhdbkgibpebaa
