/-
  What the program's reader does: numbers, counts, kinds, constants.
-/
import Derived.Test.YtghhdbkgibpebaaRd
import Derived.Test.YtghhdbkgibpebaaMn
namespace Go.Proofs.Ytghhdbkgibpebaa
open Go.RowKit Go.Sort

theorem ct_err (l : List UInt8) (x m : Int) (h : ¬ (Pm.ct l x m).2.2 = 0) : (Pm.ct l x m).1 = 0 := by
  unfold Pm.ct at h ⊢
  split
  · rfl
  · split
    · rfl
    · rename_i h1 h2
      rw [if_neg h1, if_neg h2] at h
      exact absurd rfl h
set_option maxRecDepth 100000 in
set_option maxHeartbeats 2000000 in
theorem number_r (R : Nat) (a : Option Addr) (c : Nat) (l : List UInt8) (st : St) (w : World) (h : Rd 69 w R a c l st) :
    Calls Try.prog 99 #[ptr R] w fun e w' => ∃ s : Int, e = .returned (.int .i64 s) ∧ (∀ v, Got (pInt l) st v → s = v) ∧ Rd 69 w' R a c l (stp (pInt l) noF st) ∧ But R w w' := by
  have mixed : Try.prog.follows .mixedOrders = true := by kernel_rfl
  obtain ⟨x, er, g, H, hst⟩ := h.obj
  have b0 := heap_cell H 0; have b1 := heap_cell H 1; have b2 := heap_cell H 2
  simp at b0 b1 b2
  by_cases he : er = 0
  · subst he
    obtain rfl : st = .ok (x, g) := hst
    have hr := h.rng x g rfl
    have hT := fun n => int_any a c l x (w.drewN n) (h.holds.below (Grew.drewN w n).below) (Nat.le_trans h.len (by unfold maxLen; omega)) hr.1 hr.2
    have hS := st_int l x g
    have hG : ∀ v, Got (pInt l) (.ok (x, g)) v → (Pm.rd l x).1 = v := fun v hv => by
      obtain ⟨j, hj⟩ := got_ok hv
      rw [pInt_inv hj]
    have hP := rng_of (pos_int l (.ok (x, g))) h.len
    rw [hS] at hP ⊢
    generalize Pm.rd l x = r at *
    obtain ⟨s, j, e⟩ := r
    simp only [three] at hT hG hP ⊢
    have HG := hideP hG; have HP := hideP hP; clear hG hP hS
    go_enter Try.func99, Try.ntmps99
    go_wp2_with fail
    go_quiet (first | (go_at_call 113; refine (hT _).mono fun _ _ hh => ⟨hh.1, _, hh.2.symm⟩))
    have hb1 := (Grew.drewN w nq).below
    have H1 := below_heap hb1 H
    have h1 := h.below hb1
    clear b0 b1 b2 hT H
    go_wp2_with (first
      | (refine wpList_store_cel rfl 3 _ _ rfl R 1 4 69 (.int .i64 j) #[.slice a l.length c, .int .i64 j, .int .i64 0, .bool g] rfl rfl H1 rfl (by decide) (by kernel_rfl) rfl rfl ?_; intro w2 H2 B2)
      | (refine wpList_store_cel rfl 30 _ _ rfl R 2 4 69 (.int .i64 e) #[.slice a l.length c, .int .i64 j, .int .i64 e, .bool g] rfl rfl H2 rfl (by decide) (by kernel_rfl) rfl rfl ?_; intro w3 H3 B3))
    go_ret
    exact ⟨s, rfl, HG.out, h1.set (B2.trans B3) j e g H3 rfl HP.out, (But.of_below hb1).trans (B2.trans B3)⟩
  · have hq : (er != 0) = true := by simpa using he
    have hs : st = .error er := by rw [hst]; unfold stOf; rw [if_neg he]
    have hk := h
    subst hs
    clear he hst
    go_enter Try.func99, Try.ntmps99
    go_wp2_with fail
    go_ret
    exact ⟨0, rfl, fun v hv => (got_err hv).elim, hk, But.refl _ _⟩

set_option maxRecDepth 100000 in
set_option maxHeartbeats 2000000 in
theorem count_r (m : Int) (R : Nat) (a : Option Addr) (c : Nat) (l : List UInt8) (st : St) (w : World) (h : Rd 69 w R a c l st) :
    Calls Try.prog 85 #[ptr R, .int .i64 m] w fun e w' => ∃ s : Int, e = .returned (.int .i64 s) ∧ ((∀ v, Got (pCount l m) st v → s = v) ∧ ((∀ v, ¬ Got (pCount l m) st v) → s = 0)) ∧ Rd 69 w' R a c l (stp (pCount l m) noF st) ∧ But R w w' := by
  have mixed : Try.prog.follows .mixedOrders = true := by kernel_rfl
  obtain ⟨x, er, g, H, hst⟩ := h.obj
  have b0 := heap_cell H 0; have b1 := heap_cell H 1; have b2 := heap_cell H 2
  simp at b0 b1 b2
  by_cases he : er = 0
  · subst he
    obtain rfl : st = .ok (x, g) := hst
    have hr := h.rng x g rfl
    have hT := fun n => count_any a c l x m (w.drewN n) (h.holds.below (Grew.drewN w n).below) (Nat.le_trans h.len (by unfold maxLen; omega)) hr.1 hr.2
    have hS := st_count l m x g
    have hG : ∀ v, Got (pCount l m) (.ok (x, g)) v → (Pm.ct l x m).1 = v := fun v hv => by
      obtain ⟨j, hj⟩ := got_ok hv
      rw [pCount_inv hj]
    have hG0 : (∀ v, ¬ Got (pCount l m) (.ok (x, g)) v) → (Pm.ct l x m).1 = 0 := fun hn => by
      by_cases h0 : (Pm.ct l x m).2.2 = 0
      · exact (hn _ ⟨x, g, _, rfl, by unfold pCount; rw [if_pos h0]⟩).elim
      · exact ct_err l x m h0
    have hP := rng_of (pos_count l m (.ok (x, g))) h.len
    rw [hS] at hP ⊢
    generalize Pm.ct l x m = r at *
    obtain ⟨s, j, e⟩ := r
    simp only [three] at hT hG hG0 hP ⊢
    have HG := hideP hG; have HG0 := hideP hG0; have HP := hideP hP; clear hG hG0 hP hS
    go_enter Try.func85, Try.ntmps85
    go_wp2_with fail
    go_quiet (first | (go_at_call 108; refine (hT _).mono fun _ _ hh => ⟨hh.1, _, hh.2.symm⟩))
    have hb1 := (Grew.drewN w nq).below
    have H1 := below_heap hb1 H
    have h1 := h.below hb1
    clear b0 b1 b2 hT H
    go_wp2_with (first
      | (refine wpList_store_cel rfl 3 _ _ rfl R 1 4 69 (.int .i64 j) #[.slice a l.length c, .int .i64 j, .int .i64 0, .bool g] rfl rfl H1 rfl (by decide) (by kernel_rfl) rfl rfl ?_; intro w2 H2 B2)
      | (refine wpList_store_cel rfl 30 _ _ rfl R 2 4 69 (.int .i64 e) #[.slice a l.length c, .int .i64 j, .int .i64 e, .bool g] rfl rfl H2 rfl (by decide) (by kernel_rfl) rfl rfl ?_; intro w3 H3 B3))
    go_ret
    exact ⟨s, rfl, ⟨HG.out, HG0.out⟩, h1.set (B2.trans B3) j e g H3 rfl HP.out, (But.of_below hb1).trans (B2.trans B3)⟩
  · have hq : (er != 0) = true := by simpa using he
    have hs : st = .error er := by rw [hst]; unfold stOf; rw [if_neg he]
    have hk := h
    subst hs
    clear he hst
    go_enter Try.func85, Try.ntmps85
    go_wp2_with fail
    go_ret
    exact ⟨0, rfl, ⟨fun v hv => (got_err hv).elim, fun _ => rfl⟩, hk, But.refl _ _⟩

theorem st_kind_none (l : List UInt8) (m : Nat) (x : Int) (h : Bool) (hx : 0 ≤ x) (hl : (l.length : Int) ≤ x) : stp (pKind l m) noF (.ok (x, h)) = .error 10 := by
  refine stp_no ?_
  unfold pKind
  rw [List.getElem?_eq_none (by omega)]
theorem st_kind_big (l : List UInt8) (m : Nat) (x : Nat) (h : Bool) (hl : x < l.length) (hm : m < l[x].toNat) : stp (pKind l m) noF (.ok ((x : Int), h)) = .error 11 := by
  refine stp_no ?_
  unfold pKind
  rw [Int.toNat_natCast, List.getElem?_eq_getElem hl]
  simp [hm]
theorem kind_ok (l : List UInt8) (m : Nat) (x : Nat) (hl : x < l.length) (hm : ¬ m < l[x].toNat) : pKind l m (x : Int) = .ok (l[x].toNat, (x : Int) + 1) := by
  unfold pKind
  rw [Int.toNat_natCast, List.getElem?_eq_getElem hl]
  simp [hm]
theorem pos_kind {l : List UInt8} {m : Nat} {st : St} (h : Pos l st) : Pos l (stp (pKind l m) noF st) := pos_snd (snd_kind l m) h

set_option maxRecDepth 100000 in
set_option maxHeartbeats 2000000 in
theorem kind_r (m : Nat) (R : Nat) (a : Option Addr) (c : Nat) (l : List UInt8) (st : St) (w : World) (h : Rd 69 w R a c l st) (hp : Pos l st) :
    Calls Try.prog 98 #[ptr R, .int .u8 (m : Int)] w fun e w' => ∃ s : Nat, e = .returned (.int .u8 (s : Int)) ∧ (s ≤ m ∧ (∀ v, Got (pKind l m) st v → s = v) ∧ ((∀ v, ¬ Got (pKind l m) st v) → s = 0)) ∧ Rd 69 w' R a c l (stp (pKind l m) noF st) ∧ But R w w' := by
  have mixed : Try.prog.follows .mixedOrders = true := by kernel_rfl
  obtain ⟨x, er, g, H, hst⟩ := h.obj
  have hlen := h.len
  have b0 := heap_cell H 0; have b1 := heap_cell H 1; have b2 := heap_cell H 2
  simp at b0 b1 b2
  by_cases he : er = 0
  · subst he
    obtain rfl : st = .ok (x, g) := hst
    obtain ⟨hx0, hx1⟩ := hp x g rfl
    obtain ⟨X, rfl⟩ := Int.eq_ofNat_of_zero_le hx0
    by_cases hl : (l.length : Int) ≤ (X : Int)
    · have hS := st_kind_none l m X g (by omega) hl
      have hG : ∀ v, ¬ Got (pKind l m) (.ok ((X : Int), g)) v := fun v hv => by
        obtain ⟨j, hj⟩ := got_ok hv
        rw [stp_ok hj] at hS; cases hS
      have HG := hideP hG; have HS := hideP hS; clear hG hS
      have hq : (X : Int) ≥ (l.length : Int) := hl
      go_enter Try.func98, Try.ntmps98
      go_wp2_with fail
      go_quiet (fail)
      have hb1 := (Grew.drewN w nq).below
      have H1 := below_heap hb1 H
      have h1 := h.below hb1
      clear b0 b1 b2 H
      go_wp2_with (refine wpList_store_cel rfl 30 _ _ rfl R 2 4 69 (.int .i64 10) #[.slice a l.length c, .int .i64 X, .int .i64 10, .bool g] rfl rfl H1 rfl (by decide) (by kernel_rfl) rfl rfl ?_; intro w2 H2 B2)
      go_ret
      refine ⟨0, rfl, ⟨Nat.zero_le _, fun v hv => (HG.out v hv).elim, fun _ => rfl⟩, ?_, (But.of_below hb1).trans B2⟩
      rw [HS.out]
      exact h1.set B2 X 10 g H2 rfl (fun _ _ h => by cases h)
    · have hlt : X < l.length := by omega
      have hq : ¬ (X : Int) ≥ (l.length : Int) := hl
      have hc0 := h.holds.addr (Nat.lt_of_le_of_lt (Nat.zero_le _) hlt)
      obtain ⟨P1, O1, rfl⟩ := hc0
      have hcell := h.holds.cell X hlt
      have hbig := st_kind_big l m X g hlt
      have hok := kind_ok l m X hlt
      have hby := l[X].toNat_lt
      generalize hK : l[X].toNat = K at *
      clear hK
      by_cases hmk : m < K
      · have hS := hbig hmk
        have hG : ∀ v, ¬ Got (pKind l m) (.ok ((X : Int), g)) v := fun v hv => by
          obtain ⟨j, hj⟩ := got_ok hv
          rw [stp_ok hj] at hS; cases hS
        have HG := hideP hG; have HS := hideP hS; clear hG hS hok hbig
        have q1 : (K : Int) > (m : Int) := by omega
        go_enter Try.func98, Try.ntmps98
        go_wp2_with fail
        go_quiet (fail)
        have hb1 := (Grew.drewN w nq).below
        have H1 := below_heap hb1 H
        have h1 := h.below hb1
        have c1 := (hb1.cell (cell_block hcell)).trans hcell
        generalize w.drewN nq = w1 at *
        clear b0 b1 b2 H hcell
        have b0 := heap_cell H1 0; have b1 := heap_cell H1 1
        simp at b0 b1
        go_wp2_with fail
        go_quiet (fail)
        have hb2 := (Grew.drewN w1 nq).below
        have H2 := below_heap hb2 H1
        have h2 := h1.below hb2
        clear b0 b1 c1 H1
        go_wp2_with (refine wpList_store_cel rfl 30 _ _ rfl R 2 4 69 (.int .i64 11) #[.slice (some ⟨P1, O1, none⟩) l.length c, .int .i64 X, .int .i64 11, .bool g] rfl rfl H2 rfl (by decide) (by kernel_rfl) rfl rfl ?_; intro w3 H3 B3)
        go_ret
        refine ⟨0, rfl, ⟨Nat.zero_le _, fun v hv => (HG.out v hv).elim, fun _ => rfl⟩, ?_, (But.of_below (Below.then hb1 hb2)).trans B3⟩
        rw [HS.out]
        exact h2.set B3 X 11 g H3 rfl (fun _ _ h => by cases h)
      · have hS := hok hmk
        have HS := hideP hS; clear hS hok hbig
        have q1 : ¬ (K : Int) > (m : Int) := by omega
        go_enter Try.func98, Try.ntmps98
        go_wp2_with fail
        go_quiet (fail)
        have hb1 := (Grew.drewN w nq).below
        have H1 := below_heap hb1 H
        have h1 := h.below hb1
        have c1 := (hb1.cell (cell_block hcell)).trans hcell
        generalize w.drewN nq = w1 at *
        clear b0 b1 b2 H hcell
        have b0 := heap_cell H1 0; have b1 := heap_cell H1 1
        simp at b0 b1
        go_wp2_with fail
        go_quiet (fail)
        have hb2 := (Grew.drewN w1 nq).below
        have H2 := below_heap hb2 H1
        have h2 := h1.below hb2
        generalize w1.drewN nq = w2 at *
        clear b0 b1 c1 H1
        have b1 := heap_cell H2 1
        simp at b1
        have q2 : (X : Int) ≤ 281474976710655 := by omega
        go_wp2_with (refine wpList_store_cel rfl 3 _ _ rfl R 1 4 69 (.int .i64 ((X : Int) + 1)) #[.slice (some ⟨P1, O1, none⟩) l.length c, .int .i64 ((X : Int) + 1), .int .i64 0, .bool g] rfl rfl H2 rfl (by decide) (by kernel_rfl) rfl rfl ?_; intro w3 H3 B3)
        go_ret
        refine ⟨K, rfl, ⟨by omega, fun v hv => ?_, fun hn => (hn K ⟨X, g, _, rfl, HS.out⟩).elim⟩, ?_, (But.of_below (Below.then hb1 hb2)).trans B3⟩
        · obtain ⟨j, hj⟩ := got_ok hv
          rw [HS.out] at hj; cases hj; rfl
        · rw [stp_ok HS.out, noF, Bool.or_false]
          exact h2.set B3 ((X : Int) + 1) 0 g H3 rfl (fun _ _ h => by cases h; omega)
  · have hq : (er != 0) = true := by simpa using he
    have hs : st = .error er := by rw [hst]; unfold stOf; rw [if_neg he]
    have hk := h
    subst hs
    clear he hst
    go_enter Try.func98, Try.ntmps98
    go_wp2_with fail
    go_ret
    exact ⟨0, rfl, ⟨Nat.zero_le _, fun v hv => (got_err hv).elim, fun _ => rfl⟩, hk, But.refl _ _⟩
end Go.Proofs.Ytghhdbkgibpebaa

/-
  What the program's reader does: constants and terms.
-/
namespace Go.Proofs.Ytghhdbkgibpebaa
open Go.RowKit Go.Sort

set_option maxRecDepth 100000 in
set_option maxHeartbeats 2000000 in
theorem constant_r (R : Nat) (a : Option Addr) (c : Nat) (l : List UInt8) (st : St) (w : World) (h : Rd 69 w R a c l st) (hp : Pos l st) :
    Calls Try.prog 67 #[ptr R] w fun e w' => ∃ k, e = .returned (kval k) ∧ (∀ v, Got (pConst l) st v → k = v) ∧ Rd 69 w' R a c l (stp (pConst l) noF st) ∧ But R w w' := by
  have hK := fun W (h : Rd 69 W R a c l st) => kind_r 1 R a c l st W h hp
  have hN := fun W st (h : Rd 69 W R a c l st) => number_r R a c l st W h
  have hT := fun W st (h : Rd 69 W R a c l st) => text_r R a c l st W h
  have hlt := h.lt
  have B0 := below_alloc w (.cells #[.bool false, .int .i64 0, .string .empty] 49)
  have H0 := heap_alloc_new w (.cells #[.bool false, .int .i64 0, .string .empty] 49)
  have R0 := h.below B0
  have iN : (Try.prog.info? 49).map (·.size) = some 3 := by kernel_rfl
  go_enter Try.func67, Try.ntmps67
  go_wp2_with fail
  refine (hK _ R0).mono ?_; rintro e w1 ⟨s, rfl, ⟨hs1, hs2, hs3⟩, R1, b1⟩
  have H1 := b1.heap (by omega) H0
  have B1 : But R w w1 := (But.of_below B0).trans b1
  have Hs2 := hideP hs2; have Hs3 := hideP hs3
  clear hK B0 H0 R0 b1 hs2 hs3 h
  generalize hS : w.heap.size = S at *
  have HS := hideP hS; clear hS
  by_cases h0 : s = 0
  · subst h0
    go_wp2_with fail
    refine (hN _ _ R1).mono ?_; rintro e w2 ⟨n, rfl, hn, R2, b2⟩
    have H2 := b2.heap (by omega) H1
    have Hn := hideP hn
    clear hN hT R1 H1 hn
    go_wp2_with (refine wpList_store_all rfl 49 _ _ rfl S 3 _ 49 (kv ⟨true, n, []⟩) rfl rfl H2 rfl rfl iN rfl ?_; intro w3 H3 B3)
    have e0 : ∀ v, Got (pKind l 1) st v → v = 0 := fun v hv => (Hs2.out v hv).symm
    refine bodyPost_ret (results_cell (b := S) rfl rfl H3 Try.underlying49 rfl (by kernel_rfl)) rfl ⟨⟨true, n, []⟩, rfl, fun v hv => ?_, ?_, (B1.trans b2).fresh B3 (by rw [HS.out]; exact Nat.le_refl _)⟩
    · obtain ⟨m, hm, rfl⟩ := got_const0 e0 hv
      rw [Hn.out m hm]
    · rw [st_const0 e0]; exact R2.but B3 (by omega)
  · obtain rfl : s = 1 := by omega
    clear h0
    go_wp2_with fail
    refine (hT _ _ R1).mono ?_; rintro e w2 ⟨n, rfl, hn, R2, b2⟩
    have H2 := b2.heap (by omega) H1
    have Hn := hideP hn
    clear hN hT R1 H1 hn
    go_wp2_with (refine wpList_store_all rfl 49 _ _ rfl S 3 _ 49 (kv ⟨false, 0, n⟩) rfl rfl H2 rfl rfl iN rfl ?_; intro w3 H3 B3)
    have e0 : ∀ v, Got (pKind l 1) st v → v ≠ 0 := fun v hv e => by have := Hs2.out v hv; omega
    refine bodyPost_ret (results_cell (b := S) rfl rfl H3 Try.underlying49 rfl (by kernel_rfl)) rfl ⟨⟨false, 0, n⟩, rfl, fun v hv => ?_, ?_, (B1.trans b2).fresh B3 (by rw [HS.out]; exact Nat.le_refl _)⟩
    · obtain ⟨m, hm, rfl⟩ := got_const1 e0 hv
      rw [Hn.out m hm]
    · rw [st_const1 e0]; exact R2.but B3 (by omega)

theorem hollow_var (s : List UInt8) : Rt.hollow (.var s) = s.isEmpty := by
  cases s <;> simp [Rt.hollow, Rt.t, Rt.kind, kindT, k0, zeroK]
theorem hollow_val (k : K) : Rt.hollow (.val k) = zeroK k := by
  cases h : zeroK k <;> simp [Rt.hollow, Rt.t, Rt.kind, kindT, h]
end Go.Proofs.Ytghhdbkgibpebaa

/-
  What the program's reader does: terms.
-/
namespace Go.Proofs.Ytghhdbkgibpebaa
open Go.RowKit Go.Sort

/-- the mark set, or not -/
def mark (b : Bool) (st : St) : St :=
  match st with
  | .error e => .error e
  | .ok (x, h) => .ok (x, h || b)
theorem stp_b {α : Type} (p : Pr α) (b : Bool) (st : St) : stp p (fun _ => b) st = mark b (stp p noF st) := by
  rcases st with e | ⟨x, g⟩
  · rfl
  · cases hp : p x with
    | error e => rw [stp_no hp, stp_no hp]; rfl
    | ok y => obtain ⟨v, j⟩ := y; rw [stp_ok hp, stp_ok hp, noF, Bool.or_false]; rfl
theorem mark_no (st : St) : mark false st = st := by rcases st with e | ⟨x, g⟩ <;> simp [mark]
theorem mark_yes (x e : Int) (g : Bool) : mark true (stOf x e g) = stOf x e true := by unfold stOf; split <;> simp [mark]
theorem pos_mark {l : List UInt8} {b : Bool} {st : St} (h : Pos l st) : Pos l (mark b st) := fun x g hs => by
  rcases st with e | ⟨y, g'⟩
  · cases hs
  · cases hs; exact h _ _ rfl

set_option maxRecDepth 100000 in
set_option maxHeartbeats 4000000 in
theorem term_r (R : Nat) (a : Option Addr) (c : Nat) (l : List UInt8) (st : St) (w : World) (h : Rd 69 w R a c l st) (hp : Pos l st) :
    Calls Try.prog 86 #[ptr R] w fun e w' => ∃ t, e = .returned (tval t) ∧ (∀ v, Got (pTerm l) st v → t = v.t) ∧ Rd 69 w' R a c l (stp (pTerm l) Rt.hollow st) ∧ But R w w' := by
  have hK := fun W (h : Rd 69 W R a c l st) => kind_r 2 R a c l st W h hp
  have hC := fun W st (h : Rd 69 W R a c l st) (hp : Pos l st) => constant_r R a c l st W h hp
  have hT := fun W st (h : Rd 69 W R a c l st) => text_r R a c l st W h
  have hO := fun t W => kindOf_at t W
  have hlt := h.lt
  have hp1 : Pos l (stp (pKind l 2) noF st) := pos_kind hp
  have B0 := Below.then (below_alloc w (.cells #[.string .empty, .bool false, .int .i64 0, .string .empty] 51)) (below_alloc _ (.cells #[.string .empty, .bool false, .int .i64 0, .string .empty] 51))
  have H0 := below_heap (below_alloc _ (.cells #[.string .empty, .bool false, .int .i64 0, .string .empty] 51)) (heap_alloc_new w (.cells #[.string .empty, .bool false, .int .i64 0, .string .empty] 51))
  have V0 := heap_alloc_new (w.alloc (.cells #[.string .empty, .bool false, .int .i64 0, .string .empty] 51)) (.cells #[.string .empty, .bool false, .int .i64 0, .string .empty] 51)
  rw [show (w.alloc (.cells #[.string .empty, .bool false, .int .i64 0, .string .empty] 51)).heap.size = w.heap.size + 1 by simp] at V0
  have R0 := h.below B0
  have iN : (Try.prog.info? 51).map (·.size) = some 4 := by kernel_rfl
  go_enter Try.func86, Try.ntmps86
  go_wp2_with fail
  refine (hK _ R0).mono ?_; rintro e w1 ⟨s, rfl, ⟨hs1, hs2, hs3⟩, R1, b1⟩
  have H1 := b1.heap (by omega) H0
  have V1 := b1.heap (by omega) V0
  have B1 : But R w w1 := (But.of_below B0).trans b1
  have Hs2 := hideP hs2
  clear hK B0 H0 V0 R0 b1 hs2 hs3 h
  generalize hS : w.heap.size = S at *
  have HS := hideP hS; clear hS
  by_cases h0 : s = 0
  · subst h0
    have e0 : ∀ v, Got (pKind l 2) st v → v = 0 := fun v hv => (Hs2.out v hv).symm
    have Hg : Hid (∀ v, Got (pTerm l) st v → t0 = v.t) := fun v hv => by rw [got_term0 e0 hv]; rfl
    have Hf : Hid (stp (pTerm l) Rt.hollow st = mark (kindT t0 != 0) (stp (pKind l 2) noF st)) := by
      show _ = _
      rw [st_term0 Rt.hollow rfl e0]; exact (mark_no _).symm
    have HP := hideP hp1
    clear hC hT Hs2 e0 hs1
    generalize stp (pKind l 2) noF st = ST at *
    have V3 : w1.heap[S + 1]? = some (.cells (tv t0).toArray 51) := V1
    have H3 := H1; have R3 := R1; have B3 := B1
    clear V1 H1 R1 B1
    have gT : ∀ w0 w' : World, But R w w0 → But S w0 w' → But R w w' := fun _ _ x y => x.fresh y (by rw [HS.out]; exact Nat.le_refl _)
    by_cases hk : kindT t0 = 0
    · have hk' : ((kindT t0 : Int) != 0) = false := by simp [hk]
      have hO' := hO t0
      generalize kindT t0 = kd at *
      go_wp2_with (refine wpList_load_all rfl 51 _ rfl (S + 1) 4 51 (tv t0) _ rfl V3 rfl Try.underlying51 rfl iN ?_)
      refine (hO' _).mono ?_; rintro e w4 ⟨rfl, g4⟩
      have V4 := below_heap g4.below V3
      have H4 := below_heap g4.below H3
      have R4 := R3.below g4.below
      have B4 := B3.below g4.below
      clear V3 H3 R3 B3 hO hO' g4
      go_wp2_with (first
        | (refine wpList_load_all rfl 51 _ rfl (S + 1) 4 51 (tv t0) _ rfl V4 rfl Try.underlying51 rfl iN ?_)
        | (refine wpList_store_all rfl 51 _ _ rfl S 4 _ 51 (tv t0) rfl rfl H4 rfl rfl iN rfl ?_; intro w5 H5 B5))
      refine bodyPost_ret (results_cell (b := S) rfl rfl H5 Try.underlying51 rfl (by kernel_rfl)) rfl ⟨t0, rfl, Hg.out, ?_, gT _ _ B4 B5⟩
      rw [Hf.out]
      have := R4.but B5 (by omega)
      simpa [hk, mark_no] using this
    · exact absurd rfl hk
  · by_cases h1 : s = 1
    · subst h1
      clear h0
      have e0 : ∀ v, Got (pKind l 2) st v → v = 1 := fun v hv => (Hs2.out v hv).symm
      go_wp2_with fail
      refine (hT _ _ R1).mono ?_; rintro e w2 ⟨n, rfl, hn, R2, b2⟩
      have H2 := b2.heap (by omega) H1
      have V2 := b2.heap (by omega) V1
      have B2 := B1.trans b2
      have Hg : Hid (∀ v, Got (pTerm l) st v → (⟨n, k0⟩ : Tm) = v.t) := fun v hv => by
        obtain ⟨s, hs, rfl⟩ := got_term1 e0 hv
        rw [hn s hs]; rfl
      have Hf : Hid (stp (pTerm l) Rt.hollow st = mark (kindT ⟨n, k0⟩ != 1) (stp (pText l) noF (stp (pKind l 2) noF st))) := by
        show _ = _
        rw [st_term1 Rt.hollow e0, stp_mark (kindT ⟨n, k0⟩ != 1) (fun v hv => by rw [hn v hv]; rfl), stp_b]
      have HP := hideP (pos_text l (stp (pKind l 2) noF st))
      clear hC hT Hs2 e0 hs1 hn H1 V1 R1 B1 hp1
      generalize stp (pText l) noF (stp (pKind l 2) noF st) = ST at *
      have gT : ∀ w0 w' : World, But R w w0 → But S w0 w' → But R w w' := fun _ _ x y => x.fresh y (by rw [HS.out]; exact Nat.le_refl _)
      by_cases hk : kindT ⟨n, k0⟩ = 1
      · have hk' : ((kindT ⟨n, k0⟩ : Int) != 1) = false := by simp [hk]
        have hO' := hO ⟨n, k0⟩
        generalize kindT ⟨n, k0⟩ = kd at *
        go_wp2_with (first | (refine wpList_store_cel rfl 9 _ _ rfl (S + 1) 0 4 51 (str n) (tv ⟨n, k0⟩).toArray rfl rfl V2 rfl (by decide) (by kernel_rfl) rfl rfl ?_; intro w3 V3 b3) | (refine wpList_load_all rfl 51 _ rfl (S + 1) 4 51 (tv ⟨n, k0⟩) _ rfl V3 rfl Try.underlying51 rfl iN ?_))
        have H3 := b3.heap (by omega) H2
        have R3 := R2.but b3 (by omega)
        have B3 := B2.fresh b3 (by rw [HS.out]; exact Nat.le_succ _)
        clear V2 H2 R2 B2 b2 b3
        refine (hO' _).mono ?_; rintro e w4 ⟨rfl, g4⟩
        have V4 := below_heap g4.below V3
        have H4 := below_heap g4.below H3
        have R4 := R3.below g4.below
        have B4 := B3.below g4.below
        clear V3 H3 R3 B3 hO hO' g4
        go_wp2_with (first
          | (refine wpList_load_all rfl 51 _ rfl (S + 1) 4 51 (tv ⟨n, k0⟩) _ rfl V4 rfl Try.underlying51 rfl iN ?_)
          | (refine wpList_store_all rfl 51 _ _ rfl S 4 _ 51 (tv ⟨n, k0⟩) rfl rfl H4 rfl rfl iN rfl ?_; intro w5 H5 B5))
        refine bodyPost_ret (results_cell (b := S) rfl rfl H5 Try.underlying51 rfl (by kernel_rfl)) rfl ⟨⟨n, k0⟩, rfl, Hg.out, ?_, gT _ _ B4 B5⟩
        rw [Hf.out]
        have := R4.but B5 (by omega)
        simpa [hk, mark_no] using this
      · have hk' : ((kindT ⟨n, k0⟩ : Int) != 1) = true := by simp; omega
        have hO' := hO ⟨n, k0⟩
        have Hk := hideP hk
        generalize hkd : kindT ⟨n, k0⟩ = kd at *
        have Hkd := hideP hkd; clear hkd hk
        go_wp2_with (first | (refine wpList_store_cel rfl 9 _ _ rfl (S + 1) 0 4 51 (str n) (tv ⟨n, k0⟩).toArray rfl rfl V2 rfl (by decide) (by kernel_rfl) rfl rfl ?_; intro w3 V3 b3) | (refine wpList_load_all rfl 51 _ rfl (S + 1) 4 51 (tv ⟨n, k0⟩) _ rfl V3 rfl Try.underlying51 rfl iN ?_))
        have H3 := b3.heap (by omega) H2
        have R3 := R2.but b3 (by omega)
        have B3 := B2.fresh b3 (by rw [HS.out]; exact Nat.le_succ _)
        clear V2 H2 R2 B2 b2 b3
        refine (hO' _).mono ?_; rintro e w4 ⟨rfl, g4⟩
        have V4 := below_heap g4.below V3
        have H4 := below_heap g4.below H3
        have R4 := R3.below g4.below
        have B4 := B3.below g4.below
        obtain ⟨x4, e4, m4, Q4, q4⟩ := R4.obj
        clear V3 H3 R3 B3 hO hO' g4
        go_wp2_with (first
          | (refine wpList_store_cel rfl 4 _ _ rfl R 3 4 69 (.bool true) #[.slice a l.length c, .int .i64 x4, .int .i64 e4, .bool true] rfl rfl Q4 rfl (by decide) (by kernel_rfl) rfl rfl ?_; intro w6 Q6 B6; have V6 := B6.heap (by omega) V4; have H6 := B6.heap (by omega) H4; clear V4 H4)
          | (refine wpList_load_all rfl 51 _ rfl (S + 1) 4 51 (tv ⟨n, k0⟩) _ rfl V6 rfl Try.underlying51 rfl iN ?_)
          | (refine wpList_store_all rfl 51 _ _ rfl S 4 _ 51 (tv ⟨n, k0⟩) rfl rfl H6 rfl rfl iN rfl ?_; intro w5 H5 B5))
        refine bodyPost_ret (results_cell (b := S) rfl rfl H5 Try.underlying51 rfl (by kernel_rfl)) rfl ⟨⟨n, k0⟩, rfl, Hg.out, ?_, gT _ _ (B4.trans B6) B5⟩
        rw [Hf.out]
        have hb : (kd != 1) = true := by have := Hk.out; simpa using this
        have hm := R4.set B6 (st' := mark (kd != 1) ST) x4 e4 true Q6 (by rw [hb, q4, mark_yes]) (rng_of (pos_mark HP.out) R4.len)
        exact hm.but B5 (by omega)
    · obtain rfl : s = 2 := by omega
      clear h0 h1
      have e0 : ∀ v, Got (pKind l 2) st v → v = 2 := fun v hv => (Hs2.out v hv).symm
      go_wp2_with fail
      refine (hC _ _ R1 hp1).mono ?_; rintro e w2 ⟨n, rfl, hn, R2, b2⟩
      have H2 := b2.heap (by omega) H1
      have V2 := b2.heap (by omega) V1
      have B2 := B1.trans b2
      have Hg : Hid (∀ v, Got (pTerm l) st v → (⟨[], n⟩ : Tm) = v.t) := fun v hv => by
        obtain ⟨s, hs, rfl⟩ := got_term2 e0 hv
        rw [hn s hs]; rfl
      have Hf : Hid (stp (pTerm l) Rt.hollow st = mark (kindT ⟨[], n⟩ != 2) (stp (pConst l) noF (stp (pKind l 2) noF st))) := by
        show _ = _
        rw [st_term2 Rt.hollow e0, stp_mark (kindT ⟨[], n⟩ != 2) (fun v hv => by rw [hn v hv]; rfl), stp_b]
      have HP := hideP (pos_snd (f := noF) (snd_const l) hp1)
      clear hC hT Hs2 e0 hs1 hn H1 V1 R1 B1 hp1
      generalize stp (pConst l) noF (stp (pKind l 2) noF st) = ST at *
      have gT : ∀ w0 w' : World, But R w w0 → But S w0 w' → But R w w' := fun _ _ x y => x.fresh y (by rw [HS.out]; exact Nat.le_refl _)
      by_cases hk : kindT ⟨[], n⟩ = 2
      · have hk' : ((kindT ⟨[], n⟩ : Int) != 2) = false := by simp [hk]
        have hO' := hO ⟨[], n⟩
        generalize kindT ⟨[], n⟩ = kd at *
        go_wp2_with (first | (refine wpList_store_rec rfl 49 _ _ rfl (S + 1) 1 4 3 51 (kv n) (tv ⟨[], n⟩).toArray rfl rfl V2 rfl rfl (by decide) (by kernel_rfl) rfl rfl ?_; intro w3 V3 b3) | (refine wpList_load_all rfl 51 _ rfl (S + 1) 4 51 (tv ⟨[], n⟩) _ rfl V3 rfl Try.underlying51 rfl iN ?_))
        have H3 := b3.heap (by omega) H2
        have R3 := R2.but b3 (by omega)
        have B3 := B2.fresh b3 (by rw [HS.out]; exact Nat.le_succ _)
        clear V2 H2 R2 B2 b2 b3
        refine (hO' _).mono ?_; rintro e w4 ⟨rfl, g4⟩
        have V4 := below_heap g4.below V3
        have H4 := below_heap g4.below H3
        have R4 := R3.below g4.below
        have B4 := B3.below g4.below
        clear V3 H3 R3 B3 hO hO' g4
        go_wp2_with (first
          | (refine wpList_load_all rfl 51 _ rfl (S + 1) 4 51 (tv ⟨[], n⟩) _ rfl V4 rfl Try.underlying51 rfl iN ?_)
          | (refine wpList_store_all rfl 51 _ _ rfl S 4 _ 51 (tv ⟨[], n⟩) rfl rfl H4 rfl rfl iN rfl ?_; intro w5 H5 B5))
        refine bodyPost_ret (results_cell (b := S) rfl rfl H5 Try.underlying51 rfl (by kernel_rfl)) rfl ⟨⟨[], n⟩, rfl, Hg.out, ?_, gT _ _ B4 B5⟩
        rw [Hf.out]
        have := R4.but B5 (by omega)
        simpa [hk, mark_no] using this
      · have hk' : ((kindT ⟨[], n⟩ : Int) != 2) = true := by simp; omega
        have hO' := hO ⟨[], n⟩
        have Hk := hideP hk
        generalize hkd : kindT ⟨[], n⟩ = kd at *
        have Hkd := hideP hkd; clear hkd hk
        go_wp2_with (first | (refine wpList_store_rec rfl 49 _ _ rfl (S + 1) 1 4 3 51 (kv n) (tv ⟨[], n⟩).toArray rfl rfl V2 rfl rfl (by decide) (by kernel_rfl) rfl rfl ?_; intro w3 V3 b3) | (refine wpList_load_all rfl 51 _ rfl (S + 1) 4 51 (tv ⟨[], n⟩) _ rfl V3 rfl Try.underlying51 rfl iN ?_))
        have H3 := b3.heap (by omega) H2
        have R3 := R2.but b3 (by omega)
        have B3 := B2.fresh b3 (by rw [HS.out]; exact Nat.le_succ _)
        clear V2 H2 R2 B2 b2 b3
        refine (hO' _).mono ?_; rintro e w4 ⟨rfl, g4⟩
        have V4 := below_heap g4.below V3
        have H4 := below_heap g4.below H3
        have R4 := R3.below g4.below
        have B4 := B3.below g4.below
        obtain ⟨x4, e4, m4, Q4, q4⟩ := R4.obj
        clear V3 H3 R3 B3 hO hO' g4
        go_wp2_with (first
          | (refine wpList_store_cel rfl 4 _ _ rfl R 3 4 69 (.bool true) #[.slice a l.length c, .int .i64 x4, .int .i64 e4, .bool true] rfl rfl Q4 rfl (by decide) (by kernel_rfl) rfl rfl ?_; intro w6 Q6 B6; have V6 := B6.heap (by omega) V4; have H6 := B6.heap (by omega) H4; clear V4 H4)
          | (refine wpList_load_all rfl 51 _ rfl (S + 1) 4 51 (tv ⟨[], n⟩) _ rfl V6 rfl Try.underlying51 rfl iN ?_)
          | (refine wpList_store_all rfl 51 _ _ rfl S 4 _ 51 (tv ⟨[], n⟩) rfl rfl H6 rfl rfl iN rfl ?_; intro w5 H5 B5))
        refine bodyPost_ret (results_cell (b := S) rfl rfl H5 Try.underlying51 rfl (by kernel_rfl)) rfl ⟨⟨[], n⟩, rfl, Hg.out, ?_, gT _ _ (B4.trans B6) B5⟩
        rw [Hf.out]
        have hb : (kd != 2) = true := by have := Hk.out; simpa using this
        have hm := R4.set B6 (st' := mark (kd != 2) ST) x4 e4 true Q6 (by rw [hb, q4, mark_yes]) (rng_of (pos_mark HP.out) R4.len)
        exact hm.but B5 (by omega)
end Go.Proofs.Ytghhdbkgibpebaa
