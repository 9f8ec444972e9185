/-
  What the reference's reader does: texts, numbers, counts, kinds, constants.
-/
import Derived.Test.YtghhdbkgibpebaaRd4
namespace Go.Proofs.Ytghhdbkgibpebaa
open Go.RowKit Go.Sort

set_option maxRecDepth 100000 in
set_option maxHeartbeats 2000000 in
theorem rtext_r (R : Nat) (a : Option Addr) (c : Nat) (l : List UInt8) (st : St) (w : World) (h : Rd 73 w R a c l st) :
    Calls Try.prog 36 #[ptr R] w fun e w' => ∃ s, e = .returned (str s) ∧ (∀ v, Got (pText l) st v → s = v) ∧ Rd 73 w' R a c l (stp (pText l) noF st) ∧ But R w w' := by
  have mixed : Try.prog.follows .mixedOrders = true := by kernel_rfl
  obtain ⟨x, er, g, H, hst⟩ := h.obj
  have b0 := heap_cell H 0; have b1 := heap_cell H 1; have b2 := heap_cell H 2
  simp at b0 b1 b2
  by_cases he : er = 0
  · subst he
    obtain rfl : st = .ok (x, g) := hst
    have hr := h.rng x g rfl
    have hT := fun n => rtext_any a c l x (w.drewN n) (h.holds.below (Grew.drewN w n).below) h.len hr.1 hr.2
    have hS := st_text l x g
    have hG : ∀ v, Got (pText l) (.ok (x, g)) v → (Pm.tx l x).1 = v := fun v hv => by
      obtain ⟨j, hj⟩ := got_ok hv
      rw [pText_inv hj]
    have hG0 : (Pm.tx l x).2.2 ≠ 0 → ∀ v, ¬ Got (pText l) (.ok (x, g)) v := fun hn v hv => by
      obtain ⟨j, hj⟩ := got_ok hv
      rw [pText_inv hj] at hn; exact hn rfl
    have hP := rng_of (pos_text l (.ok (x, g))) h.len
    rw [hS] at hP ⊢
    generalize Pm.tx l x = r at *
    obtain ⟨s, j, e⟩ := r
    simp only [textOf] at hT hG hG0 hP ⊢
    have HG := hideP hG; have HG0 := hideP hG0; have HP := hideP hP; clear hG hG0 hP hS
    by_cases he0 : e = 0
    · subst he0
      go_enter Try.func36, Try.ntmps36
      go_wp2_with fail
      go_quiet (first | (go_at_call 68; refine (hT _).mono fun _ _ hh => ⟨hh.1, _, hh.2.symm⟩))
      have hb1 := (Grew.drewN w nq).below
      have H1 := below_heap hb1 H
      have h1 := h.below hb1
      clear b0 b1 b2 hT H
      go_wp2_with (refine wpList_store_cel rfl 3 _ _ rfl R 1 4 73 (.int .i64 j) #[.slice a l.length c, .int .i64 j, .int .i64 0, .bool g] rfl rfl H1 rfl (by decide) (by kernel_rfl) rfl rfl ?_; intro w2 H2 B2)
      go_ret
      exact ⟨s, rfl, HG.out, h1.set B2 j 0 g H2 rfl HP.out, (But.of_below hb1).trans B2⟩
    · have hq0 : (e != 0) = true := by simpa using he0
      have Hs : Hid (stOf j e g = .error e) := by show _ = _; unfold stOf; rw [if_neg he0]
      have HG1 := hideP (HG0.out he0)
      clear he0 HG HG0 HP
      go_enter Try.func36, Try.ntmps36
      go_wp2_with fail
      go_quiet (first | (go_at_call 68; refine (hT _).mono fun _ _ hh => ⟨hh.1, _, hh.2.symm⟩))
      have hb1 := (Grew.drewN w nq).below
      have H1 := below_heap hb1 H
      have h1 := h.below hb1
      clear b0 b1 b2 hT H
      go_wp2_with (refine wpList_store_cel rfl 30 _ _ rfl R 2 4 73 (.int .i64 e) #[.slice a l.length c, .int .i64 x, .int .i64 e, .bool g] rfl rfl H1 rfl (by decide) (by kernel_rfl) rfl rfl ?_; intro w2 H2 B2)
      go_ret
      refine ⟨[], rfl, fun v hv => (HG1.out v hv).elim, ?_, (But.of_below hb1).trans B2⟩
      have e1 : stOf j e g = stOf x e g := by rw [Hs.out]; have := Hs.out; unfold stOf at this ⊢; split at this <;> simp_all
      exact h1.set B2 x e g H2 e1 (fun y g' hy => by rw [Hs.out] at hy; cases hy)
  · have hq : (er != 0) = true := by simpa using he
    have hs : st = .error er := by rw [hst]; unfold stOf; rw [if_neg he]
    have hk := h
    subst hs
    clear he hst
    go_enter Try.func36, Try.ntmps36
    go_wp2_with fail
    go_ret
    exact ⟨[], rfl, fun v hv => (got_err hv).elim, hk, But.refl _ _⟩

set_option maxRecDepth 100000 in
set_option maxHeartbeats 2000000 in
theorem rnumber_r (R : Nat) (a : Option Addr) (c : Nat) (l : List UInt8) (st : St) (w : World) (h : Rd 73 w R a c l st) :
    Calls Try.prog 69 #[ptr R] w fun e w' => ∃ s : Int, e = .returned (.int .i64 s) ∧ (∀ v, Got (pInt l) st v → s = v) ∧ Rd 73 w' R a c l (stp (pInt l) noF st) ∧ But R w w' := by
  have mixed : Try.prog.follows .mixedOrders = true := by kernel_rfl
  obtain ⟨x, er, g, H, hst⟩ := h.obj
  have b0 := heap_cell H 0; have b1 := heap_cell H 1; have b2 := heap_cell H 2
  simp at b0 b1 b2
  by_cases he : er = 0
  · subst he
    obtain rfl : st = .ok (x, g) := hst
    have hr := h.rng x g rfl
    have hT := fun n => rint_any a c l x (w.drewN n) (h.holds.below (Grew.drewN w n).below) (Nat.le_trans h.len (by unfold maxLen; omega)) hr.1 hr.2
    have hS := st_int l x g
    have hG : ∀ v, Got (pInt l) (.ok (x, g)) v → (Pm.rd l x).1 = v := fun v hv => by
      obtain ⟨j, hj⟩ := got_ok hv
      rw [pInt_inv hj]
    have hG0 : (Pm.rd l x).2.2 ≠ 0 → ∀ v, ¬ Got (pInt l) (.ok (x, g)) v := fun hn v hv => by
      obtain ⟨j, hj⟩ := got_ok hv
      rw [pInt_inv hj] at hn; exact hn rfl
    have hP := rng_of (pos_int l (.ok (x, g))) h.len
    rw [hS] at hP ⊢
    generalize Pm.rd l x = r at *
    obtain ⟨s, j, e⟩ := r
    simp only [three] at hT hG hG0 hP ⊢
    have HG := hideP hG; have HG0 := hideP hG0; have HP := hideP hP; clear hG hG0 hP hS
    by_cases he0 : e = 0
    · subst he0
      go_enter Try.func69, Try.ntmps69
      go_wp2_with fail
      go_quiet (first | (go_at_call 100; refine (hT _).mono fun _ _ hh => ⟨hh.1, _, hh.2.symm⟩))
      have hb1 := (Grew.drewN w nq).below
      have H1 := below_heap hb1 H
      have h1 := h.below hb1
      clear b0 b1 b2 hT H
      go_wp2_with (refine wpList_store_cel rfl 3 _ _ rfl R 1 4 73 (.int .i64 j) #[.slice a l.length c, .int .i64 j, .int .i64 0, .bool g] rfl rfl H1 rfl (by decide) (by kernel_rfl) rfl rfl ?_; intro w2 H2 B2)
      go_ret
      exact ⟨s, rfl, HG.out, h1.set B2 j 0 g H2 rfl HP.out, (But.of_below hb1).trans B2⟩
    · have hq0 : (e != 0) = true := by simpa using he0
      have Hs : Hid (stOf j e g = .error e) := by show _ = _; unfold stOf; rw [if_neg he0]
      have HG1 := hideP (HG0.out he0)
      clear he0 HG HG0 HP
      go_enter Try.func69, Try.ntmps69
      go_wp2_with fail
      go_quiet (first | (go_at_call 100; refine (hT _).mono fun _ _ hh => ⟨hh.1, _, hh.2.symm⟩))
      have hb1 := (Grew.drewN w nq).below
      have H1 := below_heap hb1 H
      have h1 := h.below hb1
      clear b0 b1 b2 hT H
      go_wp2_with (refine wpList_store_cel rfl 30 _ _ rfl R 2 4 73 (.int .i64 e) #[.slice a l.length c, .int .i64 x, .int .i64 e, .bool g] rfl rfl H1 rfl (by decide) (by kernel_rfl) rfl rfl ?_; intro w2 H2 B2)
      go_ret
      refine ⟨0, rfl, fun v hv => (HG1.out v hv).elim, ?_, (But.of_below hb1).trans B2⟩
      have e1 : stOf j e g = stOf x e g := by rw [Hs.out]; have := Hs.out; unfold stOf at this ⊢; split at this <;> simp_all
      exact h1.set B2 x e g H2 e1 (fun y g' hy => by rw [Hs.out] at hy; cases hy)
  · have hq : (er != 0) = true := by simpa using he
    have hs : st = .error er := by rw [hst]; unfold stOf; rw [if_neg he]
    have hk := h
    subst hs
    clear he hst
    go_enter Try.func69, Try.ntmps69
    go_wp2_with fail
    go_ret
    exact ⟨0, rfl, fun v hv => (got_err hv).elim, hk, But.refl _ _⟩

theorem pCount_int (l : List UInt8) (m x : Int) : pCount l m x = match pInt l x with | .error e => .error e | .ok (n, j) => if n < 0 ∨ m < n then .error 11 else .ok (n, j) := by
  unfold pCount pInt Pm.ct
  by_cases h : (Pm.rd l x).2.2 = 0
  · rw [if_pos h]
    simp only [h, not_true, if_false]
    by_cases hn : (Pm.rd l x).1 < 0 ∨ m < (Pm.rd l x).1
    · simp [hn]
    · simp [hn]
  · rw [if_neg h]; simp [h]
theorem count_err {l : List UInt8} {m : Int} {st : St} {e : Int} (h : stp (pInt l) noF st = .error e) : stp (pCount l m) noF st = .error e := by
  rcases st with e' | ⟨x, g⟩
  · exact h
  · cases hp : pInt l x with
    | error e' => rw [stp_no hp] at h; rw [stp_no (p := pCount l m) (by rw [pCount_int, hp])]; exact h
    | ok r => obtain ⟨n, j⟩ := r; rw [stp_ok hp] at h; cases h
theorem count_ok {l : List UInt8} {m : Int} {st : St} {n : Int} {s : Int} (h : Got (pInt l) st n) (hs : s = n) : (s < 0 ∨ m < s → stp (pCount l m) noF st = .error 11 ∧ ∀ v, ¬ Got (pCount l m) st v) ∧ (¬ (s < 0 ∨ m < s) → stp (pCount l m) noF st = stp (pInt l) noF st ∧ ∀ v, Got (pCount l m) st v → s = v) := by
  subst hs
  obtain ⟨x, g, j, rfl, hp⟩ := h
  constructor
  · intro hn
    have : pCount l m x = .error 11 := by rw [pCount_int, hp]; simp [hn]
    refine ⟨stp_no this, fun v hv => ?_⟩
    obtain ⟨i, hi⟩ := got_ok hv
    rw [this] at hi; cases hi
  · intro hn
    have : pCount l m x = .ok (s, j) := by rw [pCount_int, hp]; simp [hn]
    refine ⟨by rw [stp_ok this, stp_ok hp], fun v hv => ?_⟩
    obtain ⟨i, hi⟩ := got_ok hv
    rw [this] at hi; cases hi; rfl

set_option maxRecDepth 100000 in
set_option maxHeartbeats 2000000 in
theorem rcount_r (m : Int) (R : Nat) (a : Option Addr) (c : Nat) (l : List UInt8) (st : St) (w : World) (h : Rd 73 w R a c l st) :
    Calls Try.prog 37 #[ptr R, .int .i64 m] w fun e w' => ∃ s : Int, e = .returned (.int .i64 s) ∧ ((∀ v, Got (pCount l m) st v → s = v) ∧ ((∀ v, ¬ Got (pCount l m) st v) → s = 0)) ∧ Rd 73 w' R a c l (stp (pCount l m) noF st) ∧ But R w w' := by
  have hN := rnumber_r R a c l st w h
  go_enter Try.func37, Try.ntmps37
  go_wp2_with fail
  refine hN.mono ?_; rintro e w1 ⟨s, rfl, hs, R1, b1⟩
  obtain ⟨x, er, g, H, hst⟩ := R1.obj
  have d2 : w1.cell? ⟨R, 2, none⟩ = some (.int .i64 er) := by rw [heap_cell H]; rfl
  by_cases he : er = 0
  · subst he
    rcases got_em (pInt l) st with ⟨n, hn⟩ | ⟨_, e, hn⟩
    · have hk := count_ok (m := m) hn (hs n hn)
      have Hk := hideP hk
      have Hst := hideP hst
      clear hs hn hst hk hN
      by_cases h0 : s < 0
      · have hq := Hk.out.1 (.inl h0)
        have Hq := hideP hq; clear hq Hk
        go_wp2_with (refine wpList_store_cel rfl 30 _ _ rfl R 2 4 73 (.int .i64 11) #[.slice a l.length c, .int .i64 x, .int .i64 11, .bool g] rfl rfl H rfl (by decide) (by kernel_rfl) rfl rfl ?_; intro w2 H2 B2)
        go_ret
        refine ⟨0, rfl, ⟨fun v hv => (Hq.out.2 v hv).elim, fun _ => rfl⟩, ?_, b1.trans B2⟩
        rw [Hq.out.1]
        exact R1.set B2 x 11 g H2 rfl (fun _ _ h => by cases h)
      · by_cases h1 : m < s
        · have hq := Hk.out.1 (.inr h1)
          have Hq := hideP hq; clear hq Hk
          go_wp2_with (refine wpList_store_cel rfl 30 _ _ rfl R 2 4 73 (.int .i64 11) #[.slice a l.length c, .int .i64 x, .int .i64 11, .bool g] rfl rfl H rfl (by decide) (by kernel_rfl) rfl rfl ?_; intro w2 H2 B2)
          go_ret
          refine ⟨0, rfl, ⟨fun v hv => (Hq.out.2 v hv).elim, fun _ => rfl⟩, ?_, b1.trans B2⟩
          rw [Hq.out.1]
          exact R1.set B2 x 11 g H2 rfl (fun _ _ h => by cases h)
        · have hq := Hk.out.2 (by omega)
          have Hq := hideP hq; clear hq Hk
          go_wp2_with fail
          go_ret
          refine ⟨s, rfl, ⟨Hq.out.2, fun hn => ?_⟩, by rw [Hq.out.1]; exact R1, b1⟩
          exfalso
          have h1 := Hq.out.1
          rw [Hst.out] at h1
          unfold stOf at h1; rw [if_pos rfl] at h1
          rcases got_em (pCount l m) st with ⟨v, hv⟩ | ⟨_, e, hne⟩
          · exact hn v hv
          · rw [hne] at h1; cases h1
    · exfalso
      rw [hn, stOf, if_pos rfl] at hst; cases hst
  · have hq : (er != 0) = true := by simpa using he
    have hse : stp (pInt l) noF st = .error er := by rw [hst]; unfold stOf; rw [if_neg he]
    have Hc := hideP (count_err (m := m) hse)
    have Hse := hideP hse
    clear hs hst he hse hN
    go_wp2_with fail
    go_ret
    refine ⟨0, rfl, ⟨fun v hv => (got_no Hc.out hv).elim, fun _ => rfl⟩, ?_, b1⟩
    rw [Hc.out, ← Hse.out]; exact R1
end Go.Proofs.Ytghhdbkgibpebaa
