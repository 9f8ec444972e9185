/-
  Which terms and rules may be laid: what the reference answers.
-/
import Derived.Test.YtghhdbkgibpebaaSa3
import Derived.Test.YtghhdbkgibpebaaChk
import Derived.Deep.Cut
namespace Go.Proofs.Ytghhdbkgibpebaa
open Go.RowKit Go.Sort

def noneB (t : Tm) : Bool := t.v.isEmpty && zeroK t.k
theorem same_none (t : Tm) : sameT t ⟨[], ⟨false, 0, []⟩⟩ = noneB t := by
  rw [Bool.eq_iff_iff, sameT_iff]
  obtain ⟨v, k⟩ := t
  simp [noneB, zeroK_iff, k0]
theorem eq_none (t : Tm) (W : World) : (Op.equalIn 10000 51 (tval t) (.agg #[.string { data := #[] }, .bool false, .int .i64 0, .string { data := #[] }])).run Try.prog W = .ok (noneB t) W := by
  have := eqTerm t ⟨[], ⟨false, 0, []⟩⟩ W
  rw [same_none] at this
  exact this
theorem same_zero (k : K) : sameK k ⟨false, 0, []⟩ = zeroK k := by
  obtain ⟨a, b, c⟩ := k
  rw [Bool.eq_iff_iff]; simp [sameK, zeroK, and_assoc]
theorem eq_zero (k : K) (W : World) : (Op.equalIn 10000 49 (kval k) (.agg #[.bool false, .int .i64 0, .string { data := #[] }])).run Try.prog W = .ok (zeroK k) W := by
  have := eqConst k ⟨false, 0, []⟩ 9998 W
  rw [same_zero] at this
  exact this

theorem rnone_at (t : Tm) (w : World) : Calls Try.prog 107 #[tval t] w fun e w' => e = .returned (.bool (noneB t)) ∧ Grew w w' := by
  have hq := eq_none t
  obtain ⟨v, ⟨a, b, c⟩⟩ := t
  go_enter Try.func107, Try.ntmps107
  go_wp2_with fail
  go_ret
  exact ⟨rfl, (Grew.refl _).allocs _⟩

set_option maxHeartbeats 1000000 in
theorem rterm_at (t : Tm) (w : World) : Calls Try.prog 81 #[tval t] w fun e w' => e = .returned (.bool (mayT t)) ∧ Grew w w' := by
  have hN := fun W => rnone_at t W
  have hF := fun W => text_at t.v W
  have hG := fun W => refgood_at t.k W
  have hz := eq_zero t.k
  have hm : mayT t = bif t.v.isEmpty then noneB t || goodB t.k else fitsB t.v && zeroK t.k := by
    unfold mayT noneB; cases t.v.isEmpty <;> simp
  rw [hm]; clear hm
  obtain ⟨v, ⟨a, b, c⟩⟩ := t
  simp only at hF hG hz ⊢
  generalize noneB ⟨v, ⟨a, b, c⟩⟩ = m at *
  generalize goodB ⟨a, b, c⟩ = g at *
  generalize zeroK ⟨a, b, c⟩ = z at *
  generalize fitsB v = f at *
  have G0 := (Grew.refl w).allocs (.cells #[str v, .bool a, .int .i64 b, str c] 51)
  have H0 := heap_alloc_new w (.cells #[str v, .bool a, .int .i64 b, str c] 51)
  cases v with
  | nil =>
    go_enter Try.func81, Try.ntmps81
    go_wp2_with fail
    refine (hN _).mono ?_; rintro e w1 ⟨rfl, g1⟩
    have J1 := below_heap g1.below H0
    have d1 := heap_cell J1 1; have d2 := heap_cell J1 2; have d3 := heap_cell J1 3
    simp at d1 d2 d3
    cases m
    · go_wp2_with fail
      refine (hG _).mono ?_; rintro e w2 ⟨rfl, g2⟩
      go_wp2_with fail
      go_ret
      exact ⟨ret_bool (by simp), (G0.trans g1).trans g2⟩
    · go_wp2_with fail
      go_ret
      exact ⟨ret_bool (by simp), G0.trans g1⟩
  | cons x v =>
    go_enter Try.func81, Try.ntmps81
    go_wp2_with fail
    refine (hF _).mono ?_; rintro e w1 ⟨rfl, rfl⟩
    cases f
    · go_wp2_with fail
      go_ret
      exact ⟨ret_bool (by simp), G0⟩
    · go_wp2_with fail
      go_ret
      exact ⟨ret_bool (by simp), G0⟩

set_option maxHeartbeats 2000000 in
theorem rtermsok_at (a : Option Addr) (c : Nat) (xs : List Tm) (w : World) (hx : Row tK w a c xs) :
    Calls Try.prog 82 #[.slice a xs.length c] w fun e w' => e = .returned (.bool (decide (xs.length ≤ 48) && xs.all mayT)) ∧ Grew w w' := by
  have b1 := hx.few
  have hC := fun t W => rterm_at t W
  by_cases hl : (48 : Int) < (xs.length : Int)
  · have e1 : decide (xs.length ≤ 48) = false := by rw [decide_eq_false_iff_not]; omega
    rw [e1]
    go_enter Try.func82, Try.ntmps82
    go_wp2_with fail
    go_ret
    exact ⟨rfl, Grew.refl _⟩
  · have e1 : decide (xs.length ≤ 48) = true := by rw [decide_eq_true_eq]; omega
    rw [e1]
    go_enter Try.func82, Try.ntmps82
    go_wp2_with fail
    go_loopw [3] (fun v wr => ∃ k : Nat, v = .int .i64 (k : Int) ∧ k ≤ xs.length ∧ Hid (∀ j (h1 : j < xs.length), j < k → mayT xs[j] = true) ∧ Grew w wr) (fun v _ => xs.length - (intOf v).toNat)
    case atStart => exact ⟨0, rfl, by omega, fun j _ h => absurd h (by omega), Grew.refl _⟩
    case round =>
      obtain ⟨k, rfl, hk, hev, hg⟩ := hrel
      by_cases hlt : k < xs.length
      · have q2 : (k : Int) < (xs.length : Int) := by omega
        obtain ⟨P1, O1, rfl⟩ := hx.addr (Nat.lt_of_le_of_lt (Nat.zero_le _) hlt)
        have r1 := (hx.below hg.below (Nat.le_refl _)).range k hlt
        have hev' : Hid (mayT (xs[k]'hlt) = true → ∀ j (h1 : j < xs.length), j < k + 1 → mayT xs[j] = true) := fun h j h1 hj => by
          by_cases e : j = k
          · subst e; exact h
          · exact hev.out j h1 (by omega)
        have hno : Hid (mayT (xs[k]'hlt) = false → xs.all mayT = false) := fun h => by
          rw [List.all_eq_false]; exact ⟨_, List.getElem_mem hlt, by rw [h]; simp⟩
        have hC' := hC (xs[k]'hlt)
        generalize (xs[k]'hlt) = p at *
        obtain ⟨v, ⟨A, B, C⟩⟩ := p
        have a1 := r1 0 _ rfl; have a2 := r1 1 _ rfl; have a3 := r1 2 _ rfl; have a4 := r1 3 _ rfl
        change wr.cell? ⟨P1, O1 + k * 4, none⟩ = _ at a1
        change wr.cell? ⟨P1, O1 + k * 4 + 1, none⟩ = _ at a2
        change wr.cell? ⟨P1, O1 + k * 4 + 2, none⟩ = _ at a3
        change wr.cell? ⟨P1, O1 + k * 4 + 3, none⟩ = _ at a4
        cases hs : mayT ⟨v, ⟨A, B, C⟩⟩
        · have hno' := hideP (hno.out hs)
          rw [hs] at hC'
          go_wp2_with fail
          refine (hC' _).mono ?_; rintro e w2 ⟨rfl, g2⟩
          go_wp2_with fail
          go_ret
          exact ⟨ret_bool (by rw [hno'.out]; rfl), hg.trans g2⟩
        · have hev'' := hideP (hev'.out hs)
          rw [hs] at hC'
          go_wp2_with fail
          refine (hC' _).mono ?_; rintro e w2 ⟨rfl, g2⟩
          go_wp2_with fail
          exact ⟨⟨k + 1, by simp, by omega, hev'', hg.trans g2⟩, by simp [intOf]; omega⟩
      · have q2 : ¬ (k : Int) < (xs.length : Int) := by omega
        have hyes : Hid (xs.all mayT = true) := List.all_eq_true.2 fun x hx => by
          obtain ⟨j, hj, rfl⟩ := List.getElem_of_mem hx
          exact hev.out j hj (by omega)
        go_wp2_with fail
        go_ret
        exact ⟨ret_bool (by rw [hyes.out]), hg⟩
end Go.Proofs.Ytghhdbkgibpebaa
