/-
  The reference's Like of facts.
-/
import Derived.Test.YtomiefhfkdfgbaaROrd
import Derived.Deep.QuietTactic
import Derived.BigQuiet
namespace Go.Proofs.Ytomiefhfkdfgbaa
open Go.RowKit Go.Sort

/-- are two lists of facts the same? -/
def likeB (l m : List F) : Bool := decide (cL cF l m = 0)
theorem likeB_iff (l m : List F) : likeB l m = true ↔ l = m := by
  unfold likeB; rw [decide_eq_true_eq, cL_zero cF_zero]
theorem likeB_self (l : List F) : likeB l l = true := (likeB_iff l l).2 rfl
theorem likeB_no {l m : List F} (h : l ≠ m) : likeB l m = false := by
  rw [Bool.eq_false_iff]; exact fun h' => h ((likeB_iff l m).1 h')

set_option maxHeartbeats 2000000 in
theorem like_at (a a' : Option Addr) (c c' : Nat) (xs ys : List Fv) (w : World) (hx : Lies w a c xs) (hy : Lies w a' c' ys) (ax : ∀ x ∈ xs, Fv.At w x) (ay : ∀ y ∈ ys, Fv.At w y) :
    Calls Try.prog 18 #[.slice a xs.length c, .slice a' ys.length c'] w fun e w' => e = .returned (.bool (likeB (xs.map Fv.f) (ys.map Fv.f))) ∧ Grew w w' := by
  have mixed : Try.prog.follows .mixedOrders = true := by kernel_rfl
  have hC := fun (p q : Fv) (W : World) (hp : Fv.At W p) (hq : Fv.At W q) => reforder_at p q W hp hq
  have b1 := hx.few; have b2 := hy.few
  by_cases hl : xs.length = ys.length
  rotate_left
  · have q0 : ((xs.length : Int) != (ys.length : Int)) = true := by simp; omega
    have hno : likeB (xs.map Fv.f) (ys.map Fv.f) = false := likeB_no fun h => hl (by have := congrArg List.length h; simpa using this)
    rw [hno]
    go_enter Try.func18, Try.ntmps18
    go_wp2_with fail
    go_ret
    exact ⟨rfl, Grew.refl _⟩
  · have q0 : ((xs.length : Int) != (ys.length : Int)) = false := by simp; omega
    have Hl := hideP hl; clear hl
    go_enter Try.func18, Try.ntmps18
    go_wp2_with fail
    go_loopw [5] (fun v wr => ∃ k : Nat, v = .int .i64 (k : Int) ∧ k ≤ xs.length ∧ Hid (∀ j (h1 : j < xs.length) (h2 : j < ys.length), j < k → xs[j].f = ys[j].f) ∧ Grew w wr) (fun v _ => xs.length - (intOf v).toNat)
    case atStart => exact ⟨0, rfl, by omega, fun j _ _ h => absurd h (by omega), Grew.refl _⟩
    case round =>
      obtain ⟨k, rfl, hk, hev, hg⟩ := hrel
      by_cases hlt : k < xs.length
      · have q2 : (k : Int) < (xs.length : Int) := by omega
        have hlt' : k < ys.length := by have := Hl.out; omega
        have q3 : (k : Int) < (ys.length : Int) := by omega
        obtain ⟨P1, O1, rfl⟩ := hx.addr (Nat.lt_of_le_of_lt (Nat.zero_le _) hlt)
        obtain ⟨P2, O2, rfl⟩ := hy.addr (Nat.lt_of_le_of_lt (Nat.zero_le _) hlt')
        obtain ⟨a1, a2, a3, a4⟩ := (hx.below hg.below (Nat.le_refl _)).get k hlt
        obtain ⟨d1, d2, d3, d4⟩ := (hy.below hg.below (Nat.le_refl _)).get k hlt'
        have hn := fun n os => hC (xs[k]'hlt) (ys[k]'hlt') (grow (wr.drewN n) os) ((ax _ (List.getElem_mem hlt)).grew (hg.trans (Grew.grow _ _ _))) ((ay _ (List.getElem_mem hlt')).grew (hg.trans (Grew.grow _ _ _)))
        have hev' : Hid (cF (xs[k]'hlt).f (ys[k]'hlt').f = 0 → ∀ j (h1 : j < xs.length) (h2 : j < ys.length), j < k + 1 → xs[j].f = ys[j].f) := fun h j h1 h2 hj => by
          by_cases e : j = k
          · subst e; exact (cF_zero _ _).1 h
          · exact hev.out j h1 h2 (by omega)
        have hno : Hid (cF (xs[k]'hlt).f (ys[k]'hlt').f ≠ 0 → likeB (xs.map Fv.f) (ys.map Fv.f) = false) := fun h => likeB_no fun he => h (by
          rw [cF_zero]
          have h1 : (xs.map Fv.f)[k]'(by simpa using hlt) = (ys.map Fv.f)[k]'(by simpa using hlt') := by simp only [he]
          simpa using h1)
        generalize (xs[k]'hlt) = p at *
        generalize (ys[k]'hlt') = q at *
        have A1 := fun n os => cell_grown (cell_block a1) a1 n os
        have A2 := fun n os => cell_grown (cell_block a2) a2 n os
        have A3 := fun n os => cell_grown (cell_block a3) a3 n os
        have A4 := fun n os => cell_grown (cell_block a4) a4 n os
        have D1 := fun n os => cell_grown (cell_block d1) d1 n os
        have D2 := fun n os => cell_grown (cell_block d2) d2 n os
        have D3 := fun n os => cell_grown (cell_block d3) d3 n os
        have D4 := fun n os => cell_grown (cell_block d4) d4 n os
        clear hC a1 a2 a3 a4 d1 d2 d3 d4 ax ay
        by_cases hr : cF p.f q.f = 0
        · have hev'' := hideP (hev'.out hr)
          simp only [hr] at hn
          go_wp2_with fail
          go_quiet_grown (first | (go_at_call 40; refine Calls.grown_of (hn _ _)))
          go_wp2_with fail
          exact ⟨⟨k + 1, by simp, by omega, hev'', hg.trans (Grew.grow _ _ _)⟩, by simp [intOf]; omega⟩
        · have hno' := hideP (hno.out hr)
          generalize cF p.f q.f = r at hn hr
          go_wp2_with fail
          go_quiet_grown (first | (go_at_call 40; refine Calls.grown_of (hn _ _)))
          go_wp2_with fail
          go_ret
          exact ⟨ret_bool hno'.out.symm, hg.trans (Grew.grow _ _ _)⟩
      · have q2 : ¬ (k : Int) < (xs.length : Int) := by omega
        have hyes : Hid (likeB (xs.map Fv.f) (ys.map Fv.f) = true) := (likeB_iff _ _).2 (List.ext_getElem (by simpa using Hl.out) fun j h1 h2 => by
          simp only [List.getElem_map]
          exact hev.out j (by simpa using h1) (by simpa using h2) (by simp at h1; omega))
        go_wp2_with fail
        go_ret
        exact ⟨ret_bool hyes.out.symm, hg⟩


end Go.Proofs.Ytomiefhfkdfgbaa
