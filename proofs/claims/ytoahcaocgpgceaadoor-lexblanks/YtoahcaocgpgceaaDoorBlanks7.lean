/-
  LexBlanks: its walk.
-/
import Derived.Test.YtoahcaocgpgceaaDoorLv
import Derived.Test.YtoahcaocgpgceaaDoorLm3
namespace Go.Proofs.YtoahcaocgpgceaaDoor
open Go.RowKit Go.Lib Go.Shelf

theorem cat_str (l m : List UInt8) : (⟨l.toArray⟩ : ByteArray) ++ ⟨m.toArray⟩ = ⟨(l ++ m).toArray⟩ := by
  apply ByteArray.ext
  simp

set_option maxRecDepth 100000 in
set_option maxHeartbeats 2000000 in
theorem lexBlanks_walk (l : List UInt8) (x : Int) (w : World) (hL : Laid w) (hr : l.length ≤ 140737488351232) (_hx0 : -9223372036854775808 ≤ x) (_hx1 : x ≤ 9223372036854775807) :
    Calls Tryd.prog 7 #[str l, .int .i64 x] w fun e w' => e = .returned (.bool true) ∧ Below w.heap.size w w' := by
  have hsz := str_size l
  have T1 := hideP (ltokens_at l w (by omega) hL)
  have LV := hideP live_at
  obtain ⟨r, hx⟩ : ∃ r, (x.tmod 4 + 4).tmod 4 = r := ⟨_, rfl⟩
  have hb1 : -4 < x.tmod 4 := Int.lt_tmod_of_pos x (by decide)
  have hb2 : x.tmod 4 < 4 := Int.tmod_lt_of_pos x (by decide)
  have hr0 : 0 ≤ r := by rw [← hx]; exact Int.tmod_nonneg _ (by omega)
  have hr1 : r < 4 := by rw [← hx]; exact Int.tmod_lt_of_pos _ (by decide)
  have hcases : r = 0 ∨ r = 1 ∨ r = 2 ∨ r = 3 := by omega
  obtain ⟨m, hI, hm, hbm, hsm⟩ : ∃ m : List UInt8, (∀ W, (Instr.index 38 (.agg #[.string ⟨#[32]⟩, .string ⟨#[10]⟩, .string ⟨#[9, 13]⟩, .string ⟨#[10, 37, 32, 112, 40, 10]⟩]) (.int .i64 r)).run Tryd.prog W = .ok (str m) W) ∧ m.length ≤ 6 ∧ Lx.Behind m ∧ ∀ n, Lx.sk n m = m.length := by
    rcases hcases with rfl | rfl | rfl | rfl
    · exact ⟨[32], fun W => by kernel_rfl, by decide, ⟨fun c hc => by simp at hc; subst hc; decide, .inr (by decide)⟩, fun n => by cases n <;> rfl⟩
    · exact ⟨[10], fun W => by kernel_rfl, by decide, ⟨fun c hc => by simp at hc; subst hc; decide, .inr (by decide)⟩, fun n => by cases n <;> rfl⟩
    · exact ⟨[9, 13], fun W => by kernel_rfl, by decide, ⟨fun c hc => by simp at hc; subst hc; decide, .inr (by decide)⟩, fun n => by cases n <;> rfl⟩
    · exact ⟨[10, 37, 32, 112, 40, 10], fun W => by kernel_rfl, by decide, ⟨fun c hc => by simp at hc; subst hc; decide, .inr (by decide)⟩, fun n => by cases n <;> rfl⟩
  have HB := hideP (fun h => Lx.ans_blank (l := l) hbm hsm h)
  have c0 := cat_str l m
  have hlm : (l ++ m).length = l.length + m.length := List.length_append
  have hszm := str_size m
  have T2 := hideP (fun w hL => ltokens_at (l ++ m) w (by omega) hL)
  have BG1 := hideP (Lx.ans_big (l := l))
  have BG2 := hideP (Lx.ans_big (l := l ++ m))
  generalize hLM : l ++ m = lm at *
  clear hcases hbm hsm
  go_enter Tryd.func7, Tryd.ntmps7
  go_wp2_with fail
  refine T1.out.mono ?_
  rintro e w1 ⟨⟨a1, c1, rfl, r1, _⟩, b1⟩
  have L1 := hL.below b1
  go_wp2_with fail
  refine (T2.out _ L1).mono ?_
  rintro e w2 ⟨⟨a2, c2, rfl, r2, _⟩, b2⟩
  have L2 := L1.below b2
  have B2 := Below.then b1 b2
  rcases Nat.lt_or_ge 4096 l.length with h1 | h1
  · have q1 : (Lx.err (Lx.ans l) == 3) = true := by rw [BG1.out.2 h1]; rfl
    go_wp2_with (first
      | (go_at_call 12; refine (LV.out _ L2).mono ?_; rintro e w4 ⟨rfl, b4⟩))
    go_ret
    exact ⟨rfl, Below.then B2 b4⟩
  · have q1 : (Lx.err (Lx.ans l) == 3) = false := by
      rw [beq_eq_false_iff_ne]; intro h; have := BG1.out.1 h; omega
    rcases Nat.lt_or_ge 4096 lm.length with h2 | h2
    · have q2 : (Lx.err (Lx.ans lm) == 3) = true := by rw [BG2.out.2 h2]; rfl
      go_wp2_with (first
        | (go_at_call 12; refine (LV.out _ L2).mono ?_; rintro e w4 ⟨rfl, b4⟩))
      go_ret
      exact ⟨rfl, Below.then B2 b4⟩
    · have ea := HB.out h2
      rw [ea] at r2 ⊢
      have LK := hideP (like_at a1 a2 c1 c2 _ w2 (r1.row.below b2 (Nat.le_refl _)) r2.row)
      go_wp2_with (first
        | (go_at_call 11; refine LK.out.mono ?_; rintro e w3 ⟨rfl, b3⟩)
        | (go_at_call 12; refine (LV.out _ (L2.below b3)).mono ?_; rintro e w4 ⟨rfl, b4⟩))
      go_ret
      exact ⟨rfl, Below.then B2 (Below.then b3 b4)⟩
end Go.Proofs.YtoahcaocgpgceaaDoor
