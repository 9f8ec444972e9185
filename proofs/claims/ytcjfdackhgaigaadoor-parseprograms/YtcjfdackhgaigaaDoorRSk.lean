/-
  The reference's Skip: where it ends.
-/
import Derived.Test.YtcjfdackhgaigaaDoorEo
namespace Go.Proofs.YtcjfdackhgaigaaDoor
open Go.RowKit Go.Lib Go.Shelf

set_option maxRecDepth 100000 in
set_option maxHeartbeats 2000000 in
theorem rskip_at (l : List UInt8) (i : Nat) (w : World) (hr : l.length ≤ 281474976710656) (hi : i ≤ l.length) :
    Calls Tryd.prog 21 #[str l, .int .i64 (i : Int)] w fun e w' => e = .returned (.int .i64 (Lx.skip l i : Int)) ∧ w = w' := by
  have hsz := str_size l
  go_enter Tryd.func21, Tryd.ntmps21
  go_wp2_with fail
  go_loop [1, 5] (fun x y => ∃ (k : Nat) (n : Bool), x = .int .i64 (k : Int) ∧ y = .bool n ∧ k ≤ l.length ∧ Lx.skip l i = Lx.skipN n l k) (fun x _ => l.length - (intOf x).toNat)
  case atStart => exact ⟨i, false, rfl, rfl, hi, rfl⟩
  case round =>
    obtain ⟨k, n, rfl, rfl, hk, he⟩ := hrel
    have HE := hideP he
    clear he
    rcases Nat.lt_or_ge k l.length with hlt | hge
    · have hlt' : (k : Int) < (l.length : Int) := by omega
      have S1 := hideP (fun h h' => Lx.skipN_stop (n := n) (l := l) (i := k) hlt h h')
      have S2 := hideP (fun h => Lx.skipN_step (n := n) (l := l) (i := k) hlt h)
      generalize hc : l[k] = c at *
      have hb : Lx.blank c = (decide (c.toNat = 32) || decide (c.toNat = 9) || decide (c.toNat = 10) || decide (c.toNat = 13)) := rfl
      have hn : Lx.note n c = if c.toNat = 37 then true else if c.toNat = 10 then false else n := rfl
      generalize Lx.blank c = b at *
      generalize Lx.note n c = m at *
      have hg : ∀ h, ((⟨l.toArray⟩ : ByteArray)[k]'h).toNat = c.toNat := fun _ => by rw [← hc]; rfl
      generalize hx : c.toNat = x at *
      have HB := hideP hb
      have HN := hideP hn
      clear hb hn
      go_wp2_with fail
      all_goals simp only [hg, beq_iff_eq, beq_eq_false_iff_ne, bne_iff_ne, bne_eq_false_iff_eq, Bool.not_eq_true, ne_eq] at *
      all_goals first
        | (have em : m = true := by rw [HN.out]; (repeat' split) <;> first | rfl | assumption | (exfalso; omega)
           refine ⟨⟨k + 1, true, by go_num, rfl, by omega, ?_⟩, by simp [intOf]; omega⟩
           rw [HE.out, S2.out (by rw [em]; simp), em])
        | (have em : m = false := by rw [HN.out]; (repeat' split) <;> first | rfl | assumption | (exfalso; omega)
           refine ⟨⟨k + 1, false, by go_num, rfl, by omega, ?_⟩, by simp [intOf]; omega⟩
           rw [HE.out, S2.out (by rw [HB.out]; simp; omega), em])
        | (have em : m = false := by rw [HN.out]; (repeat' split) <;> first | rfl | assumption | (exfalso; omega)
           go_ret
           refine ⟨?_, rfl⟩
           rw [HE.out, S1.out em (by rw [HB.out]; simp; omega)]; rfl)
    · have hge' : ¬ (k : Int) < (l.length : Int) := by omega
      go_wp2_with fail
      go_ret
      refine ⟨?_, rfl⟩
      rw [HE.out, Lx.skipN_end hge]; rfl
end Go.Proofs.YtcjfdackhgaigaaDoor
