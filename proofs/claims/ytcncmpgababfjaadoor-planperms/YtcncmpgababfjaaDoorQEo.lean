/-
  The program's endOf, skip; the reference's Skip: where they end.
-/
import Derived.Test.YtcncmpgababfjaaDoorQCh
import Derived.WalkMore
import Derived.Shelf.Abstract
namespace Go.Proofs.YtcncmpgababfjaaDoor
open Go.RowKit Go.Lib Go.Shelf


set_option maxRecDepth 100000 in
set_option maxHeartbeats 1000000 in
theorem endOf_at (F : Nat) (p : UInt8 → Bool) (hp : ∀ (c : UInt8) w, Calls Tryd.prog F #[.int .u8 (c.toNat : Int)] w fun e w' => e = .returned (.bool (p c)) ∧ w = w') (l : List UInt8) (i : Nat) (w : World) (hE : ∀ args w, (callFunc F args).run Tryd.prog w = .ok (.enter F args) w) (hr : l.length ≤ 281474976710656) (hi : i ≤ l.length) :
    Calls Tryd.prog 27 #[str l, .int .i64 (i : Int), .func (.func F) #[] #[]] w fun e w' => e = .returned (.int .i64 (Lx.run p l i : Int)) ∧ w = w' := by
  have HP := hideP hp
  clear hp
  have hsz := str_size l
  go_enter Tryd.func27, Tryd.ntmps27
  go_wp2_with fail
  go_loop [1] (fun x => ∃ k : Nat, x = .int .i64 (k : Int) ∧ k ≤ l.length ∧ Lx.run p l i = Lx.run p l k) (fun x => l.length - (RowKit.intOf x).toNat)
  case atStart => exact ⟨i, rfl, hi, rfl⟩
  case round =>
    obtain ⟨k, rfl, hk, he⟩ := hrel
    have HE := hideP he
    clear he
    rcases Nat.lt_or_ge k l.length with hlt | hge
    · have hlt' : (k : Int) < (l.length : Int) := by omega
      have D := hideP (HP.out l[k])
      have S1 := hideP (fun h => Lx.run_step (p := p) (l := l) (i := k) hlt h)
      have S2 := hideP (fun h => Lx.run_stop (p := p) (l := l) (i := k) hlt h)
      generalize p l[k] = b at *
      go_wp2_with (refine (D.out _).mono ?_; rintro e w1 ⟨rfl, rfl⟩)
      · refine ⟨⟨k + 1, by go_num, by omega, ?_⟩, by simp [RowKit.intOf]; omega⟩
        rw [HE.out, S1.out (by assumption)]
      · go_ret
        refine ⟨?_, rfl⟩
        rw [HE.out, S2.out (by simp_all)]; rfl
    · have hge' : ¬ (k : Int) < (l.length : Int) := by omega
      go_wp2_with fail
      go_ret
      refine ⟨?_, rfl⟩
      rw [HE.out, Lx.run_end hge]; rfl

theorem enter_skip1 (args : Array Value) (w : World) : (callFunc 28 args).run Tryd.prog w = .ok (.enter 28 args) w := enters_of Tryd.func28 (by kernel_rfl) rfl args w
theorem enter_word1 (args : Array Value) (w : World) : (callFunc 44 args).run Tryd.prog w = .ok (.enter 44 args) w := enters_of Tryd.func44 (by kernel_rfl) rfl args w
theorem enter_quot1 (args : Array Value) (w : World) : (callFunc 47 args).run Tryd.prog w = .ok (.enter 47 args) w := enters_of Tryd.func47 (by kernel_rfl) rfl args w
theorem enter_digit (args : Array Value) (w : World) : (callFunc 32 args).run Tryd.prog w = .ok (.enter 32 args) w := enters_of Tryd.func32 (by kernel_rfl) rfl args w

set_option maxRecDepth 100000 in
set_option maxHeartbeats 1000000 in
theorem lskip_at (l : List UInt8) (i : Nat) (w : World) (hr : l.length ≤ 281474976710656) (hi : i ≤ l.length) :
    Calls Tryd.prog 23 #[str l, .int .i64 (i : Int)] w fun e w' => e = .returned (.int .i64 (Lx.skip l i : Int)) ∧ w = w' := by
  have hsz := str_size l
  go_enter Tryd.func23, Tryd.ntmps23
  go_wp2_with fail
  go_step3
  go_wp2_with fail
  go_step3
  go_wp2_with fail
  go_loop [1] (fun x => ∃ k : Nat, x = .int .i64 (k : Int) ∧ k ≤ l.length ∧ Lx.skip l i = Lx.skip l k) (fun x => l.length - (RowKit.intOf x).toNat)
  case atStart => exact ⟨i, rfl, hi, rfl⟩
  case round =>
    obtain ⟨k, rfl, hk, he⟩ := hrel
    have HE := hideP he
    clear he
    rcases Nat.lt_or_ge k l.length with hlt | hge
    · have hlt' : (k : Int) < (l.length : Int) := by omega
      have E := hideP (endOf_at 28 Lx.noLf lnolf_at l k w enter_skip1 hr hk)
      have S1 := hideP (fun h => Lx.skip_blank (l := l) (i := k) hlt h)
      have S2 := hideP (fun h h' => Lx.skip_other (l := l) (i := k) hlt h h')
      have S3 := hideP (fun h => Lx.skip_note (l := l) (i := k) hlt h)
      have S4 := hideP (fun h => Lx.run_step (p := Lx.noLf) (l := l) (i := k) hlt h)
      have R1 := hideP (Lx.run_le Lx.noLf hk)
      have R2 := hideP (Lx.le_run Lx.noLf l (k + 1))
      generalize hc : l[k] = c at *
      have hb : Lx.blank c = (decide (c.toNat = 32) || decide (c.toNat = 9) || decide (c.toNat = 10) || decide (c.toNat = 13)) := rfl
      have hn : Lx.noLf c = !decide (c.toNat = 10) := rfl
      generalize Lx.blank c = b at *
      generalize Lx.noLf c = n at *
      have hg : ∀ h, ((⟨l.toArray⟩ : ByteArray)[k]'h).toNat = c.toNat := fun _ => by rw [← hc]; rfl
      generalize hx : c.toNat = x at *
      have HB := hideP hb
      have HN := hideP hn
      clear hb hn
      go_wp2_with (refine E.out.mono ?_; rintro e w1 ⟨rfl, rfl⟩)
      all_goals simp only [hg, beq_iff_eq, beq_eq_false_iff_ne, ne_eq] at *
      all_goals first
        | (refine ⟨⟨k + 1, by go_num, by omega, ?_⟩, by simp [RowKit.intOf]; omega⟩
           rw [HE.out, S1.out (by rw [HB.out]; simp; omega)])
        | (have e37 : x = 37 := by omega
           have r1 := R1.out
           have r2 := R2.out
           have r4 := S4.out (by rw [HN.out]; simp; omega)
           refine ⟨⟨Lx.run Lx.noLf l k, rfl, r1, ?_⟩, ?_⟩
           · rw [HE.out, S3.out e37]
           · simp [RowKit.intOf]; omega)
        | (try rw [Exit.noGoto_ret]
           go_ret
           refine ⟨?_, rfl⟩
           rw [HE.out, S2.out (by rw [HB.out]; simp; omega) (by omega)]; rfl)
    · have hge' : ¬ (k : Int) < (l.length : Int) := by omega
      go_wp2_with fail
      go_ret
      refine ⟨?_, rfl⟩
      rw [HE.out]; unfold Lx.skip; rw [Lx.skipN_end hge]; rfl
end Go.Proofs.YtcncmpgababfjaaDoor
