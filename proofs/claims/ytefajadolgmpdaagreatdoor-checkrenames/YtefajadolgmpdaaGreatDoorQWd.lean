/-
  The functions of one byte, the program's and the reference's: what they answer; the world is as it was.
-/
import Derived.WalkMore
import Derived.Shelf.Abstract
import Derived.Test.YtefajadolgmpdaaGreatDoorQLm3
import Derived.Test.YtefajadolgmpdaaGreatDoorQBs
namespace Go.Proofs.YtefajadolgmpdaaGreatDoor
open Go.RowKit

theorem hideP {p : Prop} (h : p) : Hid p := h

theorem lsmall_at (c : UInt8) (w : World) : Calls Tryz.prog 68 #[.int .u8 (c.toNat : Int)] w fun e w' => e = .returned (.bool (Lx.small c)) ∧ w = w' := by
  generalize hk : c.toNat = k
  go_enter Tryz.func68, Tryz.ntmps68
  go_wp2
  all_goals (go_ret; refine ⟨ret_bool ?_, rfl⟩; simp only [Lx.small, hk])
  all_goals (rw [Bool.eq_iff_iff]; simp; try omega)

theorem lgreat_at (c : UInt8) (w : World) : Calls Tryz.prog 70 #[.int .u8 (c.toNat : Int)] w fun e w' => e = .returned (.bool (Lx.great c)) ∧ w = w' := by
  generalize hk : c.toNat = k
  go_enter Tryz.func70, Tryz.ntmps70
  go_wp2
  all_goals (go_ret; refine ⟨ret_bool ?_, rfl⟩; simp only [Lx.great, hk])
  all_goals (rw [Bool.eq_iff_iff]; simp; try omega)

theorem ldigit_at (c : UInt8) (w : World) : Calls Tryz.prog 71 #[.int .u8 (c.toNat : Int)] w fun e w' => e = .returned (.bool (Lx.digit c)) ∧ w = w' := by
  generalize hk : c.toNat = k
  go_enter Tryz.func71, Tryz.ntmps71
  go_wp2
  all_goals (go_ret; refine ⟨ret_bool ?_, rfl⟩; simp only [Lx.digit, hk])
  all_goals (rw [Bool.eq_iff_iff]; simp; try omega)

theorem rsmall_at (c : UInt8) (w : World) : Calls Tryz.prog 114 #[.int .u8 (c.toNat : Int)] w fun e w' => e = .returned (.bool (Lx.small c)) ∧ w = w' := by
  generalize hk : c.toNat = k
  go_enter Tryz.func114, Tryz.ntmps114
  go_wp2
  all_goals (go_ret; refine ⟨ret_bool ?_, rfl⟩; simp only [Lx.small, hk])
  all_goals (rw [Bool.eq_iff_iff]; simp; try omega)

theorem rgreat_at (c : UInt8) (w : World) : Calls Tryz.prog 115 #[.int .u8 (c.toNat : Int)] w fun e w' => e = .returned (.bool (Lx.great c)) ∧ w = w' := by
  generalize hk : c.toNat = k
  go_enter Tryz.func115, Tryz.ntmps115
  go_wp2
  all_goals (go_ret; refine ⟨ret_bool ?_, rfl⟩; simp only [Lx.great, hk])
  all_goals (rw [Bool.eq_iff_iff]; simp; try omega)

theorem rdigit_at (c : UInt8) (w : World) : Calls Tryz.prog 116 #[.int .u8 (c.toNat : Int)] w fun e w' => e = .returned (.bool (Lx.digit c)) ∧ w = w' := by
  generalize hk : c.toNat = k
  go_enter Tryz.func116, Tryz.ntmps116
  go_wp2
  all_goals (go_ret; refine ⟨ret_bool ?_, rfl⟩; simp only [Lx.digit, hk])
  all_goals (rw [Bool.eq_iff_iff]; simp; try omega)

theorem rplain_at (c : UInt8) (w : World) : Calls Tryz.prog 63 #[.int .u8 (c.toNat : Int)] w fun e w' => e = .returned (.bool (Lx.plain c)) ∧ w = w' := by
  generalize hk : c.toNat = k
  go_enter Tryz.func63, Tryz.ntmps63
  go_wp2
  all_goals (go_ret; refine ⟨ret_bool ?_, rfl⟩; simp only [Lx.plain, hk])
  all_goals (rw [Bool.eq_iff_iff]; simp; try omega)

theorem lplain_at (c : UInt8) (w : World) : Calls Tryz.prog 100 #[.int .u8 (c.toNat : Int)] w fun e w' => e = .returned (.bool (Lx.plain c)) ∧ w = w' := by
  generalize hk : c.toNat = k
  go_enter Tryz.func100, Tryz.ntmps100
  go_wp2
  all_goals (go_ret; refine ⟨ret_bool ?_, rfl⟩; simp only [Lx.plain, hk])
  all_goals (rw [Bool.eq_iff_iff]; simp; try omega)

theorem lnolf_at (c : UInt8) (w : World) : Calls Tryz.prog 67 #[.int .u8 (c.toNat : Int)] w fun e w' => e = .returned (.bool (Lx.noLf c)) ∧ w = w' := by
  generalize hk : c.toNat = k
  go_enter Tryz.func67, Tryz.ntmps67
  go_wp2
  all_goals (go_ret; refine ⟨ret_bool ?_, rfl⟩; simp only [Lx.noLf, hk])
  all_goals (rw [Bool.eq_iff_iff]; simp; try omega)

theorem linner_at (c : UInt8) (w : World) : Calls Tryz.prog 97 #[.int .u8 (c.toNat : Int)] w fun e w' => e = .returned (.bool (Lx.inner c)) ∧ w = w' := by
  have h1 := hideP (lsmall_at c)
  have h2 := hideP (lgreat_at c)
  have h3 := hideP (ldigit_at c)
  have hi : Lx.inner c = (Lx.small c || Lx.great c || Lx.digit c || decide (c.toNat = 95)) := rfl
  generalize Lx.inner c = r at *
  generalize Lx.small c = s1 at *
  generalize Lx.great c = s2 at *
  generalize Lx.digit c = s3 at *
  generalize hk : c.toNat = k at *
  have HI := hideP hi
  clear hi
  go_enter Tryz.func97, Tryz.ntmps97
  go_wp2_with (first
    | (go_at_call 68; refine (h1.out _).mono ?_; rintro e w1 ⟨rfl, rfl⟩)
    | (go_at_call 70; refine (h2.out _).mono ?_; rintro e w1 ⟨rfl, rfl⟩)
    | (go_at_call 71; refine (h3.out _).mono ?_; rintro e w1 ⟨rfl, rfl⟩))
  all_goals (go_ret; refine ⟨ret_bool ?_, rfl⟩; rw [HI.out])
  all_goals (simp_all <;> (rw [Bool.eq_iff_iff]; simp; try omega))

theorem rinner_at (c : UInt8) (w : World) : Calls Tryz.prog 95 #[.int .u8 (c.toNat : Int)] w fun e w' => e = .returned (.bool (Lx.inner c)) ∧ w = w' := by
  have h1 := hideP (rsmall_at c)
  have h2 := hideP (rgreat_at c)
  have h3 := hideP (rdigit_at c)
  have hi : Lx.inner c = (Lx.small c || Lx.great c || Lx.digit c || decide (c.toNat = 95)) := rfl
  generalize Lx.inner c = r at *
  generalize Lx.small c = s1 at *
  generalize Lx.great c = s2 at *
  generalize Lx.digit c = s3 at *
  generalize hk : c.toNat = k at *
  have HI := hideP hi
  clear hi
  go_enter Tryz.func95, Tryz.ntmps95
  go_wp2_with (first
    | (go_at_call 114; refine (h1.out _).mono ?_; rintro e w1 ⟨rfl, rfl⟩)
    | (go_at_call 115; refine (h2.out _).mono ?_; rintro e w1 ⟨rfl, rfl⟩)
    | (go_at_call 116; refine (h3.out _).mono ?_; rintro e w1 ⟨rfl, rfl⟩))
  all_goals (go_ret; refine ⟨ret_bool ?_, rfl⟩; rw [HI.out])
  all_goals (simp_all <;> (rw [Bool.eq_iff_iff]; simp; try omega))

end Go.Proofs.YtefajadolgmpdaaGreatDoor

/-
  The program's endOf, skip; the reference's Skip: where they end.
-/
namespace Go.Proofs.YtefajadolgmpdaaGreatDoor
open Go.RowKit Go.Lib Go.Shelf

theorem str_size (l : List UInt8) : (⟨l.toArray⟩ : ByteArray).size = l.length := by simp [ByteArray.size]

set_option maxRecDepth 100000 in
set_option maxHeartbeats 1000000 in
theorem endOf_at (F : Nat) (p : UInt8 → Bool) (hp : ∀ (c : UInt8) w, Calls Tryz.prog F #[.int .u8 (c.toNat : Int)] w fun e w' => e = .returned (.bool (p c)) ∧ w = w') (l : List UInt8) (i : Nat) (w : World) (hE : ∀ args w, (callFunc F args).run Tryz.prog w = .ok (.enter F args) w) (hr : l.length ≤ 281474976710656) (hi : i ≤ l.length) :
    Calls Tryz.prog 66 #[str l, .int .i64 (i : Int), .func (.func F) #[] #[]] w fun e w' => e = .returned (.int .i64 (Lx.run p l i : Int)) ∧ w = w' := by
  have HP := hideP hp
  clear hp
  have hsz := str_size l
  go_enter Tryz.func66, Tryz.ntmps66
  go_wp2_with fail
  go_loop [1] (fun x => ∃ k : Nat, x = .int .i64 (k : Int) ∧ k ≤ l.length ∧ Lx.run p l i = Lx.run p l k) (fun x => l.length - (intOf x).toNat)
  case atStart => exact ⟨i, rfl, hi, rfl⟩
  case round =>
    obtain ⟨k, rfl, hk, he⟩ := hrel
    have HE := hideP he
    clear he
    rcases Nat.lt_or_ge k l.length with hlt | hge
    · have hlt' : (k : Int) < (l.length : Int) := by omega
      have D := hideP (HP.out l[k])
      have S1 := hideP (fun h => Lx.run_step (p := p) (l := l) (i := k) hlt h)
      have S2 := hideP (fun h => Lx.run_stop (p := p) (l := l) (i := k) hlt h)
      generalize p l[k] = b at *
      go_wp2_with (refine (D.out _).mono ?_; rintro e w1 ⟨rfl, rfl⟩)
      · refine ⟨⟨k + 1, by go_num, by omega, ?_⟩, by simp [intOf]; omega⟩
        rw [HE.out, S1.out (by assumption)]
      · go_ret
        refine ⟨?_, rfl⟩
        rw [HE.out, S2.out (by simp_all)]; rfl
    · have hge' : ¬ (k : Int) < (l.length : Int) := by omega
      go_wp2_with fail
      go_ret
      refine ⟨?_, rfl⟩
      rw [HE.out, Lx.run_end hge]; rfl

theorem enter_skip1 (args : Array Value) (w : World) : (callFunc 67 args).run Tryz.prog w = .ok (.enter 67 args) w := enters_of Tryz.func67 (by kernel_rfl) rfl args w
theorem enter_word1 (args : Array Value) (w : World) : (callFunc 97 args).run Tryz.prog w = .ok (.enter 97 args) w := enters_of Tryz.func97 (by kernel_rfl) rfl args w
theorem enter_quot1 (args : Array Value) (w : World) : (callFunc 100 args).run Tryz.prog w = .ok (.enter 100 args) w := enters_of Tryz.func100 (by kernel_rfl) rfl args w
theorem enter_digit (args : Array Value) (w : World) : (callFunc 71 args).run Tryz.prog w = .ok (.enter 71 args) w := enters_of Tryz.func71 (by kernel_rfl) rfl args w

set_option maxRecDepth 100000 in
set_option maxHeartbeats 1000000 in
theorem lskip_at (l : List UInt8) (i : Nat) (w : World) (hr : l.length ≤ 281474976710656) (hi : i ≤ l.length) :
    Calls Tryz.prog 48 #[str l, .int .i64 (i : Int)] w fun e w' => e = .returned (.int .i64 (Lx.skip l i : Int)) ∧ w = w' := by
  have hsz := str_size l
  go_enter Tryz.func48, Tryz.ntmps48
  go_wp2_with fail
  go_step3
  go_wp2_with fail
  go_step3
  go_wp2_with fail
  go_loop [1] (fun x => ∃ k : Nat, x = .int .i64 (k : Int) ∧ k ≤ l.length ∧ Lx.skip l i = Lx.skip l k) (fun x => l.length - (intOf x).toNat)
  case atStart => exact ⟨i, rfl, hi, rfl⟩
  case round =>
    obtain ⟨k, rfl, hk, he⟩ := hrel
    have HE := hideP he
    clear he
    rcases Nat.lt_or_ge k l.length with hlt | hge
    · have hlt' : (k : Int) < (l.length : Int) := by omega
      have E := hideP (endOf_at 67 Lx.noLf lnolf_at l k w enter_skip1 hr hk)
      have S1 := hideP (fun h => Lx.skip_blank (l := l) (i := k) hlt h)
      have S2 := hideP (fun h h' => Lx.skip_other (l := l) (i := k) hlt h h')
      have S3 := hideP (fun h => Lx.skip_note (l := l) (i := k) hlt h)
      have S4 := hideP (fun h => Lx.run_step (p := Lx.noLf) (l := l) (i := k) hlt h)
      have R1 := hideP (Lx.run_le Lx.noLf hk)
      have R2 := hideP (Lx.le_run Lx.noLf l (k + 1))
      generalize hc : l[k] = c at *
      have hb : Lx.blank c = (decide (c.toNat = 32) || decide (c.toNat = 9) || decide (c.toNat = 10) || decide (c.toNat = 13)) := rfl
      have hn : Lx.noLf c = !decide (c.toNat = 10) := rfl
      generalize Lx.blank c = b at *
      generalize Lx.noLf c = n at *
      have hg : ∀ h, ((⟨l.toArray⟩ : ByteArray)[k]'h).toNat = c.toNat := fun _ => by rw [← hc]; rfl
      generalize hx : c.toNat = x at *
      have HB := hideP hb
      have HN := hideP hn
      clear hb hn
      go_wp2_with (refine E.out.mono ?_; rintro e w1 ⟨rfl, rfl⟩)
      all_goals simp only [hg, beq_iff_eq, beq_eq_false_iff_ne, ne_eq] at *
      all_goals first
        | (refine ⟨⟨k + 1, by go_num, by omega, ?_⟩, by simp [intOf]; omega⟩
           rw [HE.out, S1.out (by rw [HB.out]; simp; omega)])
        | (have e37 : x = 37 := by omega
           have r1 := R1.out
           have r2 := R2.out
           have r4 := S4.out (by rw [HN.out]; simp; omega)
           refine ⟨⟨Lx.run Lx.noLf l k, rfl, r1, ?_⟩, ?_⟩
           · rw [HE.out, S3.out e37]
           · simp [intOf]; omega)
        | (try rw [Exit.noGoto_ret]
           go_ret
           refine ⟨?_, rfl⟩
           rw [HE.out, S2.out (by rw [HB.out]; simp; omega) (by omega)]; rfl)
    · have hge' : ¬ (k : Int) < (l.length : Int) := by omega
      go_wp2_with fail
      go_ret
      refine ⟨?_, rfl⟩
      rw [HE.out]; unfold Lx.skip; rw [Lx.skipN_end hge]; rfl
end Go.Proofs.YtefajadolgmpdaaGreatDoor

/-
  Tokens in memory; the program's word.
-/
namespace Go.Proofs.YtefajadolgmpdaaGreatDoor
open Go.RowKit Go.Lib Go.Shelf

def tokv (t : Lx.Tok) : List Value := [.int .i64 t.kind, str t.text, .int .i64 t.n, .int .i64 (t.pl : Int)]
def kT : Kd Lx.Tok := ⟨tokv, 4, fun _ => rfl, fun _ => rfl, by decide⟩
def pz : Lx.Tok := ⟨0, [], 0, 0⟩
/-- what the program's functions of one token answer -/
def pres : Option (Lx.Tok × Nat) → Lx.Tok × Nat × Int
  | none => (pz, 0, 70)
  | some (t, e) => if 32 < t.text.length then (pz, 0, 71) else (t, e, 0)
def tokR (r : Lx.Tok × Nat × Int) : Ending := .returned (.tuple #[.agg (tokv r.1).toArray, .int .i64 (r.2.1 : Int), .int .i64 r.2.2])

theorem results_cell_two {P : Program} {fn : Func} {p q r : Tmp} {ty : TypeId} {tmps : Array Value} {w : World} {b : Nat} {C : Array Value} {d : TypeDesc} {T : TypeId} (h : fn.results = #[.cell p ty, .tmp q, .tmp r]) (hp : tmps.getD p undef = .pointer (some ⟨b, 0, none⟩)) (hc : w.heap[b]? = some (.cells C T))
    (hu : P.underlying ty = some d) (hd : d.isRow = true) (hi : (P.info? ty).map (·.size) = some C.size) : (results fn tmps).run P w = .ok (.tuple #[.agg C, tmps.getD q undef, tmps.getD r undef]) w := by
  have hr : w.rangeAt b 0 C.toList := by
    have := World.rangeAt_of_block hc 0 C.size
    simpa using this
  simp only [Array.getD_eq_getD_getElem?] at hp ⊢
  simp only [results, h]
  simp [asAddr, hp, run_loadVar_mid w b 0 ty C.toList d hr hu hd (by simpa using hi)]
theorem extract_sub (l : List UInt8) (i j : Nat) (_h : j ≤ l.length) : (⟨l.toArray⟩ : ByteArray).extract i j = ⟨(Lx.sub l i j).toArray⟩ := by
  apply ByteArray.ext
  simp only [ByteArray.data_extract, Lx.sub]
  apply Array.ext'
  simp [List.extract_eq_take_drop]
abbrev zTok : Obj := .cells #[.int .i64 0, .string .empty, .int .i64 0, .int .i64 0] 97

theorem below_tok {w w' : World} {o : Obj} (b : But w.heap.size (w.alloc o) w') : Below w.heap.size w w' := (below_alloc w o).trans (b.lower (Nat.le_refl _) (below_alloc w o).size)

set_option maxRecDepth 100000 in
set_option maxHeartbeats 1000000 in
theorem word_at (k : Int) (l : List UInt8) (i : Nat) (w : World) (hr : l.length ≤ 281474976710656) (hi : i ≤ l.length) :
    Calls Tryz.prog 69 #[str l, .int .i64 (i : Int), .int .i64 k] w fun e w' => e = tokR (pres (Lx.word k l i)) ∧ Below w.heap.size w w' := by
  have hsz := str_size l
  have iN : (Tryz.prog.info? 97).map (·.size) = some 4 := by kernel_rfl
  have E := hideP (fun w => endOf_at 97 Lx.inner linner_at l i w enter_word1 hr hi)
  have R1 := Lx.run_le Lx.inner hi
  have R2 := Lx.le_run Lx.inner l i
  have hw : Lx.word k l i = some (⟨k, Lx.sub l i (Lx.run Lx.inner l i), 0, i⟩, Lx.run Lx.inner l i) := rfl
  have hs := extract_sub l i (Lx.run Lx.inner l i) R1
  have hl := Lx.sub_length (i := i) R1
  generalize Lx.run Lx.inner l i = j at *
  have HW := hideP hw
  clear hw
  have H0 := heap_alloc_new w zTok
  have B0 := below_alloc w zTok
  go_enter Tryz.func69, Tryz.ntmps69
  go_wp2_with (first
    | (go_at_call 66; refine (E.out _).mono ?_; rintro e w1 ⟨rfl, rfl⟩)
    | (refine wpList_store_all rfl 97 _ _ rfl w.heap.size 4 _ 97 _ rfl rfl H0 rfl rfl iN rfl ?_; intro w4 H4 b4))
  all_goals refine bodyPost_ret (results_cell_two rfl rfl H4 Tryz.underlying97 rfl (by kernel_rfl)) rfl ⟨?_, below_tok b4⟩
  · rw [HW.out, pres, if_pos (by simp only [hl]; omega)]; rfl
  · rw [HW.out, pres, if_neg (by simp only [hl]; omega)]; rfl
end Go.Proofs.YtefajadolgmpdaaGreatDoor
