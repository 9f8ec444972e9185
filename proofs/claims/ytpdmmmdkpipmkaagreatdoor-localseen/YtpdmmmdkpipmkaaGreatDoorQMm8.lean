/-
  Terms, literals and rules in memory.
-/
import Derived.WalkMore
import Derived.Shelf.Abstract
import Derived.Defers
import Derived.Recover
import Derived.Test.YtpdmmmdkpipmkaaGreatDoorQBt
import Derived.Test.YtpdmmmdkpipmkaaGreatDoorQPa
namespace Go.Proofs.YtpdmmmdkpipmkaaGreatDoor
open Go.RowKit

def tv (t : Tm) : List Value := [str t.v, .bool t.k.num, .int .i64 t.k.n, str t.k.s]
abbrev tval (t : Tm) : Value := .agg #[str t.v, .bool t.k.num, .int .i64 t.k.n, str t.k.s]
def tK : Kd Tm := ⟨tv, 4, fun _ => rfl, fun _ => rfl, by decide⟩
/-- a literal, a rule in memory -/
structure Lv where
  by_ : Tm
  pred : List UInt8
  a : Option Addr
  cap : Nat
  args : List Tm
  at_ : Tm
def Lv.l (x : Lv) : Lt := ⟨x.by_, x.pred, x.args, x.at_⟩
def lv (x : Lv) : List Value := [str x.by_.v, .bool x.by_.k.num, .int .i64 x.by_.k.n, str x.by_.k.s, str x.pred, .slice x.a x.args.length x.cap, str x.at_.v, .bool x.at_.k.num, .int .i64 x.at_.k.n, str x.at_.k.s]
abbrev lval (x : Lv) : Value := .agg #[str x.by_.v, .bool x.by_.k.num, .int .i64 x.by_.k.n, str x.by_.k.s, str x.pred, .slice x.a x.args.length x.cap, str x.at_.v, .bool x.at_.k.num, .int .i64 x.at_.k.n, str x.at_.k.s]
def lK : Kd Lv := ⟨lv, 10, fun _ => rfl, fun _ => rfl, by decide⟩
structure Rv where
  home : Tm
  pred : List UInt8
  a : Option Addr
  cap : Nat
  args : List Tm
  to_ : Tm
  ba : Option Addr
  bcap : Nat
  body : List Lv
def Rv.r (x : Rv) : Ru := ⟨x.home, x.pred, x.args, x.to_, x.body.map Lv.l⟩
def rv (x : Rv) : List Value := [str x.home.v, .bool x.home.k.num, .int .i64 x.home.k.n, str x.home.k.s, str x.pred, .slice x.a x.args.length x.cap, str x.to_.v, .bool x.to_.k.num, .int .i64 x.to_.k.n, str x.to_.k.s, .slice x.ba x.body.length x.bcap]
abbrev rval (x : Rv) : Value := .agg #[str x.home.v, .bool x.home.k.num, .int .i64 x.home.k.n, str x.home.k.s, str x.pred, .slice x.a x.args.length x.cap, str x.to_.v, .bool x.to_.k.num, .int .i64 x.to_.k.n, str x.to_.k.s, .slice x.ba x.body.length x.bcap]
def rK : Kd Rv := ⟨rv, 11, fun _ => rfl, fun _ => rfl, by decide⟩
/-- a literal whose Args lie in a block of terms; a rule whose Args and Body do so -/
def Lv.At (w : World) (x : Lv) : Prop := RowT tK 44 w x.a x.cap x.args
structure Rv.At (w : World) (x : Rv) : Prop where
  args : RowT tK 44 w x.a x.cap x.args
  body : RowT lK 52 w x.ba x.bcap x.body
  each : ∀ l ∈ x.body, Lv.At w l
theorem Lv.At.safe {w w' : World} {x : Lv} (h : Lv.At w x) (s : Safe 44 w w') : Lv.At w' x := RowT.safe h s
theorem Rv.At.safe {w w' : World} {x : Rv} (h : Rv.At w x) (s : Safe 44 w w') (s' : Safe 52 w w') : Rv.At w' x := ⟨h.args.safe s, h.body.safe s', fun l hl => (h.each l hl).safe s⟩
theorem Rv.At.below {w w' : World} {x : Rv} (h : Rv.At w x) (hb : Below w.heap.size w w') : Rv.At w' x := h.safe (Safe.below hb) (Safe.below hb)

abbrev ptr (p : Nat) : Value := .pointer (some ⟨p, 0, none⟩)
end Go.Proofs.YtpdmmmdkpipmkaaGreatDoor

/-
  The functions of one byte, the program's and the reference's: what they answer; the world is as it was.
-/
namespace Go.Proofs.YtpdmmmdkpipmkaaGreatDoor
open Go.RowKit


theorem lsmall_at (c : UInt8) (w : World) : Calls Tryz.prog 106 #[.int .u8 (c.toNat : Int)] w fun e w' => e = .returned (.bool (Lx.small c)) ∧ w = w' := by
  generalize hk : c.toNat = k
  go_enter Tryz.func106, Tryz.ntmps106
  go_wp2
  all_goals (go_ret; refine ⟨ret_bool ?_, rfl⟩; simp only [Lx.small, hk])
  all_goals (rw [Bool.eq_iff_iff]; simp; try omega)

theorem lgreat_at (c : UInt8) (w : World) : Calls Tryz.prog 108 #[.int .u8 (c.toNat : Int)] w fun e w' => e = .returned (.bool (Lx.great c)) ∧ w = w' := by
  generalize hk : c.toNat = k
  go_enter Tryz.func108, Tryz.ntmps108
  go_wp2
  all_goals (go_ret; refine ⟨ret_bool ?_, rfl⟩; simp only [Lx.great, hk])
  all_goals (rw [Bool.eq_iff_iff]; simp; try omega)

theorem ldigit_at (c : UInt8) (w : World) : Calls Tryz.prog 109 #[.int .u8 (c.toNat : Int)] w fun e w' => e = .returned (.bool (Lx.digit c)) ∧ w = w' := by
  generalize hk : c.toNat = k
  go_enter Tryz.func109, Tryz.ntmps109
  go_wp2
  all_goals (go_ret; refine ⟨ret_bool ?_, rfl⟩; simp only [Lx.digit, hk])
  all_goals (rw [Bool.eq_iff_iff]; simp; try omega)

theorem rsmall_at (c : UInt8) (w : World) : Calls Tryz.prog 211 #[.int .u8 (c.toNat : Int)] w fun e w' => e = .returned (.bool (Lx.small c)) ∧ w = w' := by
  generalize hk : c.toNat = k
  go_enter Tryz.func211, Tryz.ntmps211
  go_wp2
  all_goals (go_ret; refine ⟨ret_bool ?_, rfl⟩; simp only [Lx.small, hk])
  all_goals (rw [Bool.eq_iff_iff]; simp; try omega)

theorem rgreat_at (c : UInt8) (w : World) : Calls Tryz.prog 212 #[.int .u8 (c.toNat : Int)] w fun e w' => e = .returned (.bool (Lx.great c)) ∧ w = w' := by
  generalize hk : c.toNat = k
  go_enter Tryz.func212, Tryz.ntmps212
  go_wp2
  all_goals (go_ret; refine ⟨ret_bool ?_, rfl⟩; simp only [Lx.great, hk])
  all_goals (rw [Bool.eq_iff_iff]; simp; try omega)

theorem rdigit_at (c : UInt8) (w : World) : Calls Tryz.prog 213 #[.int .u8 (c.toNat : Int)] w fun e w' => e = .returned (.bool (Lx.digit c)) ∧ w = w' := by
  generalize hk : c.toNat = k
  go_enter Tryz.func213, Tryz.ntmps213
  go_wp2
  all_goals (go_ret; refine ⟨ret_bool ?_, rfl⟩; simp only [Lx.digit, hk])
  all_goals (rw [Bool.eq_iff_iff]; simp; try omega)

theorem rplain_at (c : UInt8) (w : World) : Calls Tryz.prog 134 #[.int .u8 (c.toNat : Int)] w fun e w' => e = .returned (.bool (Lx.plain c)) ∧ w = w' := by
  generalize hk : c.toNat = k
  go_enter Tryz.func134, Tryz.ntmps134
  go_wp2
  all_goals (go_ret; refine ⟨ret_bool ?_, rfl⟩; simp only [Lx.plain, hk])
  all_goals (rw [Bool.eq_iff_iff]; simp; try omega)

theorem lplain_at (c : UInt8) (w : World) : Calls Tryz.prog 155 #[.int .u8 (c.toNat : Int)] w fun e w' => e = .returned (.bool (Lx.plain c)) ∧ w = w' := by
  generalize hk : c.toNat = k
  go_enter Tryz.func155, Tryz.ntmps155
  go_wp2
  all_goals (go_ret; refine ⟨ret_bool ?_, rfl⟩; simp only [Lx.plain, hk])
  all_goals (rw [Bool.eq_iff_iff]; simp; try omega)

theorem lnolf_at (c : UInt8) (w : World) : Calls Tryz.prog 105 #[.int .u8 (c.toNat : Int)] w fun e w' => e = .returned (.bool (Lx.noLf c)) ∧ w = w' := by
  generalize hk : c.toNat = k
  go_enter Tryz.func105, Tryz.ntmps105
  go_wp2
  all_goals (go_ret; refine ⟨ret_bool ?_, rfl⟩; simp only [Lx.noLf, hk])
  all_goals (rw [Bool.eq_iff_iff]; simp; try omega)

theorem linner_at (c : UInt8) (w : World) : Calls Tryz.prog 153 #[.int .u8 (c.toNat : Int)] w fun e w' => e = .returned (.bool (Lx.inner c)) ∧ w = w' := by
  have h1 := hideP (lsmall_at c)
  have h2 := hideP (lgreat_at c)
  have h3 := hideP (ldigit_at c)
  have hi : Lx.inner c = (Lx.small c || Lx.great c || Lx.digit c || decide (c.toNat = 95)) := rfl
  generalize Lx.inner c = r at *
  generalize Lx.small c = s1 at *
  generalize Lx.great c = s2 at *
  generalize Lx.digit c = s3 at *
  generalize hk : c.toNat = k at *
  have HI := hideP hi
  clear hi
  go_enter Tryz.func153, Tryz.ntmps153
  go_wp2_with (first
    | (go_at_call 106; refine (h1.out _).mono ?_; rintro e w1 ⟨rfl, rfl⟩)
    | (go_at_call 108; refine (h2.out _).mono ?_; rintro e w1 ⟨rfl, rfl⟩)
    | (go_at_call 109; refine (h3.out _).mono ?_; rintro e w1 ⟨rfl, rfl⟩))
  all_goals (go_ret; refine ⟨ret_bool ?_, rfl⟩; rw [HI.out])
  all_goals (simp_all <;> (rw [Bool.eq_iff_iff]; simp; try omega))

theorem rinner_at (c : UInt8) (w : World) : Calls Tryz.prog 174 #[.int .u8 (c.toNat : Int)] w fun e w' => e = .returned (.bool (Lx.inner c)) ∧ w = w' := by
  have h1 := hideP (rsmall_at c)
  have h2 := hideP (rgreat_at c)
  have h3 := hideP (rdigit_at c)
  have hi : Lx.inner c = (Lx.small c || Lx.great c || Lx.digit c || decide (c.toNat = 95)) := rfl
  generalize Lx.inner c = r at *
  generalize Lx.small c = s1 at *
  generalize Lx.great c = s2 at *
  generalize Lx.digit c = s3 at *
  generalize hk : c.toNat = k at *
  have HI := hideP hi
  clear hi
  go_enter Tryz.func174, Tryz.ntmps174
  go_wp2_with (first
    | (go_at_call 211; refine (h1.out _).mono ?_; rintro e w1 ⟨rfl, rfl⟩)
    | (go_at_call 212; refine (h2.out _).mono ?_; rintro e w1 ⟨rfl, rfl⟩)
    | (go_at_call 213; refine (h3.out _).mono ?_; rintro e w1 ⟨rfl, rfl⟩))
  all_goals (go_ret; refine ⟨ret_bool ?_, rfl⟩; rw [HI.out])
  all_goals (simp_all <;> (rw [Bool.eq_iff_iff]; simp; try omega))

end Go.Proofs.YtpdmmmdkpipmkaaGreatDoor

/-
  The program's endOf, skip; the reference's Skip: where they end.
-/
namespace Go.Proofs.YtpdmmmdkpipmkaaGreatDoor
open Go.RowKit Go.Lib Go.Shelf


set_option maxRecDepth 100000 in
set_option maxHeartbeats 1000000 in
theorem endOf_at (F : Nat) (p : UInt8 → Bool) (hp : ∀ (c : UInt8) w, Calls Tryz.prog F #[.int .u8 (c.toNat : Int)] w fun e w' => e = .returned (.bool (p c)) ∧ w = w') (l : List UInt8) (i : Nat) (w : World) (hE : ∀ args w, (callFunc F args).run Tryz.prog w = .ok (.enter F args) w) (hr : l.length ≤ 281474976710656) (hi : i ≤ l.length) :
    Calls Tryz.prog 104 #[str l, .int .i64 (i : Int), .func (.func F) #[] #[]] w fun e w' => e = .returned (.int .i64 (Lx.run p l i : Int)) ∧ w = w' := by
  have HP := hideP hp
  clear hp
  have hsz := str_size l
  go_enter Tryz.func104, Tryz.ntmps104
  go_wp2_with fail
  go_loop [1] (fun x => ∃ k : Nat, x = .int .i64 (k : Int) ∧ k ≤ l.length ∧ Lx.run p l i = Lx.run p l k) (fun x => l.length - (RowKit.intOf x).toNat)
  case atStart => exact ⟨i, rfl, hi, rfl⟩
  case round =>
    obtain ⟨k, rfl, hk, he⟩ := hrel
    have HE := hideP he
    clear he
    rcases Nat.lt_or_ge k l.length with hlt | hge
    · have hlt' : (k : Int) < (l.length : Int) := by omega
      have D := hideP (HP.out l[k])
      have S1 := hideP (fun h => Lx.run_step (p := p) (l := l) (i := k) hlt h)
      have S2 := hideP (fun h => Lx.run_stop (p := p) (l := l) (i := k) hlt h)
      generalize p l[k] = b at *
      go_wp2_with (refine (D.out _).mono ?_; rintro e w1 ⟨rfl, rfl⟩)
      · refine ⟨⟨k + 1, by go_num, by omega, ?_⟩, by simp [RowKit.intOf]; omega⟩
        rw [HE.out, S1.out (by assumption)]
      · go_ret
        refine ⟨?_, rfl⟩
        rw [HE.out, S2.out (by simp_all)]; rfl
    · have hge' : ¬ (k : Int) < (l.length : Int) := by omega
      go_wp2_with fail
      go_ret
      refine ⟨?_, rfl⟩
      rw [HE.out, Lx.run_end hge]; rfl

theorem enter_skip1 (args : Array Value) (w : World) : (callFunc 105 args).run Tryz.prog w = .ok (.enter 105 args) w := enters_of Tryz.func105 (by kernel_rfl) rfl args w
theorem enter_word1 (args : Array Value) (w : World) : (callFunc 153 args).run Tryz.prog w = .ok (.enter 153 args) w := enters_of Tryz.func153 (by kernel_rfl) rfl args w
theorem enter_quot1 (args : Array Value) (w : World) : (callFunc 155 args).run Tryz.prog w = .ok (.enter 155 args) w := enters_of Tryz.func155 (by kernel_rfl) rfl args w
theorem enter_digit (args : Array Value) (w : World) : (callFunc 109 args).run Tryz.prog w = .ok (.enter 109 args) w := enters_of Tryz.func109 (by kernel_rfl) rfl args w

set_option maxRecDepth 100000 in
set_option maxHeartbeats 1000000 in
theorem lskip_at (l : List UInt8) (i : Nat) (w : World) (hr : l.length ≤ 281474976710656) (hi : i ≤ l.length) :
    Calls Tryz.prog 68 #[str l, .int .i64 (i : Int)] w fun e w' => e = .returned (.int .i64 (Lx.skip l i : Int)) ∧ w = w' := by
  have hsz := str_size l
  go_enter Tryz.func68, Tryz.ntmps68
  go_wp2_with fail
  go_step3
  go_wp2_with fail
  go_step3
  go_wp2_with fail
  go_loop [1] (fun x => ∃ k : Nat, x = .int .i64 (k : Int) ∧ k ≤ l.length ∧ Lx.skip l i = Lx.skip l k) (fun x => l.length - (RowKit.intOf x).toNat)
  case atStart => exact ⟨i, rfl, hi, rfl⟩
  case round =>
    obtain ⟨k, rfl, hk, he⟩ := hrel
    have HE := hideP he
    clear he
    rcases Nat.lt_or_ge k l.length with hlt | hge
    · have hlt' : (k : Int) < (l.length : Int) := by omega
      have E := hideP (endOf_at 105 Lx.noLf lnolf_at l k w enter_skip1 hr hk)
      have S1 := hideP (fun h => Lx.skip_blank (l := l) (i := k) hlt h)
      have S2 := hideP (fun h h' => Lx.skip_other (l := l) (i := k) hlt h h')
      have S3 := hideP (fun h => Lx.skip_note (l := l) (i := k) hlt h)
      have S4 := hideP (fun h => Lx.run_step (p := Lx.noLf) (l := l) (i := k) hlt h)
      have R1 := hideP (Lx.run_le Lx.noLf hk)
      have R2 := hideP (Lx.le_run Lx.noLf l (k + 1))
      generalize hc : l[k] = c at *
      have hb : Lx.blank c = (decide (c.toNat = 32) || decide (c.toNat = 9) || decide (c.toNat = 10) || decide (c.toNat = 13)) := rfl
      have hn : Lx.noLf c = !decide (c.toNat = 10) := rfl
      generalize Lx.blank c = b at *
      generalize Lx.noLf c = n at *
      have hg : ∀ h, ((⟨l.toArray⟩ : ByteArray)[k]'h).toNat = c.toNat := fun _ => by rw [← hc]; rfl
      generalize hx : c.toNat = x at *
      have HB := hideP hb
      have HN := hideP hn
      clear hb hn
      go_wp2_with (refine E.out.mono ?_; rintro e w1 ⟨rfl, rfl⟩)
      all_goals simp only [hg, beq_iff_eq, beq_eq_false_iff_ne, ne_eq] at *
      all_goals first
        | (refine ⟨⟨k + 1, by go_num, by omega, ?_⟩, by simp [RowKit.intOf]; omega⟩
           rw [HE.out, S1.out (by rw [HB.out]; simp; omega)])
        | (have e37 : x = 37 := by omega
           have r1 := R1.out
           have r2 := R2.out
           have r4 := S4.out (by rw [HN.out]; simp; omega)
           refine ⟨⟨Lx.run Lx.noLf l k, rfl, r1, ?_⟩, ?_⟩
           · rw [HE.out, S3.out e37]
           · simp [RowKit.intOf]; omega)
        | (try rw [Exit.noGoto_ret]
           go_ret
           refine ⟨?_, rfl⟩
           rw [HE.out, S2.out (by rw [HB.out]; simp; omega) (by omega)]; rfl)
    · have hge' : ¬ (k : Int) < (l.length : Int) := by omega
      go_wp2_with fail
      go_ret
      refine ⟨?_, rfl⟩
      rw [HE.out]; unfold Lx.skip; rw [Lx.skipN_end hge]; rfl
end Go.Proofs.YtpdmmmdkpipmkaaGreatDoor

/-
  Tokens in memory; the program's word.
-/
namespace Go.Proofs.YtpdmmmdkpipmkaaGreatDoor
open Go.RowKit Go.Lib Go.Shelf

def tokv (t : Lx.Tok) : List Value := [.int .i64 t.kind, str t.text, .int .i64 t.n, .int .i64 (t.pl : Int)]
def kT : Kd Lx.Tok := ⟨tokv, 4, fun _ => rfl, fun _ => rfl, by decide⟩
def pz : Lx.Tok := ⟨0, [], 0, 0⟩
/-- what the program's functions of one token answer -/
def pres : Option (Lx.Tok × Nat) → Lx.Tok × Nat × Int
  | none => (pz, 0, 70)
  | some (t, e) => if 32 < t.text.length then (pz, 0, 71) else (t, e, 0)
def tokR (r : Lx.Tok × Nat × Int) : Ending := .returned (.tuple #[.agg (tokv r.1).toArray, .int .i64 (r.2.1 : Int), .int .i64 r.2.2])

theorem results_cell_two {P : Program} {fn : Func} {p q r : Tmp} {ty : TypeId} {tmps : Array Value} {w : World} {b : Nat} {C : Array Value} {d : TypeDesc} {T : TypeId} (h : fn.results = #[.cell p ty, .tmp q, .tmp r]) (hp : tmps.getD p undef = .pointer (some ⟨b, 0, none⟩)) (hc : w.heap[b]? = some (.cells C T))
    (hu : P.underlying ty = some d) (hd : d.isRow = true) (hi : (P.info? ty).map (·.size) = some C.size) : (results fn tmps).run P w = .ok (.tuple #[.agg C, tmps.getD q undef, tmps.getD r undef]) w := by
  have hr : w.rangeAt b 0 C.toList := by
    have := World.rangeAt_of_block hc 0 C.size
    simpa using this
  simp only [Array.getD_eq_getD_getElem?] at hp ⊢
  simp only [results, h]
  simp [asAddr, hp, run_loadVar_mid w b 0 ty C.toList d hr hu hd (by simpa using hi)]
theorem extract_sub (l : List UInt8) (i j : Nat) (_h : j ≤ l.length) : (⟨l.toArray⟩ : ByteArray).extract i j = ⟨(Lx.sub l i j).toArray⟩ := by
  apply ByteArray.ext
  simp only [ByteArray.data_extract, Lx.sub]
  apply Array.ext'
  simp [List.extract_eq_take_drop]
abbrev zTok : Obj := .cells #[.int .i64 0, .string .empty, .int .i64 0, .int .i64 0] 121


set_option maxRecDepth 100000 in
set_option maxHeartbeats 1000000 in
theorem word_at (k : Int) (l : List UInt8) (i : Nat) (w : World) (hr : l.length ≤ 281474976710656) (hi : i ≤ l.length) :
    Calls Tryz.prog 107 #[str l, .int .i64 (i : Int), .int .i64 k] w fun e w' => e = tokR (pres (Lx.word k l i)) ∧ Below w.heap.size w w' := by
  have hsz := str_size l
  have iN : (Tryz.prog.info? 121).map (·.size) = some 4 := by kernel_rfl
  have E := hideP (fun w => endOf_at 153 Lx.inner linner_at l i w enter_word1 hr hi)
  have R1 := Lx.run_le Lx.inner hi
  have R2 := Lx.le_run Lx.inner l i
  have hw : Lx.word k l i = some (⟨k, Lx.sub l i (Lx.run Lx.inner l i), 0, i⟩, Lx.run Lx.inner l i) := rfl
  have hs := extract_sub l i (Lx.run Lx.inner l i) R1
  have hl := Lx.sub_length (i := i) R1
  generalize Lx.run Lx.inner l i = j at *
  have HW := hideP hw
  clear hw
  have H0 := heap_alloc_new w zTok
  have B0 := below_alloc w zTok
  go_enter Tryz.func107, Tryz.ntmps107
  go_wp2_with (first
    | (go_at_call 104; refine (E.out _).mono ?_; rintro e w1 ⟨rfl, rfl⟩)
    | (refine wpList_store_all rfl 121 _ _ rfl w.heap.size 4 _ 121 _ rfl rfl H0 rfl rfl iN rfl ?_; intro w4 H4 b4))
  all_goals refine bodyPost_ret (results_cell_two rfl rfl H4 Tryz.underlying121 rfl (by kernel_rfl)) rfl ⟨?_, below_tok b4⟩
  · rw [HW.out, pres, if_pos (by simp only [hl]; omega)]; rfl
  · rw [HW.out, pres, if_neg (by simp only [hl]; omega)]; rfl
end Go.Proofs.YtpdmmmdkpipmkaaGreatDoor

/-
  The program's parser in memory.
-/
namespace Go.Proofs.YtpdmmmdkpipmkaaGreatDoor
open Go.RowKit Go.Lib Go.Shelf

/-- the program's parser: the tokens that are still to be read, the text's length -/
structure PAt (w : World) (p E : Nat) (L : List Lx.Tok) : Prop where
  obj : ∃ a c, w.heap[p]? = some (.cells #[.slice a L.length c, .int .i64 (E : Int)] 83) ∧ RowT kT 121 w a c L
theorem PAt.below {w w' : World} {p E : Nat} {L : List Lx.Tok} (h : PAt w p E L) (hb : Below w.heap.size w w') : PAt w' p E L := by
  obtain ⟨a, c, h1, h2⟩ := h.obj
  exact ⟨a, c, below_heap hb h1, h2.safe (Safe.below hb)⟩
theorem PAt.lt {w : World} {p E : Nat} {L : List Lx.Tok} (h : PAt w p E L) : p < w.heap.size := by
  obtain ⟨a, c, h1, _⟩ := h.obj
  exact heap_lt h1
theorem PAt.safe {ty : TypeId} {w w' : World} {p E : Nat} {L : List Lx.Tok} (h : PAt w p E L) (hb : But p w w') (hn : ty ≠ 83) : Safe ty w w' := by
  obtain ⟨a, c, h1, _⟩ := h.obj
  exact Safe.but hb h1 hn
/-- something else turned, made by the call itself -/
theorem PAt.but {w w' : World} {p E g : Nat} {L : List Lx.Tok} {C : Array Value} {T : TypeId} (h : PAt w p E L) (hb : But g w w') (hg : w.heap[g]? = some (.cells C T)) (h1 : T ≠ 83) (h2 : T ≠ 121) : PAt w' p E L := by
  obtain ⟨a, c, q1, q2⟩ := h.obj
  exact ⟨a, c, Safe.but hb hg (Ne.symm h1) _ _ q1, q2.safe (Safe.but hb hg (Ne.symm h2))⟩
theorem PAt.grown {w w' : World} {p E base k n : Nat} {L : List Lx.Tok} {T : TypeId} {v : Value} {xs : List Value} (h : PAt w p E L) (ho : w.ownsRow base T k v n xs) (hg : w.grownBy w' v.ownBlock) (h1 : T ≠ 83) (h2 : T ≠ 121) : PAt w' p E L := by
  obtain ⟨a, c, q1, q2⟩ := h.obj
  exact ⟨a, c, Safe.grown ho hg (Ne.symm h1) _ _ q1, q2.safe (Safe.grown ho hg (Ne.symm h2))⟩

/-- how a parser gives up -/
def Pan (x : Nat × Int) : Ending := .panicked [{ v := .iface 85 (.agg #[.int .i64 (x.1 : Int), .int .i64 x.2]), recovered := false }]

/-- what a part of the parser does: by the mathematics' answer it hands back a value, the parser goes on behind it; or it gives up -/
def Does {α : Type} (p E : Nat) (w : World) (r : Ps.Rz α) (V : α → Value → World → Prop) (e : Ending) (w' : World) : Prop :=
  But p w w' ∧ match r with
  | .ok (v, L) => (∃ u, e = .returned u ∧ V v u w') ∧ PAt w' p E L
  | .error x => e = Pan x

theorem tokz : pz = Ps.tz := rfl
theorem row_tail {w : World} {b o c : Nat} {t : Lx.Tok} {L : List Lx.Tok} (h : RowT kT 121 w (some ⟨b, o, none⟩) c (t :: L)) : RowT kT 121 w (some ⟨b, o + 4, none⟩) (c - 1) L := by
  refine ⟨⟨?_, ?_, (fun h => by cases h), fun ad ha j u hu => ?_⟩, fun ad ha => ?_⟩
  · have := h.row.room; simp only [List.length_cons] at this; omega
  · have := h.row.few; simp only [List.length_cons] at this; omega
  · cases ha
    have := h.row.cells _ rfl (4 + j) u (by
      rw [List.flatMap_cons, List.getElem?_append_right (by rw [kT.len]; show 4 ≤ 4 + j; omega), kT.len]
      show (L.flatMap tokv)[4 + j - 4]? = some u
      rw [show 4 + j - 4 = j by omega]; exact hu)
    rw [Addr.add_lit] at this ⊢
    rw [← this, Nat.add_assoc]
  · cases ha
    exact h.tag ⟨b, o, none⟩ rfl
/-- the place of what is left, when one token is taken -/
def tl (b o c : Nat) : Addr := if c = 1 then ⟨b, o, none⟩ else ⟨b, o + 4, none⟩
theorem row_tl {w : World} {b o c : Nat} {t : Lx.Tok} {L : List Lx.Tok} (h : RowT kT 121 w (some ⟨b, o, none⟩) c (t :: L)) : RowT kT 121 w (some (tl b o c)) (c - 1) L := by
  unfold tl
  by_cases hc : c = 1
  · rw [if_pos hc]
    have hr := h.row.room
    simp only [List.length_cons] at hr
    have : L = [] := List.eq_nil_of_length_eq_zero (by omega)
    subst this
    exact ⟨⟨Nat.zero_le _, Nat.zero_le _, (fun h => by cases h), fun ad ha j u hu => by simp at hu⟩, fun ad ha => by cases ha; exact h.tag _ rfl⟩
  · rw [if_neg hc]; exact row_tail h
theorem slice1 (b o n c : Nat) (w : World) : (Instr.sliceAt 78 (.slice (some ⟨b, o, none⟩) (n + 1) c) (some (.int .i64 1)) none none).run Tryz.prog w = .ok (.slice (some (tl b o c)) n (c - 1)) w := by
  have hu : Tryz.prog.underlying 78 = some (.slice (Tryz.prog.elem 78)) := by kernel_rfl
  have hs : (sizeOf (Tryz.prog.elem 78)).run Tryz.prog w = .ok 4 w := by kernel_rfl
  rw [run_sliceAt_slice (h := hu), run_slice_l (ht := hu) (h0 := by decide) (h1 := by omega), hs]
  simp only [Result.andThen_ok, sliced, tl]
  have e : (1 : Int).toNat = 1 := rfl
  rw [e]
  by_cases hc : c = 1
  · rw [if_pos hc, if_pos hc]; simp
  · rw [if_neg hc, if_neg hc]; simp [Addr.add_lit]
end Go.Proofs.YtpdmmmdkpipmkaaGreatDoor
