/-
  The functions of one byte, the program's and the reference's: what they answer; the world is as it was.
-/
import Derived.WalkMore
import Derived.Shelf.Abstract
import Derived.Defers
import Derived.Recover
import Derived.Lib.LaidTab
import Derived.Test.YtpdmmmdkpipmkaaGreatDoorQSk
import Derived.Test.YtpdmmmdkpipmkaaGreatDoorQE8
import Derived.Test.YtpdmmmdkpipmkaaGreatDoorQLb
import Derived.Test.YtpdmmmdkpipmkaaGreatDoorQSt
set_option maxRecDepth 100000
set_option maxHeartbeats 1000000
namespace Go.Proofs.YtpdmmmdkpipmkaaGreatDoor
open Go.RowKit
theorem lsmall_at (c: UInt8) (w: World): Calls Tryz.prog 106 #[.int .u8 (c.toNat: Int)] w fun e w' => e = .returned (.bool (Lx.small c)) ∧ w = w':= by
 generalize hk: c.toNat = k
 go_enter Tryz.func106,Tryz.ntmps106
 go_wp2
 all_goals (go_ret;refine ⟨ret_bool ?_,rfl⟩;simp only [Lx.small,hk])
 all_goals (rw [Bool.eq_iff_iff];simp;try omega)
theorem lgreat_at (c: UInt8) (w: World): Calls Tryz.prog 108 #[.int .u8 (c.toNat: Int)] w fun e w' => e = .returned (.bool (Lx.great c)) ∧ w = w':= by
 generalize hk: c.toNat = k
 go_enter Tryz.func108,Tryz.ntmps108
 go_wp2
 all_goals (go_ret;refine ⟨ret_bool ?_,rfl⟩;simp only [Lx.great,hk])
 all_goals (rw [Bool.eq_iff_iff];simp;try omega)
theorem ldigit_at (c: UInt8) (w: World): Calls Tryz.prog 109 #[.int .u8 (c.toNat: Int)] w fun e w' => e = .returned (.bool (Lx.digit c)) ∧ w = w':= by
 generalize hk: c.toNat = k
 go_enter Tryz.func109,Tryz.ntmps109
 go_wp2
 all_goals (go_ret;refine ⟨ret_bool ?_,rfl⟩;simp only [Lx.digit,hk])
 all_goals (rw [Bool.eq_iff_iff];simp;try omega)
theorem lplain_at (c: UInt8) (w: World): Calls Tryz.prog 155 #[.int .u8 (c.toNat: Int)] w fun e w' => e = .returned (.bool (Lx.plain c)) ∧ w = w':= by
 generalize hk: c.toNat = k
 go_enter Tryz.func155,Tryz.ntmps155
 go_wp2
 all_goals (go_ret;refine ⟨ret_bool ?_,rfl⟩;simp only [Lx.plain,hk])
 all_goals (rw [Bool.eq_iff_iff];simp;try omega)
theorem lnolf_at (c: UInt8) (w: World): Calls Tryz.prog 105 #[.int .u8 (c.toNat: Int)] w fun e w' => e = .returned (.bool (Lx.noLf c)) ∧ w = w':= by
 generalize hk: c.toNat = k
 go_enter Tryz.func105,Tryz.ntmps105
 go_wp2
 all_goals (go_ret;refine ⟨ret_bool ?_,rfl⟩;simp only [Lx.noLf,hk])
 all_goals (rw [Bool.eq_iff_iff];simp;try omega)
theorem linner_at (c: UInt8) (w: World): Calls Tryz.prog 153 #[.int .u8 (c.toNat: Int)] w fun e w' => e = .returned (.bool (Lx.inner c)) ∧ w = w':= by
 have h1:= hideP (lsmall_at c)
 have h2:= hideP (lgreat_at c)
 have h3:= hideP (ldigit_at c)
 have hi: Lx.inner c = (Lx.small c || Lx.great c || Lx.digit c || decide (c.toNat = 95)):= rfl
 generalize Lx.inner c = r at *
 generalize Lx.small c = s1 at *
 generalize Lx.great c = s2 at *
 generalize Lx.digit c = s3 at *
 generalize hk: c.toNat = k at *
 have HI:= hideP hi
 clear hi
 go_enter Tryz.func153,Tryz.ntmps153
 go_wp2_with (first
  | (go_at_call 106;refine (h1.out _).mono ?_;rintro e w1 ⟨rfl,rfl⟩)
  | (go_at_call 108;refine (h2.out _).mono ?_;rintro e w1 ⟨rfl,rfl⟩)
  | (go_at_call 109;refine (h3.out _).mono ?_;rintro e w1 ⟨rfl,rfl⟩))
 all_goals (go_ret;refine ⟨ret_bool ?_,rfl⟩;rw [HI.out])
 all_goals (simp_all <;> (rw [Bool.eq_iff_iff];simp;try omega))
end Go.Proofs.YtpdmmmdkpipmkaaGreatDoor
namespace Go.Proofs.YtpdmmmdkpipmkaaGreatDoor
open Go.RowKit Go.Lib Go.Shelf
theorem endOf_at (F: Nat) (p: UInt8 → Bool) (hp: ∀ (c: UInt8) w,Calls Tryz.prog F #[.int .u8 (c.toNat: Int)] w fun e w' => e = .returned (.bool (p c)) ∧ w = w') (l: List UInt8) (i: Nat) (w: World) (hE: ∀ args w,(callFunc F args).run Tryz.prog w = .ok (.enter F args) w) (hr: l.length ≤ 281474976710656) (hi: i ≤ l.length):
 Calls Tryz.prog 104 #[str l,.int .i64 (i: Int),.func (.func F) #[] #[]] w fun e w' => e = .returned (.int .i64 (Lx.run p l i: Int)) ∧ w = w':= by
 have HP:= hideP hp
 clear hp
 have hsz:= str_size l
 go_enter Tryz.func104,Tryz.ntmps104
 go_wp2_with fail
 go_loop [1] (fun x => ∃ k: Nat,x = .int .i64 (k: Int) ∧ k ≤ l.length ∧ Lx.run p l i = Lx.run p l k) (fun x => l.length - (RowKit.intOf x).toNat)
 case atStart => exact ⟨i,rfl,hi,rfl⟩
 case round =>
  obtain ⟨k,rfl,hk,he⟩:= hrel
  have HE:= hideP he
  clear he
  rcases Nat.lt_or_ge k l.length with hlt | hge
  ·have hlt': (k: Int) < (l.length: Int):= by omega
   have D:= hideP (HP.out l[k])
   have S1:= hideP (fun h => Lx.run_step (p:= p) (l:= l) (i:= k) hlt h)
   have S2:= hideP (fun h => Lx.run_stop (p:= p) (l:= l) (i:= k) hlt h)
   generalize p l[k] = b at *
   go_wp2_with (refine (D.out _).mono ?_;rintro e w1 ⟨rfl,rfl⟩)
   ·refine ⟨⟨k + 1,by go_num,by omega, ?_⟩,by simp [RowKit.intOf];omega⟩
    rw [HE.out,S1.out (by assumption)]
   ·go_ret
    refine ⟨?_,rfl⟩
    rw [HE.out,S2.out (by simp_all)];rfl
  ·have hge': ¬ (k: Int) < (l.length: Int):= by omega
   go_wp2_with fail
   go_ret
   refine ⟨?_,rfl⟩
   rw [HE.out,Lx.run_end hge];rfl
theorem enter_skip1 (args: Array Value) (w: World): (callFunc 105 args).run Tryz.prog w = .ok (.enter 105 args) w:= enters_of Tryz.func105 (by kernel_rfl) rfl args w
theorem enter_word1 (args: Array Value) (w: World): (callFunc 153 args).run Tryz.prog w = .ok (.enter 153 args) w:= enters_of Tryz.func153 (by kernel_rfl) rfl args w
theorem enter_quot1 (args: Array Value) (w: World): (callFunc 155 args).run Tryz.prog w = .ok (.enter 155 args) w:= enters_of Tryz.func155 (by kernel_rfl) rfl args w
theorem enter_digit (args: Array Value) (w: World): (callFunc 109 args).run Tryz.prog w = .ok (.enter 109 args) w:= enters_of Tryz.func109 (by kernel_rfl) rfl args w
theorem lskip_at (l: List UInt8) (i: Nat) (w: World) (hr: l.length ≤ 281474976710656) (hi: i ≤ l.length):
 Calls Tryz.prog 68 #[str l,.int .i64 (i: Int)] w fun e w' => e = .returned (.int .i64 (Lx.skip l i: Int)) ∧ w = w':= by
 have hsz:= str_size l
 go_enter Tryz.func68,Tryz.ntmps68
 go_wp2_with fail
 go_step3
 go_wp2_with fail
 go_step3
 go_wp2_with fail
 go_loop [1] (fun x => ∃ k: Nat,x = .int .i64 (k: Int) ∧ k ≤ l.length ∧ Lx.skip l i = Lx.skip l k) (fun x => l.length - (RowKit.intOf x).toNat)
 case atStart => exact ⟨i,rfl,hi,rfl⟩
 case round =>
  obtain ⟨k,rfl,hk,he⟩:= hrel
  have HE:= hideP he
  clear he
  rcases Nat.lt_or_ge k l.length with hlt | hge
  ·have hlt': (k: Int) < (l.length: Int):= by omega
   have E:= hideP (endOf_at 105 Lx.noLf lnolf_at l k w enter_skip1 hr hk)
   have S1:= hideP (fun h => Lx.skip_blank (l:= l) (i:= k) hlt h)
   have S2:= hideP (fun h h' => Lx.skip_other (l:= l) (i:= k) hlt h h')
   have S3:= hideP (fun h => Lx.skip_note (l:= l) (i:= k) hlt h)
   have S4:= hideP (fun h => Lx.run_step (p:= Lx.noLf) (l:= l) (i:= k) hlt h)
   have R1:= hideP (Lx.run_le Lx.noLf hk)
   have R2:= hideP (Lx.le_run Lx.noLf l (k + 1))
   generalize hc: l[k] = c at *
   have hb: Lx.blank c = (decide (c.toNat = 32) || decide (c.toNat = 9) || decide (c.toNat = 10) || decide (c.toNat = 13)):= rfl
   have hn: Lx.noLf c = !decide (c.toNat = 10):= rfl
   generalize Lx.blank c = b at *
   generalize Lx.noLf c = n at *
   have hg: ∀ h,((⟨l.toArray⟩: ByteArray)[k]'h).toNat = c.toNat:= fun _ => by rw [← hc];rfl
   generalize hx: c.toNat = x at *
   have HB:= hideP hb
   have HN:= hideP hn
   clear hb hn
   go_wp2_with (refine E.out.mono ?_;rintro e w1 ⟨rfl,rfl⟩)
   all_goals simp only [hg,beq_iff_eq,beq_eq_false_iff_ne,ne_eq] at *
   all_goals first
    | (refine ⟨⟨k + 1,by go_num,by omega, ?_⟩,by simp [RowKit.intOf];omega⟩
       rw [HE.out,S1.out (by rw [HB.out];simp;omega)])
    | (have e37: x = 37:= by omega
       have r1:= R1.out
       have r2:= R2.out
       have r4:= S4.out (by rw [HN.out];simp;omega)
       refine ⟨⟨Lx.run Lx.noLf l k,rfl,r1, ?_⟩, ?_⟩
       ·rw [HE.out,S3.out e37]
       ·simp [RowKit.intOf];omega)
    | (try rw [Exit.noGoto_ret]
       go_ret
       refine ⟨?_,rfl⟩
       rw [HE.out,S2.out (by rw [HB.out];simp;omega) (by omega)];rfl)
  ·have hge': ¬ (k: Int) < (l.length: Int):= by omega
   go_wp2_with fail
   go_ret
   refine ⟨?_,rfl⟩
   rw [HE.out];unfold Lx.skip;rw [Lx.skipN_end hge];rfl
end Go.Proofs.YtpdmmmdkpipmkaaGreatDoor
namespace Go.Proofs.YtpdmmmdkpipmkaaGreatDoor
open Go.RowKit Go.Lib Go.Shelf
def tokv (t: Lx.Tok): List Value:= [.int .i64 t.kind,str t.text,.int .i64 t.n,.int .i64 (t.pl: Int)]
def kT: Kd Lx.Tok:= ⟨tokv,4,fun _ => rfl,fun _ => rfl,by decide⟩
def pz: Lx.Tok:= ⟨0,[],0,0⟩
def pres: Option (Lx.Tok × Nat) → Lx.Tok × Nat × Int
 | none => (pz,0,70)
 | some (t,e) => if 32 < t.text.length then (pz,0,71) else (t,e,0)
def tokR (r: Lx.Tok × Nat × Int): Ending:= .returned (.tuple #[.agg (tokv r.1).toArray,.int .i64 (r.2.1: Int),.int .i64 r.2.2])
theorem results_cell_two {P: Program} {fn: Func} {p q r: Tmp} {ty: TypeId} {tmps: Array Value} {w: World} {b: Nat} {C: Array Value} {d: TypeDesc} {T: TypeId} (h: fn.results = #[.cell p ty,.tmp q,.tmp r]) (hp: tmps.getD p undef = .pointer (some ⟨b,0,none⟩)) (hc: w.heap[b]? = some (.cells C T))
 (hu: P.underlying ty = some d) (hd: d.isRow = true) (hi: (P.info? ty).map (·.size) = some C.size): (results fn tmps).run P w = .ok (.tuple #[.agg C,tmps.getD q undef,tmps.getD r undef]) w:= by
 have hr: w.rangeAt b 0 C.toList:= by
  have:= World.rangeAt_of_block hc 0 C.size
  simpa using this
 simp only [Array.getD_eq_getD_getElem?] at hp ⊢
 simp only [results,h]
 simp [asAddr,hp,run_loadVar_mid w b 0 ty C.toList d hr hu hd (by simpa using hi)]
theorem extract_sub (l: List UInt8) (i j: Nat) (_h: j ≤ l.length): (⟨l.toArray⟩: ByteArray).extract i j = ⟨(Lx.sub l i j).toArray⟩:= by
 apply ByteArray.ext
 simp only [ByteArray.data_extract,Lx.sub]
 apply Array.ext'
 simp [List.extract_eq_take_drop]
abbrev zTok: Obj:= .cells #[.int .i64 0,.string .empty,.int .i64 0,.int .i64 0] 121
theorem word_at (k: Int) (l: List UInt8) (i: Nat) (w: World) (hr: l.length ≤ 281474976710656) (hi: i ≤ l.length):
 Calls Tryz.prog 107 #[str l,.int .i64 (i: Int),.int .i64 k] w fun e w' => e = tokR (pres (Lx.word k l i)) ∧ Below w.heap.size w w':= by
 have hsz:= str_size l
 have iN: (Tryz.prog.info? 121).map (·.size) = some 4:= by kernel_rfl
 have E:= hideP (fun w => endOf_at 153 Lx.inner linner_at l i w enter_word1 hr hi)
 have R1:= Lx.run_le Lx.inner hi
 have R2:= Lx.le_run Lx.inner l i
 have hw: Lx.word k l i = some (⟨k,Lx.sub l i (Lx.run Lx.inner l i),0,i⟩,Lx.run Lx.inner l i):= rfl
 have hs:= extract_sub l i (Lx.run Lx.inner l i) R1
 have hl:= Lx.sub_length (i:= i) R1
 generalize Lx.run Lx.inner l i = j at *
 have HW:= hideP hw
 clear hw
 have H0:= heap_alloc_new w zTok
 have B0:= below_alloc w zTok
 go_enter Tryz.func107,Tryz.ntmps107
 go_wp2_with (first
  | (go_at_call 104;refine (E.out _).mono ?_;rintro e w1 ⟨rfl,rfl⟩)
  | (refine wpList_store_all rfl 121 _ _ rfl w.heap.size 4 _ 121 _ rfl rfl H0 rfl rfl iN rfl ?_;intro w4 H4 b4))
 all_goals refine bodyPost_ret (results_cell_two rfl rfl H4 Tryz.underlying121 rfl (by kernel_rfl)) rfl ⟨?_,below_tok b4⟩
 ·rw [HW.out,pres,if_pos (by simp only [hl];omega)];rfl
 ·rw [HW.out,pres,if_neg (by simp only [hl];omega)];rfl
end Go.Proofs.YtpdmmmdkpipmkaaGreatDoor
namespace Go.Proofs.YtpdmmmdkpipmkaaGreatDoor
open Go.RowKit Go.Lib Go.Shelf
structure PAt (w: World) (p E: Nat) (L: List Lx.Tok): Prop where
 obj: ∃ a c,w.heap[p]? = some (.cells #[.slice a L.length c,.int .i64 (E: Int)] 83) ∧ RowT kT 121 w a c L
theorem PAt.below {w w': World} {p E: Nat} {L: List Lx.Tok} (h: PAt w p E L) (hb: Below w.heap.size w w'): PAt w' p E L:= by
 obtain ⟨a,c,h1,h2⟩:= h.obj
 exact ⟨a,c,below_heap hb h1,h2.safe (Safe.below hb)⟩
theorem PAt.lt {w: World} {p E: Nat} {L: List Lx.Tok} (h: PAt w p E L): p < w.heap.size:= by
 obtain ⟨a,c,h1,_⟩:= h.obj
 exact heap_lt h1
theorem PAt.safe {ty: TypeId} {w w': World} {p E: Nat} {L: List Lx.Tok} (h: PAt w p E L) (hb: But p w w') (hn: ty ≠ 83): Safe ty w w':= by
 obtain ⟨a,c,h1,_⟩:= h.obj
 exact Safe.but hb h1 hn
theorem PAt.but {w w': World} {p E g: Nat} {L: List Lx.Tok} {C: Array Value} {T: TypeId} (h: PAt w p E L) (hb: But g w w') (hg: w.heap[g]? = some (.cells C T)) (h1: T ≠ 83) (h2: T ≠ 121): PAt w' p E L:= by
 obtain ⟨a,c,q1,q2⟩:= h.obj
 exact ⟨a,c,Safe.but hb hg (Ne.symm h1) _ _ q1,q2.safe (Safe.but hb hg (Ne.symm h2))⟩
theorem PAt.grown {w w': World} {p E base k n: Nat} {L: List Lx.Tok} {T: TypeId} {v: Value} {xs: List Value} (h: PAt w p E L) (ho: w.ownsRow base T k v n xs) (hg: w.grownBy w' v.ownBlock) (h1: T ≠ 83) (h2: T ≠ 121): PAt w' p E L:= by
 obtain ⟨a,c,q1,q2⟩:= h.obj
 exact ⟨a,c,Safe.grown ho hg (Ne.symm h1) _ _ q1,q2.safe (Safe.grown ho hg (Ne.symm h2))⟩
def Pan (x: Nat × Int): Ending:= .panicked [{ v:= .iface 85 (.agg #[.int .i64 (x.1: Int),.int .i64 x.2]),recovered:= false }]
def Does {α: Type} (p E: Nat) (w: World) (r: Ps.Rz α) (V: α → Value → World → Prop) (e: Ending) (w': World): Prop:=
 But p w w' ∧ match r with
 | .ok (v,L) => (∃ u,e = .returned u ∧ V v u w') ∧ PAt w' p E L
 | .error x => e = Pan x
theorem row_tail {w: World} {b o c: Nat} {t: Lx.Tok} {L: List Lx.Tok} (h: RowT kT 121 w (some ⟨b,o,none⟩) c (t:: L)): RowT kT 121 w (some ⟨b,o + 4,none⟩) (c - 1) L:= by
 refine ⟨⟨?_, ?_,(fun h => by cases h),fun ad ha j u hu => ?_⟩,fun ad ha => ?_⟩
 ·have:= h.row.room;simp only [List.length_cons] at this;omega
 ·have:= h.row.few;simp only [List.length_cons] at this;omega
 ·cases ha
  have:= h.row.cells _ rfl (4 + j) u (by
   rw [List.flatMap_cons,List.getElem?_append_right (by rw [kT.len];show 4 ≤ 4 + j;omega),kT.len]
   show (L.flatMap tokv)[4 + j - 4]? = some u
   rw [show 4 + j - 4 = j by omega];exact hu)
  rw [Addr.add_lit] at this ⊢
  rw [← this,Nat.add_assoc]
 ·cases ha
  exact h.tag ⟨b,o,none⟩ rfl
def tl (b o c: Nat): Addr:= if c = 1 then ⟨b,o,none⟩ else ⟨b,o + 4,none⟩
theorem row_tl {w: World} {b o c: Nat} {t: Lx.Tok} {L: List Lx.Tok} (h: RowT kT 121 w (some ⟨b,o,none⟩) c (t:: L)): RowT kT 121 w (some (tl b o c)) (c - 1) L:= by
 unfold tl
 by_cases hc: c = 1
 ·rw [if_pos hc]
  have hr:= h.row.room
  simp only [List.length_cons] at hr
  have: L = []:= List.eq_nil_of_length_eq_zero (by omega)
  subst this
  exact ⟨⟨Nat.zero_le _,Nat.zero_le _,(fun h => by cases h),fun ad ha j u hu => by simp at hu⟩,fun ad ha => by cases ha;exact h.tag _ rfl⟩
 ·rw [if_neg hc];exact row_tail h
theorem slice1 (b o n c: Nat) (w: World): (Instr.sliceAt 78 (.slice (some ⟨b,o,none⟩) (n + 1) c) (some (.int .i64 1)) none none).run Tryz.prog w = .ok (.slice (some (tl b o c)) n (c - 1)) w:= by
 have hu: Tryz.prog.underlying 78 = some (.slice (Tryz.prog.elem 78)):= by kernel_rfl
 have hs: (sizeOf (Tryz.prog.elem 78)).run Tryz.prog w = .ok 4 w:= by kernel_rfl
 rw [run_sliceAt_slice (h:= hu),run_slice_l (ht:= hu) (h0:= by decide) (h1:= by omega),hs]
 simp only [Result.andThen_ok,sliced,tl]
 have e: (1: Int).toNat = 1:= rfl
 rw [e]
 by_cases hc: c = 1
 ·rw [if_pos hc,if_pos hc];simp
 ·rw [if_neg hc,if_neg hc];simp [Addr.add_lit]
end Go.Proofs.YtpdmmmdkpipmkaaGreatDoor
namespace Go.Proofs.YtpdmmmdkpipmkaaGreatDoor
open Go.RowKit Go.Lib Go.Shelf
structure Laid (w: World): Prop where
 tab: Lib.TabIs Tryz.prog w "internal/strconv.uint64pow10" .u64 Lib.pow10Tab
 syn: ∃ te pe,w.cell? ⟨2,0,none⟩ = some (.iface te pe)
 rng: ∃ te pe,w.cell? ⟨3,0,none⟩ = some (.iface te pe)
theorem Tryz.gTab: Tryz.prog.globalNamed "internal/strconv.uint64pow10" = some 1:= by kernel_rfl
theorem Laid.below {w w': World} (h: Laid w) (hb: Below w.heap.size w w'): Laid w':= by
 obtain ⟨h1,⟨t2,p2,h2⟩,⟨t3,p3,h3⟩⟩:= h
 refine ⟨?_,⟨t2,p2,by rw [hb.cell (cell_block h2)];exact h2⟩,⟨t3,p3,by rw [hb.cell (cell_block h3)];exact h3⟩⟩
 unfold Lib.TabIs World.var? at *
 rw [Tryz.gTab] at *
 simp only [Option.bind_some] at *
 have hl: 1 < w.heap.size:= by
  rcases Nat.lt_or_ge 1 w.heap.size with h' | h'
  ·exact h'
  ·simp [h'] at h1
 rw [hb.block 1 hl];exact h1
theorem Laid.drew {w: World} (h: Laid w): Laid w.drew:= h.below ((Below.refl _ _).drew)
theorem atoi_ok (s: List UInt8) (v: Int) (w: World) (hr: s.length ≤ 281474976710656) (h: Lib.atoiAll s = .ok v):
 Calls Tryz.prog 154 #[str s] w fun e w' => e = .returned (.tuple #[.int .i64 v,.nilIface]) ∧ Below w.heap.size w w':= by
 refine (Any.strconv_Atoi_ok Tryz.atoiLays ⟨s.toArray⟩ (by rw [str_size];omega) v (by simpa using h) w).mono ?_
 rintro e w' ⟨rfl,rfl | ⟨t,rfl⟩⟩
 ·exact ⟨rfl,Below.refl _ _⟩
 ·exact ⟨rfl,Lib.bytesWorld_below _ _ _⟩
theorem atoi_no (s: List UInt8) (w: World) (hr: s.length ≤ 281474976710656) (hL: Laid w) (h: ¬ ∃ v,Lib.atoiAll s = .ok v):
 Calls Tryz.prog 154 #[str s] w fun e w' => (∃ (n: Int) (N: Nat),e = .returned (.tuple #[.int .i64 n,.iface 275 (.pointer (some ⟨N,0,none⟩))])) ∧ Below w.heap.size w w':= by
 cases h1: Lib.atoiAll s with
 | ok v => exact absurd ⟨v,h1⟩ h
 | range =>
  obtain ⟨te,pe,hc⟩:= hL.rng
  refine (Any.strconv_Atoi_range Tryz.atoiLays ⟨s.toArray⟩ (by rw [str_size];exact hr) (by simpa using h1) _ w hc (.inr ⟨te,pe,rfl⟩)).mono ?_
  rintro e w' ⟨N,rfl,_,_,hb⟩
  exact ⟨⟨_,N,rfl⟩,hb⟩
 | _ =>
  obtain ⟨te,pe,hc⟩:= hL.syn
  refine (Any.strconv_Atoi_syntax Tryz.atoiLays ⟨s.toArray⟩ (by rw [str_size];exact hr) (by simpa using h1) _ w hc (.inr ⟨te,pe,rfl⟩)).mono ?_
  rintro e w' ⟨N,rfl,_,_,hb⟩
  exact ⟨⟨_,N,rfl⟩,hb⟩
theorem itoa_at (n: Int) (w: World) (h0: -9223372036854775808 ≤ n) (h1: n ≤ 9223372036854775807) (hL: Laid w):
 Calls Tryz.prog 78 #[.int .i64 n] w fun e w' => e = .returned (str (Lib.itoa n)) ∧ Below w.heap.size w w':= by
 refine (Any.strconv_Itoa Tryz.itoaLays n h0 h1 w hL.tab).mono ?_
 rintro e w' ⟨rfl,k,os,rfl⟩
 exact ⟨rfl,Grew.below ⟨k,os,rfl⟩⟩
end Go.Proofs.YtpdmmmdkpipmkaaGreatDoor
