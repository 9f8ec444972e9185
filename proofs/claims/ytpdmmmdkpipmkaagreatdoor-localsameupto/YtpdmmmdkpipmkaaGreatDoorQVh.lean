/-
  The program's search of a rule's places.
-/
import Derived.Test.YtpdmmmdkpipmkaaGreatDoorQVg
set_option maxRecDepth 100000
set_option maxHeartbeats 800000
namespace Go.Proofs.YtpdmmmdkpipmkaaGreatDoor
open Go.RowKit Go.Lib Go.Shelf
def srV (o: Option Int): Value:= match o with | some k => .tuple #[.int .i64 k,.bool true] | none => .tuple #[.int .i64 0,.bool false]
def hdv (x: Rv): Lv:= ⟨x.home,x.pred,x.a,x.cap,x.args,x.to_⟩
theorem search0_at (F: Nat) (f: Ck.Fd) (bm: Nat) (x: Rv) (s: Ck.Seen) (w: World) (hE: ∀ args w,(callFunc F args).run Tryz.prog w = .ok (.enter F args) w) (hF: FnAt F #[] f bm w) (hx: Rv.Aw w x) (hs: SizesAt w bm s) (hsh: Ck.Shown x.r) (hl: s.length ≤ 500) (hf: ∀ s k y,(f s k y).2.length ≤ s.length + 1):
 Calls Tryz.prog 73 #[rval x,.func (.func F) #[] #[]] w fun e w' => e = .returned (srV (Ck.srch f s x.r).2) ∧ SizesAt w' bm (Ck.srch f s x.r).1 ∧ But bm w w':= by
 have iL: (Tryz.prog.info? 52).map (·.size) = some 10:= by kernel_rfl
 have A0:= below_alloc w (.cells (rv x).toArray 48)
 have H0:= heap_alloc_new w (.cells (rv x).toArray 48)
 obtain ⟨es,clock,hm0⟩:= hs.map
 have hrl: x.r.body.length = x.body.length:= List.length_map ..
 have hb4: x.body.length ≤ 4:= by have:= hsh.few;omega
 have T0: Hid (Calls Tryz.prog F #[.int .i64 (-1),lval (hdv x)] (w.alloc (.cells (rv x).toArray 48)) fun e w' => e = .returned (.bool (f s (-1) (Ck.hdL x.r)).1) ∧ SizesAt w' bm (f s (-1) (Ck.hdL x.r)).2 ∧ But bm (w.alloc (.cells (rv x).toArray 48)) w'):=
  hF s (-1) (hdv x) _ (But.of_below A0) (hs.next A0) (by omega) (hx.args.below A0 (Nat.le_refl _)) hsh.head (by omega)
 have TF: Hid (∀ (s: Ck.Seen) (k: Int) (y: Lv) (W: World),But bm w W → SizesAt W bm s → s.length ≤ 1000 → Lv.Aw W y → Ck.Small y.l → -1 ≤ k →
  Calls Tryz.prog F #[.int .i64 k,lval y] W fun e w' => e = .returned (.bool (f s k y.l).1) ∧ SizesAt w' bm (f s k y.l).2 ∧ But bm W w'):= hF
 have HSR: Hid (Ck.srch f s x.r = if (f s (-1) (Ck.hdL x.r)).1 = true then ((f s (-1) (Ck.hdL x.r)).2,some (-1)) else Ck.srL f (f s (-1) (Ck.hdL x.r)).2 0 x.r.body):= rfl
 have L0:= hf s (-1) (Ck.hdL x.r)
 clear hF
 generalize (f s (-1) (Ck.hdL x.r)).2 = s1 at *
 cases hq: (f s (-1) (Ck.hdL x.r)).1 with
 | true =>
  rw [hq,if_pos rfl] at HSR
  rw [hq] at T0
  go_enter Tryz.func73,Tryz.ntmps73
  go_wp2_with fail
  refine T0.out.mono ?_
  rintro e w1 ⟨rfl,s2,b2⟩
  go_wp2_with fail
  go_ret2
  rw [HSR.out]
  exact ⟨rfl,s2,(But.of_below A0).trans b2⟩
 | false =>
  rw [hq,if_neg (by decide)] at HSR
  rw [hq] at T0
  clear hq
  go_enter Tryz.func73,Tryz.ntmps73
  go_wp2_with fail
  refine T0.out.mono ?_
  rintro e w1 ⟨rfl,s2,b2⟩
  have B2: But bm w w1:= (But.of_below A0).trans b2
  have hne: w.heap.size ≠ bm:= fun e => by have:= hs.lt;omega
  have H2:= b2.heap hne H0
  have c2:= (rule_parts10 H2).2.2.2.2.2.2
  clear T0 b2 H2 H0
  go_wp2_with fail
  go_loopw [6,7,22] (fun _ _ v22 wr => ∃ (j: Nat) (s': Ck.Seen),v22 = .int .i64 (j: Int) ∧ j ≤ x.body.length ∧ SizesAt wr bm s' ∧ But bm w wr ∧ Hid (Ck.srch f s x.r = Ck.srL f s' j (x.r.body.drop j)) ∧ s'.length ≤ 501 + j) (fun _ _ v22 _ => x.body.length - (RowKit.intOf v22).toNat)
  case atStart => exact ⟨0,s1,rfl,Nat.zero_le _,s2,B2,by rw [List.drop_zero];exact HSR,by omega⟩
  case round =>
   obtain ⟨j,s',rfl,hj,S3,B3,HJ,hjl⟩:= hrel
   by_cases hlt: j < x.body.length
   ·have q: (j: Int) < (x.body.length: Int):= by omega
    have hjr: j < x.r.body.length:= by omega
    have hyr: x.r.body[j] = (x.body[j]'hlt).l:= by simp [Rv.r]
    obtain ⟨P1,O1,hP⟩:= hx.body.addr (Nat.lt_of_le_of_lt (Nat.zero_le _) hlt)
    have r1: wr.rangeAt P1 (O1 + j * 10) (lv (x.body[j]'hlt)):= by
     have:= hx.body.map B3 hm0
     rw [hP] at this
     exact this.range j hlt
    have aY: Lv.Aw wr (x.body[j]'hlt):= Row.map (hx.each _ (List.getElem_mem hlt)) B3 hm0
    have sY:= hsh.body _ (List.getElem_mem hjr)
    rw [hyr] at sY
    rw [List.drop_eq_getElem_cons hjr,Ck.srL,hyr] at HJ
    generalize (x.body[j]'hlt) = y at *
    have L1:= hf s' (j: Int) y.l
    rw [hP]
    have iP: (Tryz.prog.info? 52).map (·.size) = some (lv y).length:= iL
    have TF':= hideP (fun W b S A => TF.out s' (j: Int) y W b S (by omega) A sY (by omega))
    clear hyr
    cases hq: (f s' (j: Int) y.l).1 with
    | true =>
     rw [hq,if_pos rfl] at HJ
     rw [hq] at TF'
     clear hq
     go_upto_region 6 with (first
      | (refine wpList_load_mid rfl 52 _ rfl P1 (O1 + j * 10) rfl (lv y) _ r1 Tryz.underlying52 rfl iP ?_)
      | (refine wpList_store_all rfl 52 _ _ rfl wr.heap.size 10 _ 52 (lv y) rfl rfl (heap_alloc_new wr _) rfl rfl iL rfl ?_;intro w5 H5 d5;have b5:= below_tok d5))
     go_wp2_with (refine wpList_load_all rfl 52 _ rfl wr.heap.size 10 52 (lv y) _ rfl H5 rfl Tryz.underlying52 rfl iL ?_)
     refine (TF'.out w5 (B3.below b5) (S3.next b5) (aY.below b5 (Nat.le_refl _))).mono ?_
     rintro e w6 ⟨rfl,s6,b6⟩
     go_wp2_with fail
     go_ret2
     rw [HJ.out]
     exact ⟨rfl,s6,(B3.below b5).trans b6⟩
    | false =>
     rw [hq,if_neg (by decide)] at HJ
     rw [hq] at TF'
     clear hq
     go_upto_region 6 with (first
      | (refine wpList_load_mid rfl 52 _ rfl P1 (O1 + j * 10) rfl (lv y) _ r1 Tryz.underlying52 rfl iP ?_)
      | (refine wpList_store_all rfl 52 _ _ rfl wr.heap.size 10 _ 52 (lv y) rfl rfl (heap_alloc_new wr _) rfl rfl iL rfl ?_;intro w5 H5 d5;have b5:= below_tok d5))
     go_wp2_with (refine wpList_load_all rfl 52 _ rfl wr.heap.size 10 52 (lv y) _ rfl H5 rfl Tryz.underlying52 rfl iL ?_)
     refine (TF'.out w5 (B3.below b5) (S3.next b5) (aY.below b5 (Nat.le_refl _))).mono ?_
     rintro e w6 ⟨rfl,s6,b6⟩
     go_wp2_with fail
     exact ⟨⟨j + 1,_,by go_num,by omega,s6,(B3.below b5).trans b6,HJ,by omega⟩,by simp [RowKit.intOf];omega⟩
   ·have q: ¬ (j: Int) < (x.body.length: Int):= by omega
    rw [List.drop_of_length_le (by omega),Ck.srL] at HJ
    go_wp2_with fail
    go_ret2
    rw [HJ.out]
    exact ⟨rfl,S3,B3⟩
theorem search1_at (F: Nat) (bv: Value) (f: Ck.Fd) (bm: Nat) (x: Rv) (s: Ck.Seen) (w: World) (hE: ∀ args w,(callFunc F args).run Tryz.prog w = .ok (.enter F args) w) (hF: FnAt F #[bv] f bm w) (hx: Rv.Aw w x) (hs: SizesAt w bm s) (hsh: Ck.Shown x.r) (hl: s.length ≤ 500) (hf: ∀ s k y,(f s k y).2.length ≤ s.length + 1):
 Calls Tryz.prog 73 #[rval x,.func (.func F) #[] #[bv]] w fun e w' => e = .returned (srV (Ck.srch f s x.r).2) ∧ SizesAt w' bm (Ck.srch f s x.r).1 ∧ But bm w w':= by
 have iL: (Tryz.prog.info? 52).map (·.size) = some 10:= by kernel_rfl
 have A0:= below_alloc w (.cells (rv x).toArray 48)
 have H0:= heap_alloc_new w (.cells (rv x).toArray 48)
 obtain ⟨es,clock,hm0⟩:= hs.map
 have hrl: x.r.body.length = x.body.length:= List.length_map ..
 have hb4: x.body.length ≤ 4:= by have:= hsh.few;omega
 have T0: Hid (Calls Tryz.prog F #[.int .i64 (-1),lval (hdv x),bv] (w.alloc (.cells (rv x).toArray 48)) fun e w' => e = .returned (.bool (f s (-1) (Ck.hdL x.r)).1) ∧ SizesAt w' bm (f s (-1) (Ck.hdL x.r)).2 ∧ But bm (w.alloc (.cells (rv x).toArray 48)) w'):=
  hF s (-1) (hdv x) _ (But.of_below A0) (hs.next A0) (by omega) (hx.args.below A0 (Nat.le_refl _)) hsh.head (by omega)
 have TF: Hid (∀ (s: Ck.Seen) (k: Int) (y: Lv) (W: World),But bm w W → SizesAt W bm s → s.length ≤ 1000 → Lv.Aw W y → Ck.Small y.l → -1 ≤ k →
  Calls Tryz.prog F #[.int .i64 k,lval y,bv] W fun e w' => e = .returned (.bool (f s k y.l).1) ∧ SizesAt w' bm (f s k y.l).2 ∧ But bm W w'):= hF
 have HSR: Hid (Ck.srch f s x.r = if (f s (-1) (Ck.hdL x.r)).1 = true then ((f s (-1) (Ck.hdL x.r)).2,some (-1)) else Ck.srL f (f s (-1) (Ck.hdL x.r)).2 0 x.r.body):= rfl
 have L0:= hf s (-1) (Ck.hdL x.r)
 clear hF
 generalize (f s (-1) (Ck.hdL x.r)).2 = s1 at *
 cases hq: (f s (-1) (Ck.hdL x.r)).1 with
 | true =>
  rw [hq,if_pos rfl] at HSR
  rw [hq] at T0
  go_enter Tryz.func73,Tryz.ntmps73
  go_wp2_with fail
  refine T0.out.mono ?_
  rintro e w1 ⟨rfl,s2,b2⟩
  go_wp2_with fail
  go_ret2
  rw [HSR.out]
  exact ⟨rfl,s2,(But.of_below A0).trans b2⟩
 | false =>
  rw [hq,if_neg (by decide)] at HSR
  rw [hq] at T0
  clear hq
  go_enter Tryz.func73,Tryz.ntmps73
  go_wp2_with fail
  refine T0.out.mono ?_
  rintro e w1 ⟨rfl,s2,b2⟩
  have B2: But bm w w1:= (But.of_below A0).trans b2
  have hne: w.heap.size ≠ bm:= fun e => by have:= hs.lt;omega
  have H2:= b2.heap hne H0
  have c2:= (rule_parts10 H2).2.2.2.2.2.2
  clear T0 b2 H2 H0
  go_wp2_with fail
  go_loopw [6,7,22] (fun _ _ v22 wr => ∃ (j: Nat) (s': Ck.Seen),v22 = .int .i64 (j: Int) ∧ j ≤ x.body.length ∧ SizesAt wr bm s' ∧ But bm w wr ∧ Hid (Ck.srch f s x.r = Ck.srL f s' j (x.r.body.drop j)) ∧ s'.length ≤ 501 + j) (fun _ _ v22 _ => x.body.length - (RowKit.intOf v22).toNat)
  case atStart => exact ⟨0,s1,rfl,Nat.zero_le _,s2,B2,by rw [List.drop_zero];exact HSR,by omega⟩
  case round =>
   obtain ⟨j,s',rfl,hj,S3,B3,HJ,hjl⟩:= hrel
   by_cases hlt: j < x.body.length
   ·have q: (j: Int) < (x.body.length: Int):= by omega
    have hjr: j < x.r.body.length:= by omega
    have hyr: x.r.body[j] = (x.body[j]'hlt).l:= by simp [Rv.r]
    obtain ⟨P1,O1,hP⟩:= hx.body.addr (Nat.lt_of_le_of_lt (Nat.zero_le _) hlt)
    have r1: wr.rangeAt P1 (O1 + j * 10) (lv (x.body[j]'hlt)):= by
     have:= hx.body.map B3 hm0
     rw [hP] at this
     exact this.range j hlt
    have aY: Lv.Aw wr (x.body[j]'hlt):= Row.map (hx.each _ (List.getElem_mem hlt)) B3 hm0
    have sY:= hsh.body _ (List.getElem_mem hjr)
    rw [hyr] at sY
    rw [List.drop_eq_getElem_cons hjr,Ck.srL,hyr] at HJ
    generalize (x.body[j]'hlt) = y at *
    have L1:= hf s' (j: Int) y.l
    rw [hP]
    have iP: (Tryz.prog.info? 52).map (·.size) = some (lv y).length:= iL
    have TF':= hideP (fun W b S A => TF.out s' (j: Int) y W b S (by omega) A sY (by omega))
    clear hyr
    cases hq: (f s' (j: Int) y.l).1 with
    | true =>
     rw [hq,if_pos rfl] at HJ
     rw [hq] at TF'
     clear hq
     go_upto_region 6 with (first
      | (refine wpList_load_mid rfl 52 _ rfl P1 (O1 + j * 10) rfl (lv y) _ r1 Tryz.underlying52 rfl iP ?_)
      | (refine wpList_store_all rfl 52 _ _ rfl wr.heap.size 10 _ 52 (lv y) rfl rfl (heap_alloc_new wr _) rfl rfl iL rfl ?_;intro w5 H5 d5;have b5:= below_tok d5))
     go_wp2_with (refine wpList_load_all rfl 52 _ rfl wr.heap.size 10 52 (lv y) _ rfl H5 rfl Tryz.underlying52 rfl iL ?_)
     refine (TF'.out w5 (B3.below b5) (S3.next b5) (aY.below b5 (Nat.le_refl _))).mono ?_
     rintro e w6 ⟨rfl,s6,b6⟩
     go_wp2_with fail
     go_ret2
     rw [HJ.out]
     exact ⟨rfl,s6,(B3.below b5).trans b6⟩
    | false =>
     rw [hq,if_neg (by decide)] at HJ
     rw [hq] at TF'
     clear hq
     go_upto_region 6 with (first
      | (refine wpList_load_mid rfl 52 _ rfl P1 (O1 + j * 10) rfl (lv y) _ r1 Tryz.underlying52 rfl iP ?_)
      | (refine wpList_store_all rfl 52 _ _ rfl wr.heap.size 10 _ 52 (lv y) rfl rfl (heap_alloc_new wr _) rfl rfl iL rfl ?_;intro w5 H5 d5;have b5:= below_tok d5))
     go_wp2_with (refine wpList_load_all rfl 52 _ rfl wr.heap.size 10 52 (lv y) _ rfl H5 rfl Tryz.underlying52 rfl iL ?_)
     refine (TF'.out w5 (B3.below b5) (S3.next b5) (aY.below b5 (Nat.le_refl _))).mono ?_
     rintro e w6 ⟨rfl,s6,b6⟩
     go_wp2_with fail
     exact ⟨⟨j + 1,_,by go_num,by omega,s6,(B3.below b5).trans b6,HJ,by omega⟩,by simp [RowKit.intOf];omega⟩
   ·have q: ¬ (j: Int) < (x.body.length: Int):= by omega
    rw [List.drop_of_length_le (by omega),Ck.srL] at HJ
    go_wp2_with fail
    go_ret2
    rw [HJ.out]
    exact ⟨rfl,S3,B3⟩
end Go.Proofs.YtpdmmmdkpipmkaaGreatDoor
