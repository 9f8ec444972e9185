/-
  The program's fault and Program: what is wrong first.
-/
import Derived.Test.YtpdmmmdkpipmkaaGreatDoorQVh
set_option maxRecDepth 100000
set_option maxHeartbeats 400000
namespace Go.Proofs.YtpdmmmdkpipmkaaGreatDoor
open Go.RowKit Go.Lib Go.Shelf
theorem enter_hasNumber (args: Array Value) (w: World): (callFunc 74 args).run Tryz.prog w = .ok (.enter 74 args) w:= enters_of Tryz.func74 (by kernel_rfl) rfl args w
theorem enter_other1 (args: Array Value) (w: World): (callFunc 124 args).run Tryz.prog w = .ok (.enter 124 args) w:= enters_of Tryz.func124 (by kernel_rfl) rfl args w
theorem enter_free1 (args: Array Value) (w: World): (callFunc 125 args).run Tryz.prog w = .ok (.enter 125 args) w:= enters_of Tryz.func125 (by kernel_rfl) rfl args w
theorem enter_out2 (args: Array Value) (w: World): (callFunc 129 args).run Tryz.prog w = .ok (.enter 129 args) w:= enters_of Tryz.func129 (by kernel_rfl) rfl args w
theorem hasOther_at (bm: Nat) (s: Ck.Seen) (w: World) (hs: SizesAt w bm s):
 Calls Tryz.prog 75 #[.map (some bm)] w fun e w' => (∃ p,e = .returned (.func (.func 124) #[] #[ptr p]) ∧ FnAt 124 #[ptr p] Ck.fA bm w') ∧ Below w.heap.size w w':= by
 have A0:= below_alloc w (.cells #[.map (some bm)] 87)
 have H0:= heap_alloc_new w (.cells #[.map (some bm)] 87)
 go_enter Tryz.func75,Tryz.ntmps75
 go_wp2_with fail
 go_ret
 exact ⟨⟨_,rfl,fn_A bm _ _ s (hs.next A0) H0⟩,A0⟩
theorem isFree_at (bm: Nat) (x: Rv) (s: Ck.Seen) (w: World) (hs: SizesAt w bm s) (hx: Rv.Aw w x) (hv: Ck.Vok x.r):
 Calls Tryz.prog 76 #[rval x] w fun e w' => (∃ p,e = .returned (.func (.func 125) #[] #[ptr p]) ∧ FnAt 125 #[ptr p] (Ck.fF x.r) bm w') ∧ Below w.heap.size w w':= by
 have A0:= below_alloc w (.cells (rv x).toArray 48)
 have H0:= heap_alloc_new w (.cells (rv x).toArray 48)
 go_enter Tryz.func76,Tryz.ntmps76
 go_wp2_with fail
 go_ret
 exact ⟨⟨_,rfl,fn_F bm _ x _ s (hs.next A0) H0 (hx.below A0 (Nat.le_refl _)) hv⟩,A0⟩
theorem isOut_at (bm: Nat) (x: Rv) (s: Ck.Seen) (w: World) (hs: SizesAt w bm s) (hx: Rv.Aw w x) (hv: Ck.Vok x.r):
 Calls Tryz.prog 77 #[rval x] w fun e w' => (∃ p,e = .returned (.func (.func 129) #[] #[ptr p]) ∧ FnAt 129 #[ptr p] (Ck.fR x.r) bm w') ∧ Below w.heap.size w w':= by
 have A0:= below_alloc w (.cells (rv x).toArray 48)
 have H0:= heap_alloc_new w (.cells (rv x).toArray 48)
 have T:= hideP (vars_at x _ (hx.below A0 (Nat.le_refl _)) hv)
 go_enter Tryz.func77,Tryz.ntmps77
 go_wp2_with (refine wpList_load_all rfl 48 _ rfl w.heap.size 11 48 (rv x) _ rfl H0 rfl Tryz.underlying48 rfl Tryz.iR11 ?_)
 refine T.out.mono ?_
 rintro e w1 ⟨⟨a,c,rfl,r1⟩,b1⟩
 have B1:= Below.then A0 b1
 have V1:= heap_alloc_new w1 (.cells #[.slice none 0 0] 53)
 have U1:= below_alloc w1 (.cells #[.slice none 0 0] 53)
 go_upto_region 2 with (refine wpList_store_cel rfl 53 _ _ rfl w1.heap.size 0 1 53 (.slice a (Ck.vars x.r).length c) #[.slice a (Ck.vars x.r).length c] rfl rfl V1 rfl (by decide) (by kernel_rfl) rfl rfl ?_;intro w2 h2 t2;have b2:= below_tok t2)
 have V2:= heap_alloc_new w2 (.cells #[.nilFunc] 134)
 go_wp2_with (refine wpList_store_cel rfl 134 _ _ rfl w2.heap.size 0 1 134 (.func (.func 128) #[] #[ptr w1.heap.size]) #[.func (.func 128) #[] #[ptr w1.heap.size]] rfl rfl V2 rfl (by decide) (by kernel_rfl) rfl rfl ?_;intro w3 h3 t3;have b3:= below_tok t3)
 have B2:= Below.then B1 b2
 have B3:= Below.then B2 b3
 go_ret
 exact ⟨⟨_,rfl,fn_R bm _ _ x.r a c w3 s (hs.next B3) h3 (below_heap b3 h2) ((r1.below b2 (Nat.le_refl _)).below b3 (Nat.le_refl _))⟩,B3⟩
end Go.Proofs.YtpdmmmdkpipmkaaGreatDoor
