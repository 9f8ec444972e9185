/-
  The reference's Unify.
-/
import Derived.Laws.CopyRow
import Derived.Test.YtpdmmmdkpipmkaaGreatDoorQE8
import Derived.Test.YtpdmmmdkpipmkaaGreatDoorQBt
import Derived.Test.YtpdmmmdkpipmkaaGreatDoorQBn
import Derived.Test.YtpdmmmdkpipmkaaGreatDoorQCl12
set_option maxRecDepth 100000
set_option maxHeartbeats 4000000
namespace Go.Proofs.YtpdmmmdkpipmkaaGreatDoor
open Go.RowKit Go.Lib Go.Shelf
theorem ownsB_empty (w: World): (w.alloc (.cells #[] 143)).ownsRow w.heap.size 143 bK.k (.slice (some ⟨w.heap.size,0,none⟩) 0 0) ([]: List Bd).length (([]: List Bd).flatMap bK.enc):=
 ⟨rfl,.inr ⟨w.heap.size,0,#[],rfl,Nat.le_refl _,heap_alloc_new w _,Nat.le_refl _,Nat.zero_le _,rfl,rfl⟩⟩
theorem tvk_cells {w: World} {b: Nat} {k: K} (H: w.heap[b]? = some (.cells (kv k).toArray 42)): w.cell? ⟨b,0,none⟩ = some (.bool k.num) ∧ w.cell? ⟨b,1,none⟩ = some (.int .i64 k.n) ∧ w.cell? ⟨b,2,none⟩ = some (str k.s):= by
 refine ⟨?_, ?_, ?_⟩ <;> (rw [heap_cell H];rfl)
theorem tvt_cells {w: World} {b: Nat} {t: Tm} (H: w.heap[b]? = some (.cells (tv t).toArray 44)):
 w.cell? ⟨b,0,none⟩ = some (str t.v) ∧ w.cell? ⟨b,1,none⟩ = some (.bool t.k.num) ∧ w.cell? ⟨b,2,none⟩ = some (.int .i64 t.k.n) ∧ w.cell? ⟨b,3,none⟩ = some (str t.k.s):= by
 refine ⟨?_, ?_, ?_, ?_⟩ <;> (rw [heap_cell H];rfl)
theorem rUnify_at (t: Tm) (k: K) (a: Option Addr) (c: Nat) (L: List Bd) (w: World) (h: Row bK w a c L) (hf: L.length ≤ 900000):
 Calls Tryz.prog 59 #[tval t,kval k,.slice a L.length c] w fun e w' => (∃ a' c',e = .returned (.tuple #[.slice a' (uniE t k L).length c',.bool (uniB t k L)]) ∧ Row bK w' a' c' (uniE t k L)) ∧ Below w.heap.size w w':= by
 have iK: (Tryz.prog.info? 42).map (·.size) = some 3:= by kernel_rfl
 have CS:= hideP (uni_cases t k L)
 have N:= hideP (fun W => rnone11_at t W)
 have EQ:= hideP (fun v W => eqConst v k 9998 W)
 obtain ⟨h0,h1,A0⟩:= boxes2 w (.cells (tv t).toArray 44) (.cells (kv k).toArray 42)
 have T:= hideP (rvalue_at t a c L _ (h.below A0 (Nat.le_refl _)))
 generalize valK t L = kk at *
 generalize valB t L = bb at *
 generalize uniE t k L = E1 at *
 generalize uniB t k L = B1 at *
 generalize Mt.nul t = q at *
 obtain ⟨v,⟨x,n,s⟩⟩:= t
 obtain ⟨x',n',s'⟩:= k
 go_enter Tryz.func59,Tryz.ntmps59
 go_wp2_with fail
 refine T.out.mono ?_
 rintro e w1 ⟨rfl,b1⟩
 have B:= Below.then A0 b1
 have g0:= below_heap b1 h0
 have g1:= below_heap b1 h1
 clear h0 h1 b1 T A0
 have H1:= heap_alloc_new w1 (.cells #[.bool false,.int .i64 0,.string { data:= #[] }] 42)
 have A1:= below_alloc w1 (.cells #[.bool false,.int .i64 0,.string { data:= #[] }] 42)
 have G0:= below_heap A1 g0
 have G1:= below_heap A1 g1
 have hn2:= heap_lt g1
 rcases CS.out with ⟨u,e1,e2,e3,e4,e5⟩ | ⟨u,e1,e2,e3,e4,e5⟩ | ⟨e1,e2,e3,e4,e5⟩ | ⟨e1,e2,e3,e4,e5⟩
 ·have Q:= EQ.out u
  rw [e3] at Q
  obtain ⟨y,m,z⟩:= u
  have e6:= e4.symm
  subst e1 e2 e6 e5
  simp only at Q
  clear CS e3 EQ N
  go_wp2_with (first | (refine wpList_store_all rfl 42 _ _ rfl w1.heap.size 3 _ 42 (kv ⟨y,m,z⟩) rfl rfl H1 rfl rfl iK rfl ?_;intro w2 H2 b2;have J0:= b2.heap (by omega) G0;have J1:= b2.heap (by omega) G1;have T2:= below_tok b2;have B2:= Below.then B T2;have A3:= below_alloc w2 (.cells #[] 143);have R3:= h.below (Below.then B2 A3) (Nat.le_refl _);have o3:= ownsB_empty w2) | (at_builtin;refine wpList_append_rec bK _ rfl _ _ 107 143 rfl _ 48 Tryz.underlying107 Tryz.iB rfl (by decide) w2.heap.size (.slice (some ⟨w2.heap.size,0,none⟩) 0 0) [] L a L.length c rfl o3 rfl rfl R3 A3.size (by simp only [List.length_nil];omega) ?_;intro v5 w5 o5 g5;obtain ⟨a5,c5,rfl,R5,_⟩:= own_row (D:= bK) (xs:= [] ++ L) o5 (by simp only [List.nil_append];omega);have T5:= A3.trans (own_below o3 g5 A3.size);have I0:= below_heap T5 J0;have I1:= below_heap T5 J1;have I2:= below_heap T5 H2;obtain ⟨d0,d1,d2⟩:= tvk_cells I1;obtain ⟨c0,c1,c2⟩:= tvk_cells I2;obtain ⟨t0,t1,t2,t3⟩:= tvt_cells I0))
  have B5:= Below.then B2 T5
  have hB2:= B2.size
  have hb5: w2.heap.size ≤ w5.heap.size:= T5.size
  clear G0 G1 g0 g1 J0 J1 H1 H2 b2 T2 A1 A3 R3 o3 g5 T5 B B2 h hn2
  go_ret2
  exact ⟨⟨a5,c5,rfl,R5.row⟩,B5⟩
 ·have Q:= EQ.out u
  rw [e3] at Q
  obtain ⟨y,m,z⟩:= u
  have e6:= e4.symm
  subst e1 e2 e6 e5
  simp only at Q
  clear CS e3 EQ N
  go_wp2_with (first | (refine wpList_store_all rfl 42 _ _ rfl w1.heap.size 3 _ 42 (kv ⟨y,m,z⟩) rfl rfl H1 rfl rfl iK rfl ?_;intro w2 H2 b2;have J0:= b2.heap (by omega) G0;have J1:= b2.heap (by omega) G1;have T2:= below_tok b2;have B2:= Below.then B T2;have A3:= below_alloc w2 (.cells #[] 143);have R3:= h.below (Below.then B2 A3) (Nat.le_refl _);have o3:= ownsB_empty w2) | (at_builtin;refine wpList_append_rec bK _ rfl _ _ 107 143 rfl _ 48 Tryz.underlying107 Tryz.iB rfl (by decide) w2.heap.size (.slice (some ⟨w2.heap.size,0,none⟩) 0 0) [] L a L.length c rfl o3 rfl rfl R3 A3.size (by simp only [List.length_nil];omega) ?_;intro v5 w5 o5 g5;obtain ⟨a5,c5,rfl,R5,_⟩:= own_row (D:= bK) (xs:= [] ++ L) o5 (by simp only [List.nil_append];omega);have T5:= A3.trans (own_below o3 g5 A3.size);have I0:= below_heap T5 J0;have I1:= below_heap T5 J1;have I2:= below_heap T5 H2;obtain ⟨d0,d1,d2⟩:= tvk_cells I1;obtain ⟨c0,c1,c2⟩:= tvk_cells I2;obtain ⟨t0,t1,t2,t3⟩:= tvt_cells I0))
  have B5:= Below.then B2 T5
  have hB2:= B2.size
  have hb5: w2.heap.size ≤ w5.heap.size:= T5.size
  clear G0 G1 g0 g1 J0 J1 H1 H2 b2 T2 A1 A3 R3 o3 g5 T5 B B2 h hn2
  go_ret2
  exact ⟨⟨none,0,rfl,Row.nil _ _⟩,B5⟩
 ·subst e1 e2 e3 e4 e5
  clear CS EQ
  go_wp2_with (first | (refine wpList_store_all rfl 42 _ _ rfl w1.heap.size 3 _ 42 (kv k0) rfl rfl H1 rfl rfl iK rfl ?_;intro w2 H2 b2;have J0:= b2.heap (by omega) G0;have J1:= b2.heap (by omega) G1;have T2:= below_tok b2;have B2:= Below.then B T2;have A3:= below_alloc w2 (.cells #[] 143);have R3:= h.below (Below.then B2 A3) (Nat.le_refl _);have o3:= ownsB_empty w2) | (at_builtin;refine wpList_append_rec bK _ rfl _ _ 107 143 rfl _ 48 Tryz.underlying107 Tryz.iB rfl (by decide) w2.heap.size (.slice (some ⟨w2.heap.size,0,none⟩) 0 0) [] L a L.length c rfl o3 rfl rfl R3 A3.size (by simp only [List.length_nil];omega) ?_;intro v5 w5 o5 g5;obtain ⟨a5,c5,rfl,R5,_⟩:= own_row (D:= bK) (xs:= [] ++ L) o5 (by simp only [List.nil_append];omega);have T5:= A3.trans (own_below o3 g5 A3.size);have I0:= below_heap T5 J0;have I1:= below_heap T5 J1;have I2:= below_heap T5 H2;obtain ⟨d0,d1,d2⟩:= tvk_cells I1;obtain ⟨c0,c1,c2⟩:= tvk_cells I2;obtain ⟨t0,t1,t2,t3⟩:= tvt_cells I0))
  have B5:= Below.then B2 T5
  have hB2:= B2.size
  have hb5: w2.heap.size ≤ w5.heap.size:= T5.size
  clear G0 G1 g0 g1 J0 J1 H1 H2 b2 T2 A1 A3 R3 o3 g5 T5 B B2 h hn2
  refine (N.out _).mono ?_
  rintro e w6 ⟨rfl,b6⟩
  go_wp2_with fail
  go_ret2
  exact ⟨⟨none,0,rfl,Row.nil _ _⟩,Below.then B5 b6⟩
 ·subst e1 e2 e3 e4 e5
  clear CS EQ
  go_wp2_with (first | (refine wpList_store_all rfl 42 _ _ rfl w1.heap.size 3 _ 42 (kv k0) rfl rfl H1 rfl rfl iK rfl ?_;intro w2 H2 b2;have J0:= b2.heap (by omega) G0;have J1:= b2.heap (by omega) G1;have T2:= below_tok b2;have B2:= Below.then B T2;have A3:= below_alloc w2 (.cells #[] 143);have R3:= h.below (Below.then B2 A3) (Nat.le_refl _);have o3:= ownsB_empty w2) | (at_builtin;refine wpList_append_rec bK _ rfl _ _ 107 143 rfl _ 48 Tryz.underlying107 Tryz.iB rfl (by decide) w2.heap.size (.slice (some ⟨w2.heap.size,0,none⟩) 0 0) [] L a L.length c rfl o3 rfl rfl R3 A3.size (by simp only [List.length_nil];omega) ?_;intro v5 w5 o5 g5;obtain ⟨a5,c5,rfl,R5,_⟩:= own_row (D:= bK) (xs:= [] ++ L) o5 (by simp only [List.nil_append];omega);have T5:= A3.trans (own_below o3 g5 A3.size);have I0:= below_heap T5 J0;have I1:= below_heap T5 J1;have I2:= below_heap T5 H2;obtain ⟨d0,d1,d2⟩:= tvk_cells I1;obtain ⟨c0,c1,c2⟩:= tvk_cells I2;obtain ⟨t0,t1,t2,t3⟩:= tvt_cells I0))
  have B5:= Below.then B2 T5
  have hB2:= B2.size
  have hb5: w2.heap.size ≤ w5.heap.size:= T5.size
  clear G0 G1 g0 g1 J0 J1 H1 H2 b2 T2 A1 A3 R3 o3 g5 T5 B B2 h hn2
  refine (N.out _).mono ?_
  rintro e w6 ⟨rfl,b6⟩
  have B6:= Below.then B5 b6
  obtain ⟨f0,f1,f2⟩:= tvk_cells (below_heap b6 I1)
  obtain ⟨j0,_,_,_⟩:= tvt_cells (below_heap b6 I0)
  have A7:= below_alloc w6 (.cells #[str v,.bool x',.int .i64 n',str s'] 143)
  have o6: w6.ownsRow w2.heap.size 143 bK.k (.slice a5 L.length c5) L.length (L.flatMap bK.enc):= ownsRow_keep o5 (Safe.below b6: Safe 143 _ _)
  have o7:= ownsRow_keep o6 (Safe.below A7: Safe 143 _ _)
  have R7: Row bK (w6.alloc (.cells #[str v,.bool x',.int .i64 n',str s'] 143)) (some ⟨w6.heap.size,0,none⟩) 1 [(v,⟨x',n',s'⟩)]:= row_new bK w6 _ _ (v,⟨x',n',s'⟩) rfl
  have hb7: w2.heap.size ≤ (w6.alloc (.cells #[str v,.bool x',.int .i64 n',str s'] 143)).heap.size:= Nat.le_trans hb5 (Nat.le_trans b6.size A7.size)
  have hw2: w.heap.size ≤ w2.heap.size:= hB2
  clear I0 I1 I2 d0 d1 d2 c0 c1 c2 t0 t1 t2 t3 b6 o5 o6 N
  go_wp2_with (at_builtin;refine wpList_append_rec bK _ rfl _ _ 107 143 rfl _ 48 Tryz.underlying107 Tryz.iB rfl (by decide) w2.heap.size (.slice a5 L.length c5) L [(v,⟨x',n',s'⟩)] (some ⟨w6.heap.size,0,none⟩) 1 1 rfl o7 rfl rfl R7 hb7 (by simp only [List.length_cons,List.length_nil];omega) ?_;intro v8 w8 o8 g8;obtain ⟨a8,c8,rfl,R8,_⟩:= own_row (D:= bK) (xs:= L ++ [(v,⟨x',n',s'⟩)]) o8 (by simp only [List.length_append,List.length_cons,List.length_nil];omega))
  go_ret2
  exact ⟨⟨a8,c8,by rw [List.length_append];rfl,R8.row⟩,(Below.then B6 A7).trans ((own_below o7 g8 hb7).mono hw2)⟩
end Go.Proofs.YtpdmmmdkpipmkaaGreatDoor
namespace Go.Proofs.YtpdmmmdkpipmkaaGreatDoor
open Go.RowKit Go.Lib Go.Shelf
theorem by1_cases (l: Lt) (f: F) (e: Mt.Env): (Mt.nul l.by_ = true ∧ f.by_ = f.at_ ∧ Mt.by1 l f e = some e) ∨ (Mt.nul l.by_ = true ∧ f.by_ ≠ f.at_ ∧ Mt.by1 l f e = none) ∨ (Mt.nul l.by_ = false ∧ Mt.by1 l f e = Mt.uni l.by_ (Mt.nm f.by_) e):= by
 unfold Mt.by1
 cases hn: Mt.nul l.by_ with
 | true =>
  by_cases h: f.by_ = f.at_
  ·exact .inl ⟨rfl,h,by simp [h]⟩
  ·exact .inr (.inl ⟨rfl,h,by simp [h]⟩)
 | false => exact .inr (.inr ⟨rfl,by simp⟩)
theorem rLiteral_at (home: Tm) (y: Lv) (x: Fv) (a: Option Addr) (c: Nat) (L: List Bd) (w: World) (h: Row bK w a c L) (hf: L.length + y.args.length ≤ 800000) (hy: Lv.Aw w y) (hx: Fv.At w x):
 Calls Tryz.prog 92 #[tval home,lval y,x.val,.slice a L.length c] w fun e w' => (∃ a' c',e = .returned (.tuple #[.slice a' (litE home y.l x.f L).length c',.bool (litB home y.l x.f L)]) ∧ Row bK w' a' c' (litE home y.l x.f L)) ∧ Below w.heap.size w w':= by
 have iT: (Tryz.prog.info? 44).map (·.size) = some 4:= by kernel_rfl
 have hyf:= Row.few (show Row tK w y.a y.cap y.args from hy)
 have hxf:= ArgsAt.few (show ArgsAt w x.a x.cap x.ks from hx)
 obtain ⟨h0,h1,h2,A0⟩:= boxes3 w (.cells #[str home.v,.bool home.k.num,.int .i64 home.k.n,str home.k.s] 44) (.cells #[str y.by_.v,.bool y.by_.k.num,.int .i64 y.by_.k.n,str y.by_.k.s,str y.pred,.slice y.a y.args.length y.cap,str y.at_.v,.bool y.at_.k.num,.int .i64 y.at_.k.n,str y.at_.k.s] 52) (.cells #[str x.at_,str x.by_,str x.pred,.slice x.a x.ks.length x.cap] 37)
 by_cases hc: y.pred = x.pred ∧ y.args.length = x.ks.length
 rotate_left
 ·obtain ⟨z1,z2⟩:= lit_of_none (Mt.lit_no (home:= home) (l:= y.l) (f:= x.f) (e:= L) hc)
  rw [z1,z2]
  by_cases hp: y.pred = x.pred
  ·have q1: (y.pred == x.pred) = true:= by simpa using hp
   have q2: ((y.args.length: Int) != (x.ks.length: Int)) = true:= by
    rw [bne_iff_ne];intro h;exact hc ⟨hp,by omega⟩
   clear hp hc hy hx
   go_enter Tryz.func92,Tryz.ntmps92
   go_wp2_with fail
   go_ret2
   exact ⟨⟨none,0,rfl,Row.nil _ _⟩,A0⟩
  ·have q1: (y.pred == x.pred) = false:= by simpa using hp
   clear hp hc hy hx
   go_enter Tryz.func92,Tryz.ntmps92
   go_wp2_with fail
   go_ret2
   exact ⟨⟨none,0,rfl,Row.nil _ _⟩,A0⟩
 ·obtain ⟨hp,hl⟩:= hc
  have q1: (y.pred == x.pred) = true:= by simpa using hp
  have q2: ((y.args.length: Int) != (x.ks.length: Int)) = false:= by simp;omega
  have LY:= hideP (fun h => Mt.lit_one_no (home:= home) (l:= y.l) (f:= x.f) (e:= L) hp hl h)
  have LS:= hideP (fun e1 h => Mt.lit_oneR (home:= home) (l:= y.l) (f:= x.f) (e:= L) (e1:= e1) hp hl h)
  have hl':= hideP hl
  have HA: Hid (Mt.at1 home y.l = if Mt.nul y.at_ = true then home else y.at_):= rfl
  have TN:= hideP (fun t W => rnone11_at t W)
  generalize hW: ((w.alloc (.cells #[str home.v,.bool home.k.num,.int .i64 home.k.n,str home.k.s] 44)).alloc (.cells #[str y.by_.v,.bool y.by_.k.num,.int .i64 y.by_.k.n,str y.by_.k.s,str y.pred,.slice y.a y.args.length y.cap,str y.at_.v,.bool y.at_.k.num,.int .i64 y.at_.k.n,str y.at_.k.s] 52)).alloc (.cells #[str x.at_,str x.by_,str x.pred,.slice x.a x.ks.length x.cap] 37) = W at *
  have hs0: W.heap.size = w.heap.size + 1 + 1 + 1:= by rw [← hW];simp
  have X0: Bx3 w.heap.size w.heap.size home y x w W:= ⟨A0,A0.size,h0,h1,h2⟩
  have r6: W.rangeAt (w.heap.size + 1) 6 (tv y.at_):= World.rangeAt_of_block h1 6 4
  have H3:= heap_alloc_new W (.cells #[.string { data:= #[] },.bool false,.int .i64 0,.string { data:= #[] }] 44)
  have A3:= below_alloc W (.cells #[.string { data:= #[] },.bool false,.int .i64 0,.string { data:= #[] }] 44)
  rw [hs0] at H3
  have r7: (W.alloc (.cells #[.string { data:= #[] },.bool false,.int .i64 0,.string { data:= #[] }] 44)).rangeAt (w.heap.size + 1) 6 (tv y.at_):= World.rangeAt_of_block (below_heap A3 h1) 6 4
  clear hp hl h0 h1 h2
  go_enter Tryz.func92,Tryz.ntmps92
  subst hW
  go_wp2_with (first | (refine wpList_load_mid rfl 44 _ rfl (w.heap.size + 1) 6 rfl (tv y.at_) _ r6 Tryz.underlying44 rfl iT ?_) | (refine wpList_load_mid rfl 44 _ rfl (w.heap.size + 1) 6 rfl (tv y.at_) _ r7 Tryz.underlying44 rfl iT ?_) | (refine wpList_store_all rfl 44 _ _ rfl (w.heap.size + 1 + 1 + 1) 4 _ 44 (tv y.at_) rfl rfl H3 rfl rfl iT rfl ?_;intro w1 G3 b1;have T1:= A3.trans (b1.lower (B:= w.heap.size + 1 + 1 + 1) (Nat.le_refl _) (Nat.le_of_lt (heap_lt H3)) |>.mono (Nat.le_of_eq hs0))) | (refine wpList_load_all rfl 44 _ rfl (w.heap.size + 1 + 1 + 1) 4 44 (tv y.at_) _ rfl G3 rfl Tryz.underlying44 rfl iT ?_))
  have X1:= X0.then T1 (by omega)
  clear X0 T1 b1 H3 A3 r6 r7 hs0 A0
  refine (TN.out y.at_ w1).mono ?_
  rintro e w2 ⟨rfl,b2⟩
  have s1:= X1.size
  have X2:= X1.then b2 s1
  have G2:= below_heap b2 G3
  clear X1 b2 G3 s1
  generalize hq: Mt.nul y.at_ = q at *
  clear hq
  cases q with
  | true =>
   have HA1: Hid (Mt.at1 home y.l = home):= HA.out
   have s2:= X2.size
   have n3:= heap_lt G2
   go_wp2_with (first | (refine wpList_load_all rfl 44 _ rfl w.heap.size 4 44 (tv home) _ rfl X2.h0 rfl Tryz.underlying44 rfl iT ?_) | (refine wpList_store_all rfl 44 _ _ rfl (w.heap.size + 1 + 1 + 1) 4 _ 44 (tv home) rfl rfl G2 rfl rfl iT rfl ?_;intro w3 G3 b3))
   have X3: Bx3 w.heap.size w.heap.size home y x w w3:= ⟨X2.below.trans (b3.lower (by omega) s2),Nat.le_trans s2 b3.size,b3.heap (by omega) X2.h0,b3.heap (by omega) X2.h1,b3.heap (by omega) X2.h2⟩
   rw [HA1.out] at LY LS
   clear X2 G2 b3 s2 n3 HA HA1
   have s3:= X3.size
   have gD:= (Below.refl w3.heap.size w3).drew
   have X3d:= X3.then gD s3
   have G3d:= below_heap gD G3
   have s3d:= X3d.size
   have K2: ∀ W,W.heap[w.heap.size + 1 + 1 + 1]? = some (.cells (tv home).toArray 44) → Bx3 w.heap.size w.heap.size home y x w W → (W.cell? ⟨w.heap.size + 1 + 1 + 1,0,none⟩ = some (str home.v) ∧ W.cell? ⟨w.heap.size + 1 + 1 + 1,1,none⟩ = some (.bool home.k.num) ∧ W.cell? ⟨w.heap.size + 1 + 1 + 1,2,none⟩ = some (.int .i64 home.k.n) ∧ W.cell? ⟨w.heap.size + 1 + 1 + 1,3,none⟩ = some (str home.k.s) ∧ W.cell? ⟨w.heap.size + 2,0,none⟩ = some (str x.at_)):= fun W h1 h2 => by
    obtain ⟨c1,c2,c3,c4⟩:= tv_cells h1
    exact ⟨c1,c2,c3,c4,(fv_cells h2.h2).1⟩
   have HK2:= hideP K2
   clear K2
   have TT:= hideP (fun W => rName_at x.at_ W)
   have TU:= hideP (fun W h1 => rUnify_at home (Mt.nm x.at_) a c L W h1 (by omega))
   go_region_held3 (fun W => W.cell? ⟨w.heap.size + 1 + 1 + 1,0,none⟩ = some (str home.v) ∧ W.cell? ⟨w.heap.size + 1 + 1 + 1,1,none⟩ = some (.bool home.k.num) ∧ W.cell? ⟨w.heap.size + 1 + 1 + 1,2,none⟩ = some (.int .i64 home.k.n) ∧ W.cell? ⟨w.heap.size + 1 + 1 + 1,3,none⟩ = some (str home.k.s) ∧ W.cell? ⟨w.heap.size + 2,0,none⟩ = some (str x.at_)) (first | exact HK2.out _ G5 X5 | exact HK2.out _ G4 X4 | exact HK2.out _ G3d X3d) (first
    | (go_at_call 60;refine (TT.out _).mono ?_;rintro e w4 ⟨rfl,b4⟩;have X4:= X3d.then b4 s3d;have G4:= below_heap b4 G3d;have s4:= X4.size)
    | (go_at_call 59;refine (TU.out _ (h.below X4.below (Nat.le_refl _))).mono ?_;rintro e w5 ⟨⟨a5,c5,rfl,E5⟩,b5⟩;have X5:= X4.then b5 s4;have G5:= below_heap b5 G4))
   clear TU TT HK2 gD X3 X3d G3 G3d X4 G4 s3 s3d s4 b4 b5 G5
   rcases uni_two home (Mt.nm x.at_) L with ⟨u1,u2,u3⟩ | ⟨e1,u1,u2,u3,u4⟩
   ·rw [u3]
    obtain ⟨z1,z2⟩:= lit_of_none (LY.out u1)
    have Z1:= hideP z1
    have Z2:= hideP z2
    clear u1 u2 u3 z1 z2 LY LS
    go_wp2_with fail
    go_ret2
    rw [Z1.out,Z2.out]
    exact ⟨⟨none,0,rfl,Row.nil _ _⟩,X5.below⟩
   ·rw [u2] at E5 ⊢
    rw [u3]
    have L1: Hid (Mt.lit home y.l x.f L = (Mt.by1 y.l x.f e1).bind fun e2 => Mt.unis y.args x.ks e2):= LS.out e1 u1
    have BC:= hideP (by1_cases y.l x.f e1)
    clear u1 u2 u3 LY LS
    have rb:= (lit_parts10 X5.h1).1
    have TB:= hideP (TN.out y.by_)
    go_wp2_with (refine wpList_load_mid rfl 44 _ rfl (w.heap.size + 1) 0 rfl (tv y.by_) _ rb Tryz.underlying44 rfl iT ?_)
    refine (TB.out w5).mono ?_
    rintro e w6 ⟨rfl,b6⟩
    have s5:= X5.size
    have X6:= X5.then b6 s5
    have E6:= E5.below b6 (Nat.le_refl _)
    clear X5 E5 b6 s5 rb TB TN
    obtain ⟨m0,m1,_,_⟩:= fv_cells X6.h2
    rcases BC.out with ⟨v1,v2,v3⟩ | ⟨v1,v2,v3⟩ | ⟨v1,v3⟩
    ·have v1': Mt.nul y.by_ = true:= v1
     have v4: x.by_ = x.at_:= v2
     have v2': (x.by_ == x.at_) = true:= by simpa using v4
     clear v4
     rw [v1']
     have L2:= L1.out
     rw [v3] at L2
     have L3: Hid (Mt.lit home y.l x.f L = Mt.unis (y.args.drop 0) (x.ks.drop 0) e1):= L2
     clear v1 v2 v3 v1' L1 L2 BC
     go_wp2_with fail
     go_loopw [11,12,13] (fun v11 _ v13 wr => ∃ (i: Nat) (M: List Bd) (a': Option Addr) (c': Nat),v11 = .slice a' M.length c' ∧ v13 = .int .i64 (i: Int) ∧ i ≤ y.args.length ∧ M.length ≤ L.length + 2 + i ∧ Row bK wr a' c' M ∧ Bx3 w.heap.size w.heap.size home y x w wr ∧ Hid (Mt.lit home y.l x.f L = Mt.unis (y.args.drop i) (x.ks.drop i) M)) (fun _ _ v13 _ => y.args.length - (RowKit.intOf v13).toNat)
     case atStart => exact ⟨0,e1,a5,c5,rfl,rfl,Nat.zero_le _,by omega,E6,X6,L3⟩
     case round =>
      obtain ⟨i,M,a',c',rfl,rfl,hi,hM,E,X,HL⟩:= hrel
      have cl:= (lv_cells X.h1).2.2.2.2
      by_cases hlt: i < y.args.length
      ·have q3: (i: Int) < (y.args.length: Int):= by omega
       have hlt': i < x.ks.length:= by have:= hl'.out;omega
       have q4: (i: Int) < (x.ks.length: Int):= by omega
       have ST:= HL.out
       rw [Mt.unis_step hlt hlt'] at ST
       have HST:= hideP ST
       clear ST HL
       obtain ⟨P1,O1,hP⟩:= Row.addr (show Row tK w y.a y.cap y.args from hy) (Nat.lt_of_le_of_lt (Nat.zero_le _) hlt)
       obtain ⟨P2,O2,hQ⟩:= ArgsAt.addr (show ArgsAt w x.a x.cap x.ks from hx) (by omega)
       have s8:= X.size
       have gD:= (Below.refl wr.heap.size wr).drew
       have Xd:= X.then gD s8
       have Ed:= E.below gD (Nat.le_refl _)
       have s8d:= Xd.size
       have K2: ∀ W,Bx3 w.heap.size w.heap.size home y x w W → (W.cell? ⟨w.heap.size + 1,5,none⟩ = some (.slice (some ⟨P1,O1,none⟩) y.args.length y.cap) ∧ W.cell? ⟨P1,O1 + i * 4,none⟩ = some (str (y.args[i]'hlt).v) ∧ W.cell? ⟨P1,O1 + i * 4 + 1,none⟩ = some (.bool (y.args[i]'hlt).k.num) ∧ W.cell? ⟨P1,O1 + i * 4 + 2,none⟩ = some (.int .i64 (y.args[i]'hlt).k.n) ∧ W.cell? ⟨P1,O1 + i * 4 + 3,none⟩ = some (str (y.args[i]'hlt).k.s) ∧ W.cell? ⟨w.heap.size + 2,3,none⟩ = some (.slice (some ⟨P2,O2,none⟩) x.ks.length x.cap) ∧ W.cell? ⟨P2,O2 + i * 3,none⟩ = some (.bool (x.ks[i]'hlt').num) ∧ W.cell? ⟨P2,O2 + i * 3 + 1,none⟩ = some (.int .i64 (x.ks[i]'hlt').n) ∧ W.cell? ⟨P2,O2 + i * 3 + 2,none⟩ = some (str (x.ks[i]'hlt').s)):= fun W h2 => by
        have d5:= (lv_cells h2.h1).2.2.2.2
        have d3:= (fv_cells h2.h2).2.2.2
        have r1: Row tK W y.a y.cap y.args:= hy.below h2.below (Nat.le_refl _)
        have r2: ArgsAt W x.a x.cap x.ks:= hx.below h2.below (Nat.le_refl _)
        rw [hP] at d5 r1
        rw [hQ] at d3 r2
        have r3:= r1.range i hlt
        obtain ⟨m1,m2,m3⟩:= r2.get i hlt'
        exact ⟨d5,r3 0 _ rfl,r3 1 _ rfl,r3 2 _ rfl,r3 3 _ rfl,d3,m1,m2,m3⟩
       have HK2:= hideP K2
       rw [hP] at cl
       clear K2 hP hQ
       generalize (y.args[i]'hlt) = tt at *
       generalize (x.ks[i]'hlt') = kk at *
       have TU:= hideP (fun W h1 => rUnify_at tt kk a' c' M W h1 (by omega))
       go_wp2_with fail
       go_region_held3 (fun W => W.cell? ⟨w.heap.size + 1,5,none⟩ = some (.slice (some ⟨P1,O1,none⟩) y.args.length y.cap) ∧ W.cell? ⟨P1,O1 + i * 4,none⟩ = some (str tt.v) ∧ W.cell? ⟨P1,O1 + i * 4 + 1,none⟩ = some (.bool tt.k.num) ∧ W.cell? ⟨P1,O1 + i * 4 + 2,none⟩ = some (.int .i64 tt.k.n) ∧ W.cell? ⟨P1,O1 + i * 4 + 3,none⟩ = some (str tt.k.s) ∧ W.cell? ⟨w.heap.size + 2,3,none⟩ = some (.slice (some ⟨P2,O2,none⟩) x.ks.length x.cap) ∧ W.cell? ⟨P2,O2 + i * 3,none⟩ = some (.bool kk.num) ∧ W.cell? ⟨P2,O2 + i * 3 + 1,none⟩ = some (.int .i64 kk.n) ∧ W.cell? ⟨P2,O2 + i * 3 + 2,none⟩ = some (str kk.s)) (first | exact HK2.out _ X9 | exact HK2.out _ Xd) (first
        | (go_at_call 59;refine (TU.out _ Ed).mono ?_;rintro e w9 ⟨⟨a9,c9,rfl,E9⟩,b9⟩;have X9:= Xd.then b9 s8d))
       have UL:= uniE_len tt kk M
       rcases uni_two tt kk M with ⟨u1,u2,u3⟩ | ⟨e9,u1,u2,u3,u9⟩
       ·rw [u3]
        have z0:= HST.out
        rw [u1] at z0
        obtain ⟨z1,z2⟩:= lit_of_none z0
        have Z1:= hideP z1
        have Z2:= hideP z2
        clear u1 u2 u3 z0 z1 z2 HST
        go_wp2_with fail
        go_ret2
        rw [Z1.out,Z2.out]
        exact ⟨⟨none,0,rfl,Row.nil _ _⟩,X9.below⟩
       ·rw [u3]
        rw [u2] at E9 UL ⊢
        have z0:= HST.out
        rw [u1] at z0
        have z3:= hideP z0
        clear u1 u2 u3 z0 HST
        go_wp2_with fail
        exact ⟨⟨i + 1,e9,a9,c9,rfl,by go_num,by omega,by omega,E9,X9,z3⟩,by simp [RowKit.intOf];omega⟩
      ·have q3: ¬ (i: Int) < (y.args.length: Int):= by omega
       have z0:= HL.out
       rw [Mt.unis_done (by omega) (by have:= hl'.out;omega)] at z0
       obtain ⟨z1,z2⟩:= lit_of_some z0
       have Z1:= hideP z1
       have Z2:= hideP z2
       clear z0 z1 z2
       go_wp2_with fail
       go_ret2
       rw [Z1.out,Z2.out]
       exact ⟨⟨a',c',rfl,E⟩,X.below⟩
    ·have v1': Mt.nul y.by_ = true:= v1
     have v4: x.by_ ≠ x.at_:= v2
     have v2': (x.by_ == x.at_) = false:= by simpa using v4
     clear v4
     rw [v1']
     have z0:= L1.out
     rw [v3] at z0
     obtain ⟨z1,z2⟩:= lit_of_none z0
     have Z1:= hideP z1
     have Z2:= hideP z2
     clear v1 v2 v3 v1' z0 z1 z2 L1 BC
     go_wp2_with fail
     go_ret2
     rw [Z1.out,Z2.out]
     exact ⟨⟨none,0,rfl,Row.nil _ _⟩,X6.below⟩
    ·have v1': Mt.nul y.by_ = false:= v1
     rw [v1']
     have L2:= L1.out
     rw [v3] at L2
     have L3: Hid (Mt.lit home y.l x.f L = (Mt.uni y.by_ (Mt.nm x.by_) e1).bind fun e2 => Mt.unis y.args x.ks e2):= L2
     clear v1 v3 v1' L1 L2 BC m0 m1
     have s6:= X6.size
     have gD:= (Below.refl w6.heap.size w6).drew
     have X6d:= X6.then gD s6
     have s6d:= X6d.size
     have E6d:= E6.below gD (Nat.le_refl _)
     have K2: ∀ W,Bx3 w.heap.size w.heap.size home y x w W → (W.cell? ⟨w.heap.size + 1,0,none⟩ = some (str y.by_.v) ∧ W.cell? ⟨w.heap.size + 1,1,none⟩ = some (.bool y.by_.k.num) ∧ W.cell? ⟨w.heap.size + 1,2,none⟩ = some (.int .i64 y.by_.k.n) ∧ W.cell? ⟨w.heap.size + 1,3,none⟩ = some (str y.by_.k.s) ∧ W.cell? ⟨w.heap.size + 2,1,none⟩ = some (str x.by_)):= fun W h2 => by
      obtain ⟨d1,d2,d3,d4,_⟩:= lv_cells h2.h1
      exact ⟨d1,d2,d3,d4,(fv_cells h2.h2).2.1⟩
     have HK2:= hideP K2
     clear K2
     have TT:= hideP (fun W => rName_at x.by_ W)
     have TU:= hideP (fun W h1 => rUnify_at y.by_ (Mt.nm x.by_) a5 c5 e1 W h1 (by omega))
     go_wp2_with fail
     go_region_held3 (fun W => W.cell? ⟨w.heap.size + 1,0,none⟩ = some (str y.by_.v) ∧ W.cell? ⟨w.heap.size + 1,1,none⟩ = some (.bool y.by_.k.num) ∧ W.cell? ⟨w.heap.size + 1,2,none⟩ = some (.int .i64 y.by_.k.n) ∧ W.cell? ⟨w.heap.size + 1,3,none⟩ = some (str y.by_.k.s) ∧ W.cell? ⟨w.heap.size + 2,1,none⟩ = some (str x.by_)) (first | exact HK2.out _ X8 | exact HK2.out _ X7 | exact HK2.out _ X6d) (first
      | (go_at_call 60;refine (TT.out _).mono ?_;rintro e w7 ⟨rfl,b7⟩;have X7:= X6d.then b7 s6d;have E7:= E6d.below b7 (Nat.le_refl _);have s7:= X7.size)
      | (go_at_call 59;refine (TU.out _ E7).mono ?_;rintro e w8 ⟨⟨a8,c8,rfl,E8⟩,b8⟩;have X8:= X7.then b8 s7))
     clear TU TT HK2 gD X6 X6d X7 E6 E6d E7 s6 s6d s7 b7 b8
     rcases uni_two y.by_ (Mt.nm x.by_) e1 with ⟨u1,u2,u3⟩ | ⟨e2,u1,u2,u3,u5⟩
     ·rw [u3]
      have z0:= L3.out
      rw [u1] at z0
      obtain ⟨z1,z2⟩:= lit_of_none z0
      have Z1:= hideP z1
      have Z2:= hideP z2
      clear u1 u2 u3 z0 z1 z2 L3
      go_wp2_with fail
      go_ret2
      rw [Z1.out,Z2.out]
      exact ⟨⟨none,0,rfl,Row.nil _ _⟩,X8.below⟩
     ·rw [u2] at E8 ⊢
      rw [u3]
      have L4:= L3.out
      rw [u1] at L4
      clear L3
      have L3: Hid (Mt.lit home y.l x.f L = Mt.unis (y.args.drop 0) (x.ks.drop 0) e2):= L4
      clear u1 u2 u3 L4
      go_wp2_with fail
      go_loopw [11,12,13] (fun v11 _ v13 wr => ∃ (i: Nat) (M: List Bd) (a': Option Addr) (c': Nat),v11 = .slice a' M.length c' ∧ v13 = .int .i64 (i: Int) ∧ i ≤ y.args.length ∧ M.length ≤ L.length + 2 + i ∧ Row bK wr a' c' M ∧ Bx3 w.heap.size w.heap.size home y x w wr ∧ Hid (Mt.lit home y.l x.f L = Mt.unis (y.args.drop i) (x.ks.drop i) M)) (fun _ _ v13 _ => y.args.length - (RowKit.intOf v13).toNat)
      case atStart => exact ⟨0,e2,a8,c8,rfl,rfl,Nat.zero_le _,by omega,E8,X8,L3⟩
      case round =>
       obtain ⟨i,M,a',c',rfl,rfl,hi,hM,E,X,HL⟩:= hrel
       have cl:= (lv_cells X.h1).2.2.2.2
       by_cases hlt: i < y.args.length
       ·have q3: (i: Int) < (y.args.length: Int):= by omega
        have hlt': i < x.ks.length:= by have:= hl'.out;omega
        have q4: (i: Int) < (x.ks.length: Int):= by omega
        have ST:= HL.out
        rw [Mt.unis_step hlt hlt'] at ST
        have HST:= hideP ST
        clear ST HL
        obtain ⟨P1,O1,hP⟩:= Row.addr (show Row tK w y.a y.cap y.args from hy) (Nat.lt_of_le_of_lt (Nat.zero_le _) hlt)
        obtain ⟨P2,O2,hQ⟩:= ArgsAt.addr (show ArgsAt w x.a x.cap x.ks from hx) (by omega)
        have s8:= X.size
        have gD:= (Below.refl wr.heap.size wr).drew
        have Xd:= X.then gD s8
        have Ed:= E.below gD (Nat.le_refl _)
        have s8d:= Xd.size
        have K2: ∀ W,Bx3 w.heap.size w.heap.size home y x w W → (W.cell? ⟨w.heap.size + 1,5,none⟩ = some (.slice (some ⟨P1,O1,none⟩) y.args.length y.cap) ∧ W.cell? ⟨P1,O1 + i * 4,none⟩ = some (str (y.args[i]'hlt).v) ∧ W.cell? ⟨P1,O1 + i * 4 + 1,none⟩ = some (.bool (y.args[i]'hlt).k.num) ∧ W.cell? ⟨P1,O1 + i * 4 + 2,none⟩ = some (.int .i64 (y.args[i]'hlt).k.n) ∧ W.cell? ⟨P1,O1 + i * 4 + 3,none⟩ = some (str (y.args[i]'hlt).k.s) ∧ W.cell? ⟨w.heap.size + 2,3,none⟩ = some (.slice (some ⟨P2,O2,none⟩) x.ks.length x.cap) ∧ W.cell? ⟨P2,O2 + i * 3,none⟩ = some (.bool (x.ks[i]'hlt').num) ∧ W.cell? ⟨P2,O2 + i * 3 + 1,none⟩ = some (.int .i64 (x.ks[i]'hlt').n) ∧ W.cell? ⟨P2,O2 + i * 3 + 2,none⟩ = some (str (x.ks[i]'hlt').s)):= fun W h2 => by
         have d5:= (lv_cells h2.h1).2.2.2.2
         have d3:= (fv_cells h2.h2).2.2.2
         have r1: Row tK W y.a y.cap y.args:= hy.below h2.below (Nat.le_refl _)
         have r2: ArgsAt W x.a x.cap x.ks:= hx.below h2.below (Nat.le_refl _)
         rw [hP] at d5 r1
         rw [hQ] at d3 r2
         have r3:= r1.range i hlt
         obtain ⟨m1,m2,m3⟩:= r2.get i hlt'
         exact ⟨d5,r3 0 _ rfl,r3 1 _ rfl,r3 2 _ rfl,r3 3 _ rfl,d3,m1,m2,m3⟩
        have HK2:= hideP K2
        rw [hP] at cl
        clear K2 hP hQ
        generalize (y.args[i]'hlt) = tt at *
        generalize (x.ks[i]'hlt') = kk at *
        have TU:= hideP (fun W h1 => rUnify_at tt kk a' c' M W h1 (by omega))
        go_wp2_with fail
        go_region_held3 (fun W => W.cell? ⟨w.heap.size + 1,5,none⟩ = some (.slice (some ⟨P1,O1,none⟩) y.args.length y.cap) ∧ W.cell? ⟨P1,O1 + i * 4,none⟩ = some (str tt.v) ∧ W.cell? ⟨P1,O1 + i * 4 + 1,none⟩ = some (.bool tt.k.num) ∧ W.cell? ⟨P1,O1 + i * 4 + 2,none⟩ = some (.int .i64 tt.k.n) ∧ W.cell? ⟨P1,O1 + i * 4 + 3,none⟩ = some (str tt.k.s) ∧ W.cell? ⟨w.heap.size + 2,3,none⟩ = some (.slice (some ⟨P2,O2,none⟩) x.ks.length x.cap) ∧ W.cell? ⟨P2,O2 + i * 3,none⟩ = some (.bool kk.num) ∧ W.cell? ⟨P2,O2 + i * 3 + 1,none⟩ = some (.int .i64 kk.n) ∧ W.cell? ⟨P2,O2 + i * 3 + 2,none⟩ = some (str kk.s)) (first | exact HK2.out _ X9 | exact HK2.out _ Xd) (first
         | (go_at_call 59;refine (TU.out _ Ed).mono ?_;rintro e w9 ⟨⟨a9,c9,rfl,E9⟩,b9⟩;have X9:= Xd.then b9 s8d))
        have UL:= uniE_len tt kk M
        rcases uni_two tt kk M with ⟨u1,u2,u3⟩ | ⟨e9,u1,u2,u3,u9⟩
        ·rw [u3]
         have z0:= HST.out
         rw [u1] at z0
         obtain ⟨z1,z2⟩:= lit_of_none z0
         have Z1:= hideP z1
         have Z2:= hideP z2
         clear u1 u2 u3 z0 z1 z2 HST
         go_wp2_with fail
         go_ret2
         rw [Z1.out,Z2.out]
         exact ⟨⟨none,0,rfl,Row.nil _ _⟩,X9.below⟩
        ·rw [u3]
         rw [u2] at E9 UL ⊢
         have z0:= HST.out
         rw [u1] at z0
         have z3:= hideP z0
         clear u1 u2 u3 z0 HST
         go_wp2_with fail
         exact ⟨⟨i + 1,e9,a9,c9,rfl,by go_num,by omega,by omega,E9,X9,z3⟩,by simp [RowKit.intOf];omega⟩
       ·have q3: ¬ (i: Int) < (y.args.length: Int):= by omega
        have z0:= HL.out
        rw [Mt.unis_done (by omega) (by have:= hl'.out;omega)] at z0
        obtain ⟨z1,z2⟩:= lit_of_some z0
        have Z1:= hideP z1
        have Z2:= hideP z2
        clear z0 z1 z2
        go_wp2_with fail
        go_ret2
        rw [Z1.out,Z2.out]
        exact ⟨⟨a',c',rfl,E⟩,X.below⟩
  | false =>
   have HA1: Hid (Mt.at1 home y.l = y.at_):= HA.out
   rw [HA1.out] at LY LS
   have X3:= X2
   have G3:= G2
   clear X2 G2 HA HA1
   generalize hw3: w2 = w3 at *
   clear hw3
   go_wp2_with fail
   have s3:= X3.size
   have gD:= (Below.refl w3.heap.size w3).drew
   have X3d:= X3.then gD s3
   have G3d:= below_heap gD G3
   have s3d:= X3d.size
   have K2: ∀ W,W.heap[w.heap.size + 1 + 1 + 1]? = some (.cells (tv y.at_).toArray 44) → Bx3 w.heap.size w.heap.size home y x w W → (W.cell? ⟨w.heap.size + 1 + 1 + 1,0,none⟩ = some (str y.at_.v) ∧ W.cell? ⟨w.heap.size + 1 + 1 + 1,1,none⟩ = some (.bool y.at_.k.num) ∧ W.cell? ⟨w.heap.size + 1 + 1 + 1,2,none⟩ = some (.int .i64 y.at_.k.n) ∧ W.cell? ⟨w.heap.size + 1 + 1 + 1,3,none⟩ = some (str y.at_.k.s) ∧ W.cell? ⟨w.heap.size + 2,0,none⟩ = some (str x.at_)):= fun W h1 h2 => by
    obtain ⟨c1,c2,c3,c4⟩:= tv_cells h1
    exact ⟨c1,c2,c3,c4,(fv_cells h2.h2).1⟩
   have HK2:= hideP K2
   clear K2
   have TT:= hideP (fun W => rName_at x.at_ W)
   have TU:= hideP (fun W h1 => rUnify_at y.at_ (Mt.nm x.at_) a c L W h1 (by omega))
   go_region_held3 (fun W => W.cell? ⟨w.heap.size + 1 + 1 + 1,0,none⟩ = some (str y.at_.v) ∧ W.cell? ⟨w.heap.size + 1 + 1 + 1,1,none⟩ = some (.bool y.at_.k.num) ∧ W.cell? ⟨w.heap.size + 1 + 1 + 1,2,none⟩ = some (.int .i64 y.at_.k.n) ∧ W.cell? ⟨w.heap.size + 1 + 1 + 1,3,none⟩ = some (str y.at_.k.s) ∧ W.cell? ⟨w.heap.size + 2,0,none⟩ = some (str x.at_)) (first | exact HK2.out _ G5 X5 | exact HK2.out _ G4 X4 | exact HK2.out _ G3d X3d) (first
    | (go_at_call 60;refine (TT.out _).mono ?_;rintro e w4 ⟨rfl,b4⟩;have X4:= X3d.then b4 s3d;have G4:= below_heap b4 G3d;have s4:= X4.size)
    | (go_at_call 59;refine (TU.out _ (h.below X4.below (Nat.le_refl _))).mono ?_;rintro e w5 ⟨⟨a5,c5,rfl,E5⟩,b5⟩;have X5:= X4.then b5 s4;have G5:= below_heap b5 G4))
   clear TU TT HK2 gD X3 X3d G3 G3d X4 G4 s3 s3d s4 b4 b5 G5
   rcases uni_two y.at_ (Mt.nm x.at_) L with ⟨u1,u2,u3⟩ | ⟨e1,u1,u2,u3,u4⟩
   ·rw [u3]
    obtain ⟨z1,z2⟩:= lit_of_none (LY.out u1)
    have Z1:= hideP z1
    have Z2:= hideP z2
    clear u1 u2 u3 z1 z2 LY LS
    go_wp2_with fail
    go_ret2
    rw [Z1.out,Z2.out]
    exact ⟨⟨none,0,rfl,Row.nil _ _⟩,X5.below⟩
   ·rw [u2] at E5 ⊢
    rw [u3]
    have L1: Hid (Mt.lit home y.l x.f L = (Mt.by1 y.l x.f e1).bind fun e2 => Mt.unis y.args x.ks e2):= LS.out e1 u1
    have BC:= hideP (by1_cases y.l x.f e1)
    clear u1 u2 u3 LY LS
    have rb:= (lit_parts10 X5.h1).1
    have TB:= hideP (TN.out y.by_)
    go_wp2_with (refine wpList_load_mid rfl 44 _ rfl (w.heap.size + 1) 0 rfl (tv y.by_) _ rb Tryz.underlying44 rfl iT ?_)
    refine (TB.out w5).mono ?_
    rintro e w6 ⟨rfl,b6⟩
    have s5:= X5.size
    have X6:= X5.then b6 s5
    have E6:= E5.below b6 (Nat.le_refl _)
    clear X5 E5 b6 s5 rb TB TN
    obtain ⟨m0,m1,_,_⟩:= fv_cells X6.h2
    rcases BC.out with ⟨v1,v2,v3⟩ | ⟨v1,v2,v3⟩ | ⟨v1,v3⟩
    ·have v1': Mt.nul y.by_ = true:= v1
     have v4: x.by_ = x.at_:= v2
     have v2': (x.by_ == x.at_) = true:= by simpa using v4
     clear v4
     rw [v1']
     have L2:= L1.out
     rw [v3] at L2
     have L3: Hid (Mt.lit home y.l x.f L = Mt.unis (y.args.drop 0) (x.ks.drop 0) e1):= L2
     clear v1 v2 v3 v1' L1 L2 BC
     go_wp2_with fail
     go_loopw [11,12,13] (fun v11 _ v13 wr => ∃ (i: Nat) (M: List Bd) (a': Option Addr) (c': Nat),v11 = .slice a' M.length c' ∧ v13 = .int .i64 (i: Int) ∧ i ≤ y.args.length ∧ M.length ≤ L.length + 2 + i ∧ Row bK wr a' c' M ∧ Bx3 w.heap.size w.heap.size home y x w wr ∧ Hid (Mt.lit home y.l x.f L = Mt.unis (y.args.drop i) (x.ks.drop i) M)) (fun _ _ v13 _ => y.args.length - (RowKit.intOf v13).toNat)
     case atStart => exact ⟨0,e1,a5,c5,rfl,rfl,Nat.zero_le _,by omega,E6,X6,L3⟩
     case round =>
      obtain ⟨i,M,a',c',rfl,rfl,hi,hM,E,X,HL⟩:= hrel
      have cl:= (lv_cells X.h1).2.2.2.2
      by_cases hlt: i < y.args.length
      ·have q3: (i: Int) < (y.args.length: Int):= by omega
       have hlt': i < x.ks.length:= by have:= hl'.out;omega
       have q4: (i: Int) < (x.ks.length: Int):= by omega
       have ST:= HL.out
       rw [Mt.unis_step hlt hlt'] at ST
       have HST:= hideP ST
       clear ST HL
       obtain ⟨P1,O1,hP⟩:= Row.addr (show Row tK w y.a y.cap y.args from hy) (Nat.lt_of_le_of_lt (Nat.zero_le _) hlt)
       obtain ⟨P2,O2,hQ⟩:= ArgsAt.addr (show ArgsAt w x.a x.cap x.ks from hx) (by omega)
       have s8:= X.size
       have gD:= (Below.refl wr.heap.size wr).drew
       have Xd:= X.then gD s8
       have Ed:= E.below gD (Nat.le_refl _)
       have s8d:= Xd.size
       have K2: ∀ W,Bx3 w.heap.size w.heap.size home y x w W → (W.cell? ⟨w.heap.size + 1,5,none⟩ = some (.slice (some ⟨P1,O1,none⟩) y.args.length y.cap) ∧ W.cell? ⟨P1,O1 + i * 4,none⟩ = some (str (y.args[i]'hlt).v) ∧ W.cell? ⟨P1,O1 + i * 4 + 1,none⟩ = some (.bool (y.args[i]'hlt).k.num) ∧ W.cell? ⟨P1,O1 + i * 4 + 2,none⟩ = some (.int .i64 (y.args[i]'hlt).k.n) ∧ W.cell? ⟨P1,O1 + i * 4 + 3,none⟩ = some (str (y.args[i]'hlt).k.s) ∧ W.cell? ⟨w.heap.size + 2,3,none⟩ = some (.slice (some ⟨P2,O2,none⟩) x.ks.length x.cap) ∧ W.cell? ⟨P2,O2 + i * 3,none⟩ = some (.bool (x.ks[i]'hlt').num) ∧ W.cell? ⟨P2,O2 + i * 3 + 1,none⟩ = some (.int .i64 (x.ks[i]'hlt').n) ∧ W.cell? ⟨P2,O2 + i * 3 + 2,none⟩ = some (str (x.ks[i]'hlt').s)):= fun W h2 => by
        have d5:= (lv_cells h2.h1).2.2.2.2
        have d3:= (fv_cells h2.h2).2.2.2
        have r1: Row tK W y.a y.cap y.args:= hy.below h2.below (Nat.le_refl _)
        have r2: ArgsAt W x.a x.cap x.ks:= hx.below h2.below (Nat.le_refl _)
        rw [hP] at d5 r1
        rw [hQ] at d3 r2
        have r3:= r1.range i hlt
        obtain ⟨m1,m2,m3⟩:= r2.get i hlt'
        exact ⟨d5,r3 0 _ rfl,r3 1 _ rfl,r3 2 _ rfl,r3 3 _ rfl,d3,m1,m2,m3⟩
       have HK2:= hideP K2
       rw [hP] at cl
       clear K2 hP hQ
       generalize (y.args[i]'hlt) = tt at *
       generalize (x.ks[i]'hlt') = kk at *
       have TU:= hideP (fun W h1 => rUnify_at tt kk a' c' M W h1 (by omega))
       go_wp2_with fail
       go_region_held3 (fun W => W.cell? ⟨w.heap.size + 1,5,none⟩ = some (.slice (some ⟨P1,O1,none⟩) y.args.length y.cap) ∧ W.cell? ⟨P1,O1 + i * 4,none⟩ = some (str tt.v) ∧ W.cell? ⟨P1,O1 + i * 4 + 1,none⟩ = some (.bool tt.k.num) ∧ W.cell? ⟨P1,O1 + i * 4 + 2,none⟩ = some (.int .i64 tt.k.n) ∧ W.cell? ⟨P1,O1 + i * 4 + 3,none⟩ = some (str tt.k.s) ∧ W.cell? ⟨w.heap.size + 2,3,none⟩ = some (.slice (some ⟨P2,O2,none⟩) x.ks.length x.cap) ∧ W.cell? ⟨P2,O2 + i * 3,none⟩ = some (.bool kk.num) ∧ W.cell? ⟨P2,O2 + i * 3 + 1,none⟩ = some (.int .i64 kk.n) ∧ W.cell? ⟨P2,O2 + i * 3 + 2,none⟩ = some (str kk.s)) (first | exact HK2.out _ X9 | exact HK2.out _ Xd) (first
        | (go_at_call 59;refine (TU.out _ Ed).mono ?_;rintro e w9 ⟨⟨a9,c9,rfl,E9⟩,b9⟩;have X9:= Xd.then b9 s8d))
       have UL:= uniE_len tt kk M
       rcases uni_two tt kk M with ⟨u1,u2,u3⟩ | ⟨e9,u1,u2,u3,u9⟩
       ·rw [u3]
        have z0:= HST.out
        rw [u1] at z0
        obtain ⟨z1,z2⟩:= lit_of_none z0
        have Z1:= hideP z1
        have Z2:= hideP z2
        clear u1 u2 u3 z0 z1 z2 HST
        go_wp2_with fail
        go_ret2
        rw [Z1.out,Z2.out]
        exact ⟨⟨none,0,rfl,Row.nil _ _⟩,X9.below⟩
       ·rw [u3]
        rw [u2] at E9 UL ⊢
        have z0:= HST.out
        rw [u1] at z0
        have z3:= hideP z0
        clear u1 u2 u3 z0 HST
        go_wp2_with fail
        exact ⟨⟨i + 1,e9,a9,c9,rfl,by go_num,by omega,by omega,E9,X9,z3⟩,by simp [RowKit.intOf];omega⟩
      ·have q3: ¬ (i: Int) < (y.args.length: Int):= by omega
       have z0:= HL.out
       rw [Mt.unis_done (by omega) (by have:= hl'.out;omega)] at z0
       obtain ⟨z1,z2⟩:= lit_of_some z0
       have Z1:= hideP z1
       have Z2:= hideP z2
       clear z0 z1 z2
       go_wp2_with fail
       go_ret2
       rw [Z1.out,Z2.out]
       exact ⟨⟨a',c',rfl,E⟩,X.below⟩
    ·have v1': Mt.nul y.by_ = true:= v1
     have v4: x.by_ ≠ x.at_:= v2
     have v2': (x.by_ == x.at_) = false:= by simpa using v4
     clear v4
     rw [v1']
     have z0:= L1.out
     rw [v3] at z0
     obtain ⟨z1,z2⟩:= lit_of_none z0
     have Z1:= hideP z1
     have Z2:= hideP z2
     clear v1 v2 v3 v1' z0 z1 z2 L1 BC
     go_wp2_with fail
     go_ret2
     rw [Z1.out,Z2.out]
     exact ⟨⟨none,0,rfl,Row.nil _ _⟩,X6.below⟩
    ·have v1': Mt.nul y.by_ = false:= v1
     rw [v1']
     have L2:= L1.out
     rw [v3] at L2
     have L3: Hid (Mt.lit home y.l x.f L = (Mt.uni y.by_ (Mt.nm x.by_) e1).bind fun e2 => Mt.unis y.args x.ks e2):= L2
     clear v1 v3 v1' L1 L2 BC m0 m1
     have s6:= X6.size
     have gD:= (Below.refl w6.heap.size w6).drew
     have X6d:= X6.then gD s6
     have s6d:= X6d.size
     have E6d:= E6.below gD (Nat.le_refl _)
     have K2: ∀ W,Bx3 w.heap.size w.heap.size home y x w W → (W.cell? ⟨w.heap.size + 1,0,none⟩ = some (str y.by_.v) ∧ W.cell? ⟨w.heap.size + 1,1,none⟩ = some (.bool y.by_.k.num) ∧ W.cell? ⟨w.heap.size + 1,2,none⟩ = some (.int .i64 y.by_.k.n) ∧ W.cell? ⟨w.heap.size + 1,3,none⟩ = some (str y.by_.k.s) ∧ W.cell? ⟨w.heap.size + 2,1,none⟩ = some (str x.by_)):= fun W h2 => by
      obtain ⟨d1,d2,d3,d4,_⟩:= lv_cells h2.h1
      exact ⟨d1,d2,d3,d4,(fv_cells h2.h2).2.1⟩
     have HK2:= hideP K2
     clear K2
     have TT:= hideP (fun W => rName_at x.by_ W)
     have TU:= hideP (fun W h1 => rUnify_at y.by_ (Mt.nm x.by_) a5 c5 e1 W h1 (by omega))
     go_wp2_with fail
     go_region_held3 (fun W => W.cell? ⟨w.heap.size + 1,0,none⟩ = some (str y.by_.v) ∧ W.cell? ⟨w.heap.size + 1,1,none⟩ = some (.bool y.by_.k.num) ∧ W.cell? ⟨w.heap.size + 1,2,none⟩ = some (.int .i64 y.by_.k.n) ∧ W.cell? ⟨w.heap.size + 1,3,none⟩ = some (str y.by_.k.s) ∧ W.cell? ⟨w.heap.size + 2,1,none⟩ = some (str x.by_)) (first | exact HK2.out _ X8 | exact HK2.out _ X7 | exact HK2.out _ X6d) (first
      | (go_at_call 60;refine (TT.out _).mono ?_;rintro e w7 ⟨rfl,b7⟩;have X7:= X6d.then b7 s6d;have E7:= E6d.below b7 (Nat.le_refl _);have s7:= X7.size)
      | (go_at_call 59;refine (TU.out _ E7).mono ?_;rintro e w8 ⟨⟨a8,c8,rfl,E8⟩,b8⟩;have X8:= X7.then b8 s7))
     clear TU TT HK2 gD X6 X6d X7 E6 E6d E7 s6 s6d s7 b7 b8
     rcases uni_two y.by_ (Mt.nm x.by_) e1 with ⟨u1,u2,u3⟩ | ⟨e2,u1,u2,u3,u5⟩
     ·rw [u3]
      have z0:= L3.out
      rw [u1] at z0
      obtain ⟨z1,z2⟩:= lit_of_none z0
      have Z1:= hideP z1
      have Z2:= hideP z2
      clear u1 u2 u3 z0 z1 z2 L3
      go_wp2_with fail
      go_ret2
      rw [Z1.out,Z2.out]
      exact ⟨⟨none,0,rfl,Row.nil _ _⟩,X8.below⟩
     ·rw [u2] at E8 ⊢
      rw [u3]
      have L4:= L3.out
      rw [u1] at L4
      clear L3
      have L3: Hid (Mt.lit home y.l x.f L = Mt.unis (y.args.drop 0) (x.ks.drop 0) e2):= L4
      clear u1 u2 u3 L4
      go_wp2_with fail
      go_loopw [11,12,13] (fun v11 _ v13 wr => ∃ (i: Nat) (M: List Bd) (a': Option Addr) (c': Nat),v11 = .slice a' M.length c' ∧ v13 = .int .i64 (i: Int) ∧ i ≤ y.args.length ∧ M.length ≤ L.length + 2 + i ∧ Row bK wr a' c' M ∧ Bx3 w.heap.size w.heap.size home y x w wr ∧ Hid (Mt.lit home y.l x.f L = Mt.unis (y.args.drop i) (x.ks.drop i) M)) (fun _ _ v13 _ => y.args.length - (RowKit.intOf v13).toNat)
      case atStart => exact ⟨0,e2,a8,c8,rfl,rfl,Nat.zero_le _,by omega,E8,X8,L3⟩
      case round =>
       obtain ⟨i,M,a',c',rfl,rfl,hi,hM,E,X,HL⟩:= hrel
       have cl:= (lv_cells X.h1).2.2.2.2
       by_cases hlt: i < y.args.length
       ·have q3: (i: Int) < (y.args.length: Int):= by omega
        have hlt': i < x.ks.length:= by have:= hl'.out;omega
        have q4: (i: Int) < (x.ks.length: Int):= by omega
        have ST:= HL.out
        rw [Mt.unis_step hlt hlt'] at ST
        have HST:= hideP ST
        clear ST HL
        obtain ⟨P1,O1,hP⟩:= Row.addr (show Row tK w y.a y.cap y.args from hy) (Nat.lt_of_le_of_lt (Nat.zero_le _) hlt)
        obtain ⟨P2,O2,hQ⟩:= ArgsAt.addr (show ArgsAt w x.a x.cap x.ks from hx) (by omega)
        have s8:= X.size
        have gD:= (Below.refl wr.heap.size wr).drew
        have Xd:= X.then gD s8
        have Ed:= E.below gD (Nat.le_refl _)
        have s8d:= Xd.size
        have K2: ∀ W,Bx3 w.heap.size w.heap.size home y x w W → (W.cell? ⟨w.heap.size + 1,5,none⟩ = some (.slice (some ⟨P1,O1,none⟩) y.args.length y.cap) ∧ W.cell? ⟨P1,O1 + i * 4,none⟩ = some (str (y.args[i]'hlt).v) ∧ W.cell? ⟨P1,O1 + i * 4 + 1,none⟩ = some (.bool (y.args[i]'hlt).k.num) ∧ W.cell? ⟨P1,O1 + i * 4 + 2,none⟩ = some (.int .i64 (y.args[i]'hlt).k.n) ∧ W.cell? ⟨P1,O1 + i * 4 + 3,none⟩ = some (str (y.args[i]'hlt).k.s) ∧ W.cell? ⟨w.heap.size + 2,3,none⟩ = some (.slice (some ⟨P2,O2,none⟩) x.ks.length x.cap) ∧ W.cell? ⟨P2,O2 + i * 3,none⟩ = some (.bool (x.ks[i]'hlt').num) ∧ W.cell? ⟨P2,O2 + i * 3 + 1,none⟩ = some (.int .i64 (x.ks[i]'hlt').n) ∧ W.cell? ⟨P2,O2 + i * 3 + 2,none⟩ = some (str (x.ks[i]'hlt').s)):= fun W h2 => by
         have d5:= (lv_cells h2.h1).2.2.2.2
         have d3:= (fv_cells h2.h2).2.2.2
         have r1: Row tK W y.a y.cap y.args:= hy.below h2.below (Nat.le_refl _)
         have r2: ArgsAt W x.a x.cap x.ks:= hx.below h2.below (Nat.le_refl _)
         rw [hP] at d5 r1
         rw [hQ] at d3 r2
         have r3:= r1.range i hlt
         obtain ⟨m1,m2,m3⟩:= r2.get i hlt'
         exact ⟨d5,r3 0 _ rfl,r3 1 _ rfl,r3 2 _ rfl,r3 3 _ rfl,d3,m1,m2,m3⟩
        have HK2:= hideP K2
        rw [hP] at cl
        clear K2 hP hQ
        generalize (y.args[i]'hlt) = tt at *
        generalize (x.ks[i]'hlt') = kk at *
        have TU:= hideP (fun W h1 => rUnify_at tt kk a' c' M W h1 (by omega))
        go_wp2_with fail
        go_region_held3 (fun W => W.cell? ⟨w.heap.size + 1,5,none⟩ = some (.slice (some ⟨P1,O1,none⟩) y.args.length y.cap) ∧ W.cell? ⟨P1,O1 + i * 4,none⟩ = some (str tt.v) ∧ W.cell? ⟨P1,O1 + i * 4 + 1,none⟩ = some (.bool tt.k.num) ∧ W.cell? ⟨P1,O1 + i * 4 + 2,none⟩ = some (.int .i64 tt.k.n) ∧ W.cell? ⟨P1,O1 + i * 4 + 3,none⟩ = some (str tt.k.s) ∧ W.cell? ⟨w.heap.size + 2,3,none⟩ = some (.slice (some ⟨P2,O2,none⟩) x.ks.length x.cap) ∧ W.cell? ⟨P2,O2 + i * 3,none⟩ = some (.bool kk.num) ∧ W.cell? ⟨P2,O2 + i * 3 + 1,none⟩ = some (.int .i64 kk.n) ∧ W.cell? ⟨P2,O2 + i * 3 + 2,none⟩ = some (str kk.s)) (first | exact HK2.out _ X9 | exact HK2.out _ Xd) (first
         | (go_at_call 59;refine (TU.out _ Ed).mono ?_;rintro e w9 ⟨⟨a9,c9,rfl,E9⟩,b9⟩;have X9:= Xd.then b9 s8d))
        have UL:= uniE_len tt kk M
        rcases uni_two tt kk M with ⟨u1,u2,u3⟩ | ⟨e9,u1,u2,u3,u9⟩
        ·rw [u3]
         have z0:= HST.out
         rw [u1] at z0
         obtain ⟨z1,z2⟩:= lit_of_none z0
         have Z1:= hideP z1
         have Z2:= hideP z2
         clear u1 u2 u3 z0 z1 z2 HST
         go_wp2_with fail
         go_ret2
         rw [Z1.out,Z2.out]
         exact ⟨⟨none,0,rfl,Row.nil _ _⟩,X9.below⟩
        ·rw [u3]
         rw [u2] at E9 UL ⊢
         have z0:= HST.out
         rw [u1] at z0
         have z3:= hideP z0
         clear u1 u2 u3 z0 HST
         go_wp2_with fail
         exact ⟨⟨i + 1,e9,a9,c9,rfl,by go_num,by omega,by omega,E9,X9,z3⟩,by simp [RowKit.intOf];omega⟩
       ·have q3: ¬ (i: Int) < (y.args.length: Int):= by omega
        have z0:= HL.out
        rw [Mt.unis_done (by omega) (by have:= hl'.out;omega)] at z0
        obtain ⟨z1,z2⟩:= lit_of_some z0
        have Z1:= hideP z1
        have Z2:= hideP z2
        clear z0 z1 z2
        go_wp2_with fail
        go_ret2
        rw [Z1.out,Z2.out]
        exact ⟨⟨a',c',rfl,E⟩,X.below⟩
end Go.Proofs.YtpdmmmdkpipmkaaGreatDoor
namespace Go.Proofs.YtpdmmmdkpipmkaaGreatDoor
open Go.RowKit Go.Lib Go.Shelf
def ValsAns (e: Ending) (w: World) (o: Option (List K)): Prop:= ∃ u c ks,e = .returned (.tuple #[.slice u (List.length ks) c,.bool o.isSome]) ∧ RowT kK 42 w u c ks ∧ ks = o.getD []
theorem ValsAns.no {w: World} {o: Option (List K)} (h: o = none): ValsAns (.returned (.tuple #[.slice none 0 0,.bool false])) w o:= ⟨none,0,[],by rw [h];rfl,RowT.nil _ _ _,by rw [h];rfl⟩
theorem rvalues_at (aa: Option Addr) (ac: Nat) (ts: List Tm) (a: Option Addr) (c: Nat) (L: List Bd) (w: World) (ht: Row tK w aa ac ts) (h: Row bK w a c L) (hf: ts.length ≤ 900000):
 Calls Tryz.prog 138 #[.slice aa ts.length ac,.slice a L.length c] w fun e w' => ValsAns e w' (Mt.vals L ts) ∧ Below w.heap.size w w':= by
 have iK: (Tryz.prog.info? 42).map (·.size) = some 3:= by kernel_rfl
 have iT: (Tryz.prog.info? 44).map (·.size) = some 4:= by kernel_rfl
 go_enter Tryz.func138,Tryz.ntmps138
 go_wp2_with fail
 go_loopw [6,7,8,9] (fun v6 v7 _ _ wr => ∃ (i: Nat) (ks: List K) (u: Option Addr) (cu: Nat),v6 = .slice u (List.length ks) cu ∧ v7 = .int .i64 (i: Int) ∧ i ≤ ts.length ∧ Hid (ks.length = i) ∧ OwnK w.heap.size wr (.slice u (List.length ks) cu) ks ∧ Below w.heap.size w wr ∧ Hid (Mt.vals L ts = (Mt.vals L (ts.drop i)).map fun cs => ks ++ cs)) (fun _ v7 _ _ _ => ts.length - (RowKit.intOf v7).toNat)
 case atStart => exact ⟨0,[],none,0,rfl,rfl,Nat.zero_le _,rfl,World.ownsRow_nil _ _ _ _,Below.refl _ _,by show _ = _;rw [List.drop_zero];cases Mt.vals L ts <;> simp⟩
 case round =>
  obtain ⟨i,ks,u,cu,rfl,rfl,hi,hk,OK,B,HV⟩:= hrel
  by_cases hlt: i < ts.length
  ·have q3: (i: Int) < (ts.length: Int):= by omega
   obtain ⟨P1,O1,rfl⟩:= ht.addr (Nat.lt_of_le_of_lt (Nat.zero_le _) hlt)
   have r1: wr.rangeAt P1 (O1 + i * 4) (tv (ts[i]'hlt)):= (ht.below B (Nat.le_refl _)).range i hlt
   have ST:= HV.out
   rw [Mt.vals_step hlt] at ST
   have HST:= hideP ST
   clear ST HV
   generalize (ts[i]'hlt) = t at *
   have iQ: (Tryz.prog.info? 44).map (·.size) = some (tv t).length:= iT
   go_wp2_with (refine wpList_load_mid rfl 44 _ rfl P1 (O1 + i * 4) rfl (tv t) _ r1 Tryz.underlying44 rfl iQ ?_)
   refine (rvalue_at t a c L wr (h.below B (Nat.le_refl _))).mono ?_
   rintro e w5 ⟨rfl,b5⟩
   have B5:= Below.then B b5
   have OK5: OwnK w.heap.size w5 (.slice u (List.length ks) cu) ks:= ownsRow_keep OK (Safe.below b5: Safe 42 _ _)
   clear OK B b5 r1
   have N6:= heap_alloc_new w5 (.cells #[.bool false,.int .i64 0,.string { data:= #[] }] 42)
   rcases val_two t L with ⟨u1,u2⟩ | ⟨kk,u1,u2,u3⟩
   ·have z0:= HST.out
    rw [u1] at z0
    have Z1:= hideP z0
    rw [u2]
    clear u1 u2 z0 HST
    generalize valK t L = vk at *
    go_wp2_with (refine wpList_store_all rfl 42 _ _ rfl w5.heap.size 3 _ 42 (kv vk) rfl rfl N6 rfl rfl iK rfl ?_;intro w6 H6 b6;have T6:= below_tok b6)
    go_ret2
    exact ⟨ValsAns.no Z1.out,Below.then B5 T6⟩
   ·have z0:= HST.out
    rw [u1] at z0
    have Z1:= hideP (Mt.gather (acc:= ks) (c:= kk) z0)
    rw [u2,u3]
    clear u1 u2 u3 z0 HST
    go_wp2_with (first | (refine wpList_store_all rfl 42 _ _ rfl w5.heap.size 3 _ 42 (kv kk) rfl rfl N6 rfl rfl iK rfl ?_;intro w6 H6 b6;have T6:= below_tok b6;have A7:= below_alloc w6 (.cells (kv kk).toArray 42);have o6:= ownsRow_keep OK5 (Safe.below T6: Safe 42 _ _);have o7:= ownsRow_keep o6 (Safe.below A7: Safe 42 _ _);have R7: Row kK (w6.alloc (.cells (kv kk).toArray 42)) (some ⟨w6.heap.size,0,none⟩) 1 [kk]:= row_new kK w6 _ _ kk rfl;have hb7:= Nat.le_trans (Nat.le_trans B5.size T6.size) A7.size) | (refine wpList_load_all rfl 42 _ rfl w5.heap.size 3 42 (kv kk) _ rfl H6 rfl Tryz.underlying42 rfl iK ?_) | (refine wpList_build_one rfl 35 42 _ rfl (kv kk) _ 3 32 rfl rfl (by decide) (by decide) Tryz.underlying35 Tryz.iK3 ?_) | (at_builtin;refine wpList_append_rec kK _ rfl _ _ 35 42 rfl _ 32 Tryz.underlying35 Tryz.iKk rfl (by decide) w.heap.size (.slice u ks.length cu) ks [kk] (some ⟨w6.heap.size,0,none⟩) 1 1 rfl o7 rfl rfl R7 hb7 (by have:= hk.out;simp only [List.length_cons,List.length_nil];omega) ?_;intro v8 w8 o8 g8;obtain ⟨u8,c8,rfl,R8,_⟩:= own_row (D:= kK) (xs:= ks ++ [kk]) o8 (by have:= hk.out;simp only [List.length_append,List.length_cons,List.length_nil];omega);have B8: Below w.heap.size w w8:= (Below.then (Below.then B5 T6) A7).trans (own_below o7 g8 hb7)))
    exact ⟨⟨i + 1,ks ++ [kk],u8,c8,by rw [List.length_append];rfl,by go_num,by omega,by show _ = _;rw [List.length_append,hk.out];rfl,o8,B8,Z1⟩,by simp [RowKit.intOf];omega⟩
  ·have q3: ¬ (i: Int) < (ts.length: Int):= by omega
   have z0:= HV.out
   rw [Mt.vals_done (by omega)] at z0
   have z1:= hideP (Mt.gathered z0)
   obtain ⟨u',c',e',RK,_⟩:= own_row (D:= kK) OK (by have:= hk.out;omega)
   cases e'
   clear z0 HV OK
   go_wp2_with fail
   go_ret2
   exact ⟨⟨u,cu,ks,by rw [z1.out];rfl,RK,by rw [z1.out];rfl⟩,B⟩
theorem vals_two {o: Option (List K)} {ks: List K} (h: ks = o.getD []): (o = none ∧ o.isSome = false) ∨ (o = some ks ∧ o.isSome = true):= by
 cases o with
 | none => exact .inl ⟨rfl,rfl⟩
 | some f => exact .inr ⟨by rw [h];rfl,rfl⟩
theorem rHead_at (x: Rv) (a: Option Addr) (c: Nat) (L: List Bd) (w: World) (hr: Rv.Aw w x) (h: Row bK w a c L) (hf: x.args.length ≤ 900000):
 Calls Tryz.prog 90 #[rval x,.slice a L.length c] w fun e w' => FactAns e w' (Mt.head x.r L) ∧ Below w.heap.size w w':= by
 have iF: (Tryz.prog.info? 37).map (·.size) = some 4:= by kernel_rfl
 have iT: (Tryz.prog.info? 44).map (·.size) = some 4:= by kernel_rfl
 obtain ⟨h0,h1,h2,A0⟩:= boxes3 w (.cells (rv x).toArray 48) (.cells #[.string { data:= #[] },.string { data:= #[] },.string { data:= #[] },.slice none 0 0] 37) (.cells #[.string { data:= #[] },.bool false,.int .i64 0,.string { data:= #[] }] 44)
 obtain ⟨k0',k1',_⟩:= boxes2 w (.cells (rv x).toArray 48) (.cells #[.string { data:= #[] },.string { data:= #[] },.string { data:= #[] },.slice none 0 0] 37)
 have r6:= (rule_parts10 k0').2.1
 have r7:= (rule_parts10 h0).2.1
 have HD: Hid (Mt.head x.r L = Mt.fact (if Mt.nul x.to_ = true then x.home else x.to_) x.home x.pred x.args L):= rfl
 have TN:= hideP (fun W => rnone11_at x.to_ W)
 go_enter Tryz.func90,Tryz.ntmps90
 go_wp2_with (first | (refine wpList_load_mid rfl 44 _ rfl w.heap.size 6 rfl (tv x.to_) _ r6 Tryz.underlying44 rfl iT ?_) | (refine wpList_load_mid rfl 44 _ rfl w.heap.size 6 rfl (tv x.to_) _ r7 Tryz.underlying44 rfl iT ?_) | (refine wpList_store_all rfl 44 _ _ rfl (w.heap.size + 1 + 1) 4 _ 44 (tv x.to_) rfl rfl h2 rfl rfl iT rfl ?_;intro w1 H2 b1) | (refine wpList_load_all rfl 44 _ rfl (w.heap.size + 1 + 1) 4 44 (tv x.to_) _ rfl H2 rfl Tryz.underlying44 rfl iT ?_))
 have H0:= b1.heap (by omega) h0
 have H1:= b1.heap (by omega) h1
 have B1: Below w.heap.size w w1:= A0.trans (b1.lower (by omega) A0.size)
 clear h0 h1 h2 A0 k0' k1' r6 r7 b1
 refine (TN.out w1).mono ?_
 rintro e w2 ⟨rfl,b2⟩
 have G0:= below_heap b2 H0
 have G1:= below_heap b2 H1
 have G2:= below_heap b2 H2
 have B2:= Below.then B1 b2
 have n2:= heap_lt G2
 clear H0 H1 H2 B1 b2 TN
 generalize hq: Mt.nul x.to_ = q at *
 clear hq
 cases q with
 | true =>
  have HD1: Hid (Mt.head x.r L = Mt.fact x.home x.home x.pred x.args L):= HD.out
  have rh:= (rule_parts10 G0).1
  clear HD
  go_wp2_with (first | (refine wpList_load_mid rfl 44 _ rfl w.heap.size 0 rfl (tv x.home) _ rh Tryz.underlying44 rfl iT ?_) | (refine wpList_store_all rfl 44 _ _ rfl (w.heap.size + 1 + 1) 4 _ 44 (tv x.home) rfl rfl G2 rfl rfl iT rfl ?_;intro w3 J2 b3;have J0:= b3.heap (by omega) G0;have rj:= (rule_parts10 J0).1) | (refine wpList_load_mid rfl 44 _ rfl w.heap.size 0 rfl (tv x.home) _ rj Tryz.underlying44 rfl iT ?_))
  have J1:= b3.heap (by omega) G1
  have B3: Below w.heap.size w w3:= B2.trans (b3.lower (by omega) B2.size)
  clear G0 G1 G2 B2 b3 rh
  have FN:= hideP (fun h1 => fact_no (a:= x.home) (b:= x.home) x.pred x.args (L:= L) h1)
  have FY:= hideP (fun h1 h2 => fact_yes (a:= x.home) (b:= x.home) x.pred x.args (L:= L) h1 h2)
  refine (rname_at x.home a c L w3 (h.below B3 (Nat.le_refl _))).mono ?_
  rintro e w4 ⟨rfl,b4⟩
  have I0:= below_heap b4 J0
  have I1:= below_heap b4 J1
  have I2:= below_heap b4 J2
  have B4:= Below.then B3 b4
  clear J0 J1 J2 B3 b4 rj
  go_wp2_with (refine wpList_load_all rfl 44 _ rfl (w.heap.size + 1 + 1) 4 44 (tv x.home) _ rfl I2 rfl Tryz.underlying44 rfl iT ?_)
  refine (rname_at x.home a c L w4 (h.below B4 (Nat.le_refl _))).mono ?_
  rintro e w5 ⟨rfl,b5⟩
  have Q0:= below_heap b5 I0
  have Q1:= below_heap b5 I1
  have B5:= Below.then B4 b5
  have c5:= (rule_parts10 Q0).2.2.2.2.1
  clear I0 I1 I2 B4 b5
  go_wp2_with fail
  refine (rvalues_at x.a x.cap x.args a c L w5 (hr.args.below B5 (Nat.le_refl _)) (h.below B5 (Nat.le_refl _)) hf).mono ?_
  rintro e w6 ⟨⟨u6,c6,ks,rfl,R6,hks⟩,b6⟩
  have S0:= below_heap b6 Q0
  have S1:= below_heap b6 Q1
  have B6:= Below.then B5 b6
  have c4:= (rule_parts10 S0).2.2.2.1
  have n6:= heap_lt S1
  clear Q0 Q1 B5 b6 c5
  generalize hn1: nmB x.home L = n1 at *
  cases n1 with
  | false =>
   have Z:= hideP (HD1.out.trans (FN.out (.inr rfl)))
   clear FN FY HD1 hn1
   go_wp2_with (refine wpList_store_all rfl 37 _ _ rfl (w.heap.size + 1) 4 _ 37 (fv nof) rfl rfl S1 rfl rfl iF rfl ?_;intro w7 H7 b7)
   exact bodyPost_ret (results_c1 rfl rfl H7 Tryz.underlying37 rfl iF) rfl ⟨FactAns.no Z.out,B6.trans (b7.lower (by omega) B6.size)⟩
  | true =>
   have Z:= HD1.out.trans (FY.out rfl rfl)
   clear FN FY HD1 hn1
   rcases vals_two hks with ⟨u1,u2⟩ | ⟨u1,u2⟩
   ·rw [u1] at Z
    have Z2:= hideP Z
    rw [u2]
    clear u1 u2 Z hks
    go_wp2_with (refine wpList_store_all rfl 37 _ _ rfl (w.heap.size + 1) 4 _ 37 (fv nof) rfl rfl S1 rfl rfl iF rfl ?_;intro w7 H7 b7)
    exact bodyPost_ret (results_c1 rfl rfl H7 Tryz.underlying37 rfl iF) rfl ⟨FactAns.no Z2.out,B6.trans (b7.lower (by omega) B6.size)⟩
   ·rw [u1] at Z
    have Z2:= hideP Z
    rw [u2]
    clear u1 u2 Z hks
    generalize nmS x.home L = s1 at *
    go_wp2_with (refine wpList_store_all rfl 37 _ _ rfl (w.heap.size + 1) 4 _ 37 (fv ⟨s1,s1,x.pred,u6,c6,ks⟩) rfl rfl S1 rfl rfl iF rfl ?_;intro w7 H7 b7)
    exact bodyPost_ret (results_c1 rfl rfl H7 Tryz.underlying37 rfl iF) rfl ⟨⟨⟨s1,s1,x.pred,u6,c6,ks⟩,by rw [Z2.out];rfl,R6.safe (Safe.but b7 S1 (by decide)),by rw [Z2.out];rfl⟩,B6.trans (b7.lower (by omega) B6.size)⟩
 | false =>
  have HD1: Hid (Mt.head x.r L = Mt.fact x.to_ x.home x.pred x.args L):= HD.out
  have rh:= (rule_parts10 G0).1
  clear HD
  go_wp2_with (refine wpList_load_mid rfl 44 _ rfl w.heap.size 0 rfl (tv x.home) _ rh Tryz.underlying44 rfl iT ?_)
  have J0:= G0
  have J1:= G1
  have J2:= G2
  have B3:= B2
  have rj:= rh
  clear G0 G1 G2 B2 rh
  generalize hw3: w2 = w3 at *
  clear hw3
  have FN:= hideP (fun h1 => fact_no (a:= x.to_) (b:= x.home) x.pred x.args (L:= L) h1)
  have FY:= hideP (fun h1 h2 => fact_yes (a:= x.to_) (b:= x.home) x.pred x.args (L:= L) h1 h2)
  refine (rname_at x.home a c L w3 (h.below B3 (Nat.le_refl _))).mono ?_
  rintro e w4 ⟨rfl,b4⟩
  have I0:= below_heap b4 J0
  have I1:= below_heap b4 J1
  have I2:= below_heap b4 J2
  have B4:= Below.then B3 b4
  clear J0 J1 J2 B3 b4 rj
  go_wp2_with (refine wpList_load_all rfl 44 _ rfl (w.heap.size + 1 + 1) 4 44 (tv x.to_) _ rfl I2 rfl Tryz.underlying44 rfl iT ?_)
  refine (rname_at x.to_ a c L w4 (h.below B4 (Nat.le_refl _))).mono ?_
  rintro e w5 ⟨rfl,b5⟩
  have Q0:= below_heap b5 I0
  have Q1:= below_heap b5 I1
  have B5:= Below.then B4 b5
  have c5:= (rule_parts10 Q0).2.2.2.2.1
  clear I0 I1 I2 B4 b5
  go_wp2_with fail
  refine (rvalues_at x.a x.cap x.args a c L w5 (hr.args.below B5 (Nat.le_refl _)) (h.below B5 (Nat.le_refl _)) hf).mono ?_
  rintro e w6 ⟨⟨u6,c6,ks,rfl,R6,hks⟩,b6⟩
  have S0:= below_heap b6 Q0
  have S1:= below_heap b6 Q1
  have B6:= Below.then B5 b6
  have c4:= (rule_parts10 S0).2.2.2.1
  have n6:= heap_lt S1
  clear Q0 Q1 B5 b6 c5
  generalize hn1: nmB x.home L = n1 at *
  generalize hn2: nmB x.to_ L = n2' at *
  cases n1 with
  | false =>
   have Z:= hideP (HD1.out.trans (FN.out (.inr rfl)))
   clear FN FY HD1 hn1 hn2
   go_wp2_with (refine wpList_store_all rfl 37 _ _ rfl (w.heap.size + 1) 4 _ 37 (fv nof) rfl rfl S1 rfl rfl iF rfl ?_;intro w7 H7 b7)
   exact bodyPost_ret (results_c1 rfl rfl H7 Tryz.underlying37 rfl iF) rfl ⟨FactAns.no Z.out,B6.trans (b7.lower (by omega) B6.size)⟩
  | true =>
   cases n2' with
   | false =>
    have Z:= hideP (HD1.out.trans (FN.out (.inl rfl)))
    clear FN FY HD1 hn1 hn2
    go_wp2_with (refine wpList_store_all rfl 37 _ _ rfl (w.heap.size + 1) 4 _ 37 (fv nof) rfl rfl S1 rfl rfl iF rfl ?_;intro w7 H7 b7)
    exact bodyPost_ret (results_c1 rfl rfl H7 Tryz.underlying37 rfl iF) rfl ⟨FactAns.no Z.out,B6.trans (b7.lower (by omega) B6.size)⟩
   | true =>
    have Z:= HD1.out.trans (FY.out rfl rfl)
    clear FN FY HD1 hn1 hn2
    rcases vals_two hks with ⟨u1,u2⟩ | ⟨u1,u2⟩
    ·rw [u1] at Z
     have Z2:= hideP Z
     rw [u2]
     clear u1 u2 Z hks
     go_wp2_with (refine wpList_store_all rfl 37 _ _ rfl (w.heap.size + 1) 4 _ 37 (fv nof) rfl rfl S1 rfl rfl iF rfl ?_;intro w7 H7 b7)
     exact bodyPost_ret (results_c1 rfl rfl H7 Tryz.underlying37 rfl iF) rfl ⟨FactAns.no Z2.out,B6.trans (b7.lower (by omega) B6.size)⟩
    ·rw [u1] at Z
     have Z2:= hideP Z
     rw [u2]
     clear u1 u2 Z hks
     generalize nmS x.home L = s1 at *
     generalize nmS x.to_ L = s2 at *
     go_wp2_with (refine wpList_store_all rfl 37 _ _ rfl (w.heap.size + 1) 4 _ 37 (fv ⟨s2,s1,x.pred,u6,c6,ks⟩) rfl rfl S1 rfl rfl iF rfl ?_;intro w7 H7 b7)
     exact bodyPost_ret (results_c1 rfl rfl H7 Tryz.underlying37 rfl iF) rfl ⟨⟨⟨s2,s1,x.pred,u6,c6,ks⟩,by rw [Z2.out];rfl,R6.safe (Safe.but b7 S1 (by decide)),by rw [Z2.out];rfl⟩,B6.trans (b7.lower (by omega) B6.size)⟩
end Go.Proofs.YtpdmmmdkpipmkaaGreatDoor
namespace Go.Proofs.YtpdmmmdkpipmkaaGreatDoor
open Go.RowKit Go.Lib Go.Shelf
abbrev wdv (ha: Option Addr) (hc: Nat) (hs: List (List UInt8)) (na: Option Addr) (nc: Nat) (ns: List (List UInt8)): Value:= .agg #[.slice ha hs.length hc,.slice na ns.length nc]
end Go.Proofs.YtpdmmmdkpipmkaaGreatDoor
namespace Go.Proofs.YtpdmmmdkpipmkaaGreatDoor
open Go.RowKit Go.Lib Go.Shelf
attribute [local go_sem] Oper.semAt_some
theorem liesRow {w: World} {a: Option Addr} {c: Nat} {xs: List Fv} (h: Lies w a c xs): Row fK w a c xs:= ⟨h.room,by have:= h.few;omega,h.void,h.cells⟩
end Go.Proofs.YtpdmmmdkpipmkaaGreatDoor
namespace Go.Proofs.YtpdmmmdkpipmkaaGreatDoor
open Go.RowKit Go.Lib Go.Shelf
theorem run_copy_k {P: Program} (w: World) (dT sT ty elem: TypeId) (k g o dLen dCap n: Nat) (a: Addr) (sLen sCap: Nat) (cur: Array Value) (t: TypeId) (cs: List Value)
 (hu: P.underlying dT = some (.slice elem)) (hs: (P.info? elem).map (·.size) = some k)
 (hg: w.heap[g]? = some (.cells cur t (0,0))) (hn: n = Nat.min sLen dLen) (hl: cs.length = n * k)
 (hsrc: ∀ j v,cs[j]? = some v → w.cell? (a.add j) = some v) (hfit: o + cs.length ≤ cur.size) (h1: ∀ v ∈ cs,v.oneCell' = true):
 (Builtin.copy_ #[dT,sT] ty #[.slice (some ⟨g,o,none⟩) dLen dCap,.slice (some a) sLen sCap]).run P w =
   .ok (goInt n) (w.setRow g (cur.toList.take o ++ cs ++ cur.toList.drop (o + cs.length)).toArray):= by
 have h2:= run_loadCells_list (P:= P) w a cs hsrc
 have h3:= run_storeCells_at P g o t cs 0 cur w hg (by simpa using hfit) h1
 rw [hl] at h2
 cases hq: P.info? elem with
 | none => simp [hq] at hs
 | some i =>
  have hi: i.size = k:= by simpa [hq] using hs
  simp [Builtin.copy_,run_underlying hu,Builtin.lenOf,Builtin.firstCells,sizeOf,typeInfo,hq,hi,← hn,h2,h3]
end Go.Proofs.YtpdmmmdkpipmkaaGreatDoor
