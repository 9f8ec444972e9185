/-
  Seen, the program's and the reference's.
-/
import Derived.Test.YtpdmmmdkpipmkaaGreatDoorQRn12
import Derived.Test.YtpdmmmdkpipmkaaGreatDoorQBn
import Derived.Test.YtpdmmmdkpipmkaaGreatDoorQWf12
import Derived.Test.YtpdmmmdkpipmkaaGreatDoorQOz12
import Derived.Test.YtpdmmmdkpipmkaaGreatDoorQLd
set_option maxRecDepth 100000
set_option maxHeartbeats 1000000
namespace Go.Proofs.YtpdmmmdkpipmkaaGreatDoor
open Go.RowKit Go.Lib Go.Shelf
theorem Tryz.iKk13: (Tryz.prog.info? 42).map (fun i => (i.zero,i.size,i.bytes)) = some (some (.agg #[.bool false,.int .i64 0,.string .empty]),kK.k,32):= by kernel_rfl
theorem Tryz.iFk13: (Tryz.prog.info? 37).map (fun i => (i.zero,i.size,i.bytes)) = some (some (.agg #[.string .empty,.string .empty,.string .empty,.slice none 0 0]),fK.k,72):= by kernel_rfl
theorem liesRow13 {w: World} {a: Option Addr} {c: Nat} {xs: List Fv} (h: Lies w a c xs): Row fK w a c xs:= ⟨h.room,by have:= h.few;omega,h.void,h.cells⟩
theorem own_lies13 {w: World} {base: Nat} {v: Value} {n: Nat} {xs: List Fv} (h: w.ownsRow base 37 fK.k v n (xs.flatMap fK.enc)) (hf: xs.length ≤ 1000000): ∃ a c,v = .slice a xs.length c ∧ Lies w a c xs:= by
 obtain ⟨a,c,h1,h2⟩:= own_facts (xs:= xs) h (by omega)
 exact ⟨a,c,h1,h2.lies⟩
theorem cloneK_at (a: Option Addr) (c: Nat) (xs: List K) (w: World) (hl: Row kK w a c xs) (few: xs.length ≤ 1000000):
 Calls Tryz.prog 33 #[.slice a xs.length c] w fun e w' => (∃ a' c',e = .returned (.slice a' xs.length c') ∧ RowT kK 42 w' a' c' xs) ∧ Below w.heap.size w w':= by
 have hnil: ∀ (w: World) (a: Option Addr) (n c: Nat),(binOp .eql 35 (.slice a n c) (.slice none 0 0)).run Tryz.prog w = .ok (.bool a.isNone) w:= fun w a n c => Lib.run_eql_slice_nil w 35 _ a n c 0 0 Tryz.underlying35
 cases a with
 | none =>
  obtain ⟨rfl,rfl⟩:= hl.void rfl
  go_enter Tryz.func33,Tryz.ntmps33
  go_wp2_with fail
  go_ret
  exact ⟨⟨none,0,rfl,RowT.nil _ _ _⟩,Below.refl _ _⟩
 | some ad =>
  have O1:= owns_lit kK w 42 #[] [] rfl (by simp)
  have A1:= below_alloc w (.cells #[] 42)
  have L1:= hl.below A1 (Nat.le_refl _)
  go_enter Tryz.func33,Tryz.ntmps33
  go_wp2_with (at_builtin;refine wpList_append_rec kK _ rfl _ _ 35 42 rfl _ 32 Tryz.underlying35 Tryz.iKk13 rfl (by decide) w.heap.size (.slice (some ⟨w.heap.size,0,none⟩) 0 0) [] xs (some ad) xs.length c rfl O1 rfl rfl L1 A1.size (by simp only [List.length_nil];omega) ?ap)
  case ap =>
   intro v w2 ho hg
   obtain ⟨a2,c2,rfl,R2⟩:= own_rowO (D:= kK) (xs:= [] ++ xs) ho (by simp only [List.nil_append];omega)
   have B2: Below w.heap.size w w2:= A1.trans (own_below O1 hg A1.size)
   go_wp2_with fail
   go_ret
   exact ⟨⟨a2,c2,rfl,R2⟩,B2⟩
theorem pseen_at (a: Option Addr) (c: Nat) (xs: List Fv) (w: World) (hl: Lies w a c xs) (hx: ∀ x ∈ xs,Fv.At w x) (hk: ∀ x ∈ xs,x.ks.length ≤ 1000000) (hn: xs.length ≤ 1000):
 Calls Tryz.prog 19 #[.slice a xs.length c] w fun e w' => (∃ a' c' ys,e = .returned (.slice a' (List.length ys) c') ∧ Lies w' a' c' ys ∧ (∀ y ∈ ys,Fv.At w' y) ∧ ys.map Fv.f = Lc.seen (xs.map Fv.f)) ∧ Below w.heap.size w w':= by
 have iF: (Tryz.prog.info? 37).map (·.size) = some 4:= by kernel_rfl
 have HR:= hideP (liesRow13 hl)
 have HX:= hideP hx
 have HKs:= hideP hk
 have TP:= hideP (fun p W => prelay_at p W)
 have hml: (xs.map Fv.f).length = xs.length:= List.length_map ..
 clear hl hx hk
 go_enter Tryz.func19,Tryz.ntmps19
 go_wp2_with fail
 go_loopw [3,5,8] (fun v3 _ v8 wr => ∃ (j: Nat) (ys: List Fv),v8 = .int .i64 (j: Int) ∧ j ≤ xs.length ∧ wr.ownsRow w.heap.size 37 fK.k v3 ys.length (ys.flatMap fK.enc) ∧ (∀ y ∈ ys,RowT kK 42 wr y.a y.cap y.ks) ∧ Hid (ys.map Fv.f = Lc.seen ((xs.map Fv.f).take j)) ∧ ys.length ≤ j ∧ Below w.heap.size w wr) (fun _ _ v8 _ => xs.length - (RowKit.intOf v8).toNat)
 case atStart => exact ⟨0,[],rfl,Nat.zero_le _,World.ownsRow_nil _ _ _ _,(fun _ h => by cases h),rfl,Nat.le_refl _,Below.refl _ _⟩
 case round =>
  obtain ⟨j,ys,rfl,hj,O,AY,HS,hyl,D⟩:= hrel
  obtain ⟨a3,c3,rfl,L3⟩:= own_lies13 O (by omega)
  by_cases hlt: j < xs.length
  ·have q: (j: Int) < (xs.length: Int):= by omega
   have hjr: j < (xs.map Fv.f).length:= by omega
   have SS:= Lc.seen_snoc hjr
   rw [List.getElem_map,← HS.out] at SS
   obtain ⟨P1,O1,hP⟩:= HR.out.addr (Nat.lt_of_le_of_lt (Nat.zero_le _) hlt)
   have r1: wr.rangeAt P1 (O1 + j * 4) (fv (xs[j]'hlt)):= by
    have:= HR.out.below D (Nat.le_refl _)
    rw [hP] at this
    exact this.range j hlt
   have aX:= hideP (fun W (h: Below w.heap.size w W) => (args_row (show ArgsAt w (xs[j]'hlt).a (xs[j]'hlt).cap (xs[j]'hlt).ks from HX.out _ (List.getElem_mem hlt))).below h (Nat.le_refl _))
   have kX:= HKs.out _ (List.getElem_mem hlt)
   rw [hP]
   generalize (xs[j]'hlt) = x at *
   have HSS:= hideP SS
   clear SS HS L3
   have iP: (Tryz.prog.info? 37).map (·.size) = some (fv x).length:= iF
   go_upto_region 5 with (first
    | (refine wpList_load_mid rfl 37 _ rfl P1 (O1 + j * 4) rfl (fv x) _ r1 Tryz.underlying37 rfl iP ?_)
    | (refine wpList_store_all rfl 37 _ _ rfl wr.heap.size 4 _ 37 (fv x) rfl rfl (heap_alloc_new wr _) rfl rfl iF rfl ?_;intro w2 H2 d2;have b2:= below_tok d2))
   have c2: w2.cell? ⟨wr.heap.size,2,none⟩ = some (str x.pred):= by rw [heap_cell H2];rfl
   have c3': w2.cell? ⟨wr.heap.size,3,none⟩ = some (.slice x.a x.ks.length x.cap):= by rw [heap_cell H2];rfl
   clear r1 d2
   go_wp2_with fail
   refine (TP.out x.pred w2).mono ?_
   rintro e w3 ⟨rfl,rfl⟩
   cases hrl: Lc.relay x.pred with
   | true =>
    have e1: Lc.relay (Fv.f x).pred = true:= hrl
    have HN: Hid (ys.map Fv.f = Lc.seen ((xs.map Fv.f).take (j + 1))):= by
     show _ = _
     rw [HSS.out,if_pos e1,List.append_nil]
    clear hrl e1 HSS
    go_wp2_with fail
    exact ⟨⟨j + 1,ys,by go_num,by omega,ownsRow_keep O (Safe.below b2),fun y hy => (AY y hy).safe (Safe.below b2),HN,by omega,D.trans (b2.mono D.size)⟩,by simp [RowKit.intOf];omega⟩
   | false =>
    have e1: ¬ Lc.relay (Fv.f x).pred = true:= by rw [show (Fv.f x).pred = x.pred from rfl,hrl];simp
    have HN: Hid (ys.map Fv.f ++ [Fv.f x] = Lc.seen ((xs.map Fv.f).take (j + 1))):= by
     show _ = _
     rw [HSS.out,if_neg e1]
    clear hrl e1 HSS
    have D2:= D.trans (b2.mono D.size)
    have TC:= hideP (cloneK_at x.a x.cap x.ks w2 (aX.out w2 D2) kX)
    go_wp2_with fail
    refine TC.out.mono ?_
    rintro e w4 ⟨⟨a4,c4,rfl,R4⟩,b4⟩
    have H4:= below_heap b4 H2
    have b24:= Below.then b2 b4
    go_upto_region 7 with (refine wpList_store_cel rfl 35 _ _ rfl wr.heap.size 3 4 37 (.slice a4 x.ks.length c4) (fv ⟨x.at_,x.by_,x.pred,a4,c4,x.ks⟩).toArray rfl rfl H4 rfl (by decide) (by kernel_rfl) rfl rfl ?_;intro w5 H5 d5)
    have b5: Below wr.heap.size wr w5:= b24.trans (d5.lower (Nat.le_refl _) b24.size)
    have R5:= R4.safe (Safe.but d5 H4 (by decide): Safe 42 _ _)
    have A6:= below_alloc w5 (.cells (fv ⟨x.at_,x.by_,x.pred,a4,c4,x.ks⟩).toArray 37)
    have b6:= Below.then b5 A6
    have O6:= ownsRow_keep O (Safe.below b6: Safe 37 _ _)
    have D6:= D.trans (b6.mono D.size)
    have R6: Row fK (w5.alloc (.cells (fv ⟨x.at_,x.by_,x.pred,a4,c4,x.ks⟩).toArray 37)) (some ⟨w5.heap.size,0,none⟩) 1 [⟨x.at_,x.by_,x.pred,a4,c4,x.ks⟩]:= row_new fK w5 _ _ _ rfl
    go_wp2_with (first
     | (refine wpList_load_all rfl 37 _ rfl wr.heap.size 4 37 (fv ⟨x.at_,x.by_,x.pred,a4,c4,x.ks⟩) _ rfl H5 rfl Tryz.underlying37 rfl iF ?_)
     | (refine wpList_build_one rfl 32 37 _ rfl (fv ⟨x.at_,x.by_,x.pred,a4,c4,x.ks⟩) _ 4 72 rfl rfl (by decide) (by decide) Tryz.underlying32 Tryz.iFk13 ?_)
     | (at_builtin;refine wpList_append_rec fK _ rfl _ _ 32 37 rfl _ 72 Tryz.underlying32 Tryz.iFk13 rfl (by decide) w.heap.size (.slice a3 ys.length c3) ys [⟨x.at_,x.by_,x.pred,a4,c4,x.ks⟩] (some ⟨w5.heap.size,0,none⟩) 1 1 rfl O6 rfl rfl R6 D6.size (by simp only [List.length_cons,List.length_nil];omega) ?_;intro v7 w7 O7 g7))
    have sK: Safe 42 (w5.alloc (.cells (fv ⟨x.at_,x.by_,x.pred,a4,c4,x.ks⟩).toArray 37)) w7:= Safe.grown O6 g7 (by decide)
    refine ⟨⟨j + 1,ys ++ [⟨x.at_,x.by_,x.pred,a4,c4,x.ks⟩],by go_num,by omega,O7,fun y hy => ?_,by show _ = _;rw [List.map_append];exact HN.out,by simp only [List.length_append,List.length_cons,List.length_nil];omega,D6.trans (own_below O6 g7 D6.size)⟩,by simp [RowKit.intOf];omega⟩
    rcases List.mem_append.1 hy with hy | hy
    ·exact ((AY y hy).safe (Safe.below b6)).safe sK
    ·rw [List.mem_singleton.1 hy];exact (R5.safe (Safe.below A6)).safe sK
  ·have q: ¬ (j: Int) < (xs.length: Int):= by omega
   obtain rfl: j = xs.length:= by omega
   rw [← hml,List.take_length] at HS
   go_wp2_with fail
   go_ret
   exact ⟨⟨a3,c3,ys,rfl,L3,fun y hy => row_args (AY y hy).row,HS.out⟩,D⟩
end Go.Proofs.YtpdmmmdkpipmkaaGreatDoor
namespace Go.Proofs.YtpdmmmdkpipmkaaGreatDoor
open Go.RowKit Go.Lib Go.Shelf
theorem tab_of {w: World} (h: Laid w): TabB w.heap.size w:= fun _ hb => (h.below hb).tab
theorem RvB.smh {x: Rv} (h: RvB x): SmH x.r:= ⟨h.home.k,h.to_.k,fun t ht => (h.args t ht).k⟩
theorem tm_le {t: Tm} (h: TmB t): t.v.length ≤ maxLen:= Nat.le_trans h.v (by decide)
theorem RvB.smr {x: Rv} (h: RvB x) (l: LtR 120 x): SmR x:= by
 have l1:= l.body
 have l2:= l.args
 refine ⟨by omega,by omega,fun y hy => by have:= (l.each y hy).args;omega,fun v hv => ?_,fun y hy v hv => ?_⟩
 ·unfold Ml.hvars at hv
  simp only [List.mem_cons,List.mem_map] at hv
  rcases hv with rfl | rfl | ⟨t,ht,rfl⟩
  ·exact tm_le h.home
  ·exact tm_le h.to_
  ·exact tm_le (h.args t ht)
 ·have hb:= h.body y hy
  unfold Ml.lvars at hv
  simp only [List.mem_cons,List.mem_map] at hv
  rcases hv with rfl | rfl | ⟨t,ht,rfl⟩
  ·first | exact tm_le hb.by_ | exact tm_le hb.at_
  ·first | exact tm_le hb.at_ | exact tm_le hb.by_
  ·exact tm_le (hb.args t ht)
theorem FvB.sm {z: Fv} (h: FvB z): SmF z.f:= ⟨h.at_,h.by_,h.ks⟩
theorem FvB.tx {z: Fv} (h: FvB z): TxF z:= ⟨by have:= h.at_;omega,by have:= h.by_;omega,by have:= h.pred;omega,fun k hk => by have:= (h.ks k hk).2.2;omega⟩
theorem RvB.tx {x: Rv} (h: RvB x): TxR x:= ⟨by have:= h.pred;omega,fun l hl => by have:= (h.body l hl).pred;omega⟩
theorem c0_ok: (⟨0,false⟩: Ml.Cn).Ok:= ⟨by decide,fun _ => by decide⟩
end Go.Proofs.YtpdmmmdkpipmkaaGreatDoor
