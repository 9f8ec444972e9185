/-
  LocalSame: its walk.
-/
import Derived.Test.YtpdmmmdkpipmkaaGreatDoorQSx13
import Derived.Deep.QuietTactic
set_option maxRecDepth 100000
namespace Go.Proofs.YtpdmmmdkpipmkaaGreatDoor
open Go.RowKit Go.Lib Go.Shelf
def AtIn (b: Bool) (x: List UInt8) (hs: List (List UInt8)): Prop:= b = true → x ∈ hs
theorem err_some {o: Option (List F)} (h: errOf o = 0): ∃ n,o = some n:= by
 cases o with
 | none => cases h
 | some n => exact ⟨n,rfl⟩
set_option maxHeartbeats 8000000 in
theorem localSame_walk (ha: Option Addr) (hc: Nat) (hs: List (List UInt8)) (ra: Option Addr) (rc: Nat) (rs: List Rv) (fa: Option Addr) (fc: Nat) (zs: List Fv) (W: World) (hL: Laid W) (hT: TsB W ha hc hs) (hR: RsB W ra rc rs) (hF: FsB W fa fc zs):
 Calls Tryz.prog 8 #[.slice ha hs.length hc,.slice ra rs.length rc,.slice fa zs.length fc] W fun e w' => e = .returned (.bool true) ∧ Below W.heap.size W w':= by
 have mixed: Tryz.prog.follows .mixedOrders = true:= by kernel_rfl
 have iF: (Tryz.prog.info? 37).map (·.size) = some 4:= by kernel_rfl
 have TV:= hideP (fun w (b: Below W.heap.size W w) => live13_at w (hL.below b))
 have HL:= hideP hL
 have HT:= hideP hT
 have HR:= hideP hR
 have HF:= hideP hF
 have nfew:= hT.row.few
 have ffew:= hF.lies.few
 clear hL hT hR hF
 go_enter Tryz.func8,Tryz.ntmps8
 by_cases h4: hs.length > 4
 ·have q: (hs.length: Int) > 4:= by omega
  go_wp2_with fail
  refine (TV.out W (Below.refl _ _)).mono ?_
  rintro e w2 ⟨rfl,b2⟩
  go_wp2_with fail
  go_ret
  exact ⟨rfl,b2⟩
 have q4: ¬ (hs.length: Int) > 4:= by omega
 go_wp2_with fail
 refine (rweightM_at 60 (by decide) (by decide) ra rc rs W HR.out.at_.row HR.out.at_.each (fun x h => (HR.out.each x h).tx)).mono ?_
 rintro e w1 ⟨⟨r1,rfl,hw1⟩,g1⟩
 have B1: Below W.heap.size W w1:= g1.below
 have HW1:= hideP hw1
 clear hw1 g1
 by_cases hr1: r1 > 60
 ·go_wp2_with fail
  refine (TV.out w1 B1).mono ?_
  rintro e w2 ⟨rfl,b2⟩
  go_wp2_with fail
  go_ret
  exact ⟨rfl,Below.then B1 b2⟩
 go_wp2_with fail
 refine (weightF_at 60 (by decide) (by decide) fa fc zs w1 (HF.out.lies.below B1 (Nat.le_refl _)) (fun x h => (HF.out.at_ x h).below B1 (Nat.le_refl _)) (fun x h => (HF.out.each x h).tx)).mono ?_
 rintro e w2 ⟨⟨r2,rfl,hw2⟩,g2⟩
 have B2: Below W.heap.size W w2:= Below.then B1 g2.below
 have HW2:= hideP hw2
 clear hw2 g2
 by_cases hr2: r2 > 60
 ·go_wp2_with fail
  refine (TV.out w2 B2).mono ?_
  rintro e w3 ⟨rfl,b3⟩
  go_wp2_with fail
  go_ret
  exact ⟨rfl,Below.then B2 b3⟩
 have HX1:= hideP (HW1.out (by omega))
 have HX2:= hideP (HW2.out (by omega))
 clear HW1 HW2
 have T1:= hideP (rewrite_at ra rc rs w2 (HL.out.below B2) (HR.out.at_.below B2) (fun x h => (HR.out.each x h).rin))
 unfold RwAns at T1
 by_cases h0: (Ck.prog (rs.map Rv.r)).1 = 0
 ·rw [h0] at T1
  have FI:= hideP (Lc.prog_fine h0)
  have OK0:= hideP h0
  clear h0
  go_wp2_with fail
  refine T1.out.mono ?_
  rintro e w3 ⟨⟨a3,c3,ys,rfl,R3,A3,E3⟩,b3⟩
  have B3:= Below.then B2 b3
  rw [if_pos trivial] at E3
  have RW:= hideP (Rwd.of E3 HR.out.each OK0.out)
  have LY: Hid (LIn w3 a3 c3 ys ha hc hs ha hc hs):= (⟨⟨R3,fun y hy => (A3 y hy).aw⟩,fun y hy => gd_smr (RW.out.gd y hy),fun r hr => by
   obtain ⟨y,hy,rfl⟩:= List.mem_map.1 hr
   exact gd_smh (RW.out.gd y hy),HT.out.row.below B3 (Nat.le_refl _),HT.out.each,HT.out.row.below B3 (Nat.le_refl _),tab_of (HL.out.below B3)⟩: LIn w3 a3 c3 ys ha hc hs ha hc hs)
  have LX: Hid (LIn w3 ra rc rs ha hc hs ha hc hs):= (⟨HR.out.at_.below B3,fun x hx => (HR.out.each x hx).smr (ltr_mono (HX1.out.2 x hx) (by decide)),fun r hr => by
   obtain ⟨x,hx,rfl⟩:= List.mem_map.1 hr
   exact (HR.out.each x hx).smh,HT.out.row.below B3 (Nat.le_refl _),HT.out.each,HT.out.row.below B3 (Nat.le_refl _),tab_of (HL.out.below B3)⟩: LIn w3 ra rc rs ha hc hs ha hc hs)
  have HZ:= hideP (liesRow13 HF.out.lies)
  have TP:= hideP (fun p W => rrelay_at p W)
  clear T1 R3 A3 E3
  go_wp2_with fail
  go_loopw [9,10,11,12] (fun v9 v10 _ _ wr => ∃ (i: Nat) (us: List Fv),v10 = .int .i64 (i: Int) ∧ i ≤ zs.length ∧ wr.ownsRow w3.heap.size 37 fK.k v9 us.length (us.flatMap fK.enc) ∧ (∀ u ∈ us,u ∈ zs ∧ u.at_ ∈ hs ∧ Lc.relay u.pred = false) ∧ us.length ≤ i ∧ Below w3.heap.size w3 wr) (fun _ v10 _ _ _ => zs.length - (RowKit.intOf v10).toNat)
  case atStart => exact ⟨0,[],rfl,Nat.zero_le _,World.ownsRow_nil _ _ _ _,(fun _ h => by cases h),Nat.le_refl _,Below.refl _ _⟩
  case round =>
   obtain ⟨i,us,rfl,hi,O,AU,hul,D⟩:= hrel
   have z60:= HX2.out.1
   obtain ⟨a9,c9,rfl,L9⟩:= own_lies13 O (by omega)
   by_cases hil: i < zs.length
   ·have q: (i: Int) < (zs.length: Int):= by omega
    obtain ⟨P2,O2,hP2⟩:= HZ.out.addr (Nat.lt_of_le_of_lt (Nat.zero_le _) hil)
    have ZR:= hideP (fun X (h: Below w3.heap.size w3 X) => (show X.rangeAt P2 (O2 + i * 4) (fv (zs[i]'hil)) by
     have:= HZ.out.below (Below.then B3 h) (Nat.le_refl _)
     rw [hP2] at this
     exact this.range i hil))
    have hmem:= List.getElem_mem hil
    rw [hP2]
    generalize (zs[i]'hil) = z at *
    go_wp2_with fail
    go_loopw [11,12] (fun v11 v12 wi => ∃ (k: Nat) (b: Bool),v11 = .bool b ∧ v12 = .int .i64 (k: Int) ∧ k ≤ hs.length ∧ AtIn b z.at_ hs ∧ wi.ownsRow w3.heap.size 37 fK.k (.slice a9 us.length c9) us.length (us.flatMap fK.enc) ∧ Below w3.heap.size w3 wi) (fun _ v12 _ => hs.length - (RowKit.intOf v12).toNat)
    case atStart => exact ⟨0,false,rfl,rfl,Nat.zero_le _,(fun h => by cases h),O,D⟩
    case round =>
     clear O D L9
     obtain ⟨k,b,rfl,rfl,hk,HB,O,D⟩:= hrel
     by_cases hkl: k < hs.length
     ·have q2: (k: Int) < (hs.length: Int):= by omega
      cases b with
      | true =>
       go_wp2_with fail
       go_quiet (fail)
       go_wp2_with fail
       have bd:= (Grew.drewN wr nq).below
       exact ⟨⟨k + 1,true,rfl,by go_num,by omega,HB,ownsRow_keep O (Safe.below bd),D.trans (bd.mono D.size)⟩,by simp [RowKit.intOf];omega⟩
      | false =>
       obtain ⟨P1,O1,hP1⟩:= HT.out.row.addr (Nat.lt_of_le_of_lt (Nat.zero_le _) hkl)
       have n1: wr.cell? ⟨P1,O1 + k * 1,none⟩ = some (str (hs[k]'hkl)):= by
        have:= HT.out.row.below (Below.then B3 D) (Nat.le_refl _)
        rw [hP1] at this
        exact this.range k hkl 0 _ rfl
       rw [Nat.mul_one] at n1
       have z0: wr.cell? ⟨P2,O2 + i * 4,none⟩ = some (str z.at_):= ZR.out _ D 0 _ rfl
       have nm:= List.getElem_mem hkl
       generalize (hs[k]'hkl) = n at *
       rw [hP1]
       cases hb: (n == z.at_) with
       | true =>
        have HB2: AtIn true z.at_ hs:= fun _ => by rw [← (beq_iff_eq.1 hb: n = z.at_)];exact nm
        go_wp2_with fail
        go_quiet (fail)
        go_wp2_with fail
        have bd:= (Grew.drewN wr nq).below
        exact ⟨⟨k + 1,true,rfl,by go_num,by omega,HB2,ownsRow_keep O (Safe.below bd),D.trans (bd.mono D.size)⟩,by simp [RowKit.intOf];omega⟩
       | false =>
        go_wp2_with fail
        go_quiet (fail)
        go_wp2_with fail
        have bd:= (Grew.drewN wr nq).below
        exact ⟨⟨k + 1,false,rfl,by go_num,by omega,(fun h => by cases h),ownsRow_keep O (Safe.below bd),D.trans (bd.mono D.size)⟩,by simp [RowKit.intOf];omega⟩
     ·have q2: ¬ (k: Int) < (hs.length: Int):= by omega
      cases b with
      | false =>
       go_wp2_with fail
       exact ⟨⟨i + 1,us,by go_num,by omega,O,AU,by omega,D⟩,by simp [RowKit.intOf];omega⟩
      | true =>
       have zat:= HB rfl
       have z2: wr.cell? ⟨P2,O2 + i * 4 + 2,none⟩ = some (str z.pred):= ZR.out _ D 2 _ rfl
       go_wp2_with fail
       refine (TP.out z.pred wr).mono ?_
       rintro e w4 ⟨rfl,rfl⟩
       cases hrl: Lc.relay z.pred with
       | true =>
        clear hrl
        go_wp2_with fail
        exact ⟨⟨i + 1,us,by go_num,by omega,O,AU,by omega,D⟩,by simp [RowKit.intOf];omega⟩
       | false =>
        have r1:= ZR.out _ D
        have iP: (Tryz.prog.info? 37).map (·.size) = some (fv z).length:= iF
        have A6:= below_alloc wr (.cells (fv z).toArray 37)
        have O6:= ownsRow_keep O (Safe.below A6: Safe 37 _ _)
        have D6:= D.trans (A6.mono D.size)
        have R6: Row fK (wr.alloc (.cells (fv z).toArray 37)) (some ⟨wr.heap.size,0,none⟩) 1 [z]:= row_new fK wr _ _ _ rfl
        go_wp2_with (first
         | (refine wpList_load_mid rfl 37 _ rfl P2 (O2 + i * 4) rfl (fv z) _ r1 Tryz.underlying37 rfl iP ?_)
         | (refine wpList_build_one rfl 32 37 _ rfl (fv z) _ 4 72 rfl rfl (by decide) (by decide) Tryz.underlying32 Tryz.iFk13 ?_)
         | (at_builtin;refine wpList_append_rec fK _ rfl _ _ 32 37 rfl _ 72 Tryz.underlying32 Tryz.iFk13 rfl (by decide) w3.heap.size (.slice a9 us.length c9) us [z] (some ⟨wr.heap.size,0,none⟩) 1 1 rfl O6 rfl rfl R6 D6.size (by simp only [List.length_cons,List.length_nil];omega) ?_;intro v7 w7 O7 g7))
        refine ⟨⟨i + 1,us ++ [z],by go_num,by omega,O7,fun u hu => ?_,by simp only [List.length_append,List.length_cons,List.length_nil];omega,D6.trans (own_below O6 g7 D6.size)⟩,by simp [RowKit.intOf];omega⟩
        rcases List.mem_append.1 hu with hu | hu
        ·exact AU u hu
        ·rw [List.mem_singleton.1 hu];exact ⟨hmem,zat,hrl⟩
   ·have q: ¬ (i: Int) < (zs.length: Int):= by omega
    have B4:= Below.then B3 D
    have ufew: us.length ≤ 60:= by omega
    have UA: Hid (∀ u ∈ us,Fv.At wr u):= fun u hu => (HF.out.at_ u (AU u hu).1).below B4 (Nat.le_refl _)
    have US: Hid (∀ u ∈ us,SmF u.f):= fun u hu => (HF.out.each u (AU u hu).1).sm
    have UB: Hid (∀ x ∈ us.map Fv.f,Lc.relay x.pred = false ∧ x.at_ ∈ hs):= fun x hx => by
     obtain ⟨u,hu,rfl⟩:= List.mem_map.1 hx
     exact ⟨(AU u hu).2.2,(AU u hu).2.1⟩
    have UK: Hid (∀ x ∈ us.map Fv.f,x.ks.length ≤ 60):= fun x hx => by
     obtain ⟨u,hu,rfl⟩:= List.mem_map.1 hx
     have:= (HX2.out.2 u (AU u hu).1).ks
     show u.ks.length ≤ 60
     omega
    have HU9:= hideP L9
    obtain ⟨h0,h1,A2⟩:= boxes2 wr (.cells #[.slice ha hs.length hc,.slice ha hs.length hc,.int .i64 0,.bool false] 56) (.cells #[.slice ha hs.length hc,.slice ha hs.length hc,.int .i64 0,.bool false] 56)
    have LXr:= hideP (LX.out.below D)
    have LYr:= hideP (LY.out.below D)
    have rl60:= HX1.out.1
    have yl:= RW.out.len
    have m1: rs.length * hs.length ≤ 1000000:= Nat.le_trans (Nat.mul_le_mul (show rs.length ≤ 60 by omega) (show hs.length ≤ 4 by omega)) (by decide)
    have m2: ys.length * hs.length ≤ 1000000:= Nat.le_trans (Nat.mul_le_mul yl (show hs.length ≤ 4 by omega)) (by decide)
    have TL1:= hideP (rleast_at wr wr.heap.size ra rc rs ha hc hs ha hc hs a9 c9 us ⟨0,false⟩ _ ⟨LXr.out.rules,LXr.out.smr,LXr.out.homes,LXr.out.names,m1⟩ HU9.out UA.out A2 (Nat.le_refl _) h0 c0_ok)
    have TL2:= hideP (fun X (hb: Below wr.heap.size wr X) (hq: X.heap[wr.heap.size + 1]? = _) => rleast_at wr (wr.heap.size + 1) a3 c3 ys ha hc hs ha hc hs a9 c9 us ⟨0,false⟩ X ⟨LYr.out.rules,LYr.out.smr,LYr.out.homes,LYr.out.names,m2⟩ HU9.out UA.out hb (Nat.le_succ _) hq c0_ok)
    clear O L9 AU
    go_wp2_with fail
    refine TL1.out.mono ?_
    rintro e w5 ⟨⟨a5,m5,us5,o1,cc1,rfl,L5,E5,hu5,WQ5,R5⟩,BT5⟩
    have D5: Below wr.heap.size wr w5:= A2.trans (BT5.lower (Nat.le_refl _) A2.size)
    have q5:= BT5.heap (show wr.heap.size + 1 ≠ wr.heap.size by omega) h1
    go_wp2_with fail
    refine (TL2.out w5 D5 q5).mono ?_
    rintro e w6 ⟨⟨a6,m6,us6,o2,cc2,rfl,L6,E6,hu6,WQ6,R6⟩,BT6⟩
    have D6: Below wr.heap.size wr w6:= D5.trans (BT6.lower (Nat.le_succ _) D5.size)
    have g5: w6.cell? ⟨wr.heap.size,3,none⟩ = some (.bool cc1.heavy):= by rw [heap_cell (BT6.heap (show wr.heap.size ≠ wr.heap.size + 1 by omega) WQ5)];rfl
    have g6: w6.cell? ⟨wr.heap.size + 1,3,none⟩ = some (.bool cc2.heavy):= by rw [heap_cell WQ6];rfl
    have B6:= Below.then B4 D6
    have HV1: Hid (cc1.heavy = false → Ml.LstF ⟨hs,hs⟩ (rs.map Rv.r) (sortF (us.map Fv.f)) o1):= fun h => (R5.few (sortF_SS _) c0_ok h).2
    have HV2: Hid (cc2.heavy = false → Ml.LstF ⟨hs,hs⟩ (ys.map Rv.r) (sortF (us.map Fv.f)) o2):= fun h => (R6.few (sortF_SS _) c0_ok h).2
    clear R5 R6 hu5 hu6 TL1 TL2 L5 E5 L6 E6 WQ5 WQ6 BT5 BT6 q5 h0 h1 A2 D5
    cases hv1: cc1.heavy with
    | true =>
     rw [hv1] at g5
     clear hv1 HV1 HV2
     go_wp2_with fail
     refine (TV.out w6 B6).mono ?_
     rintro e w7 ⟨rfl,b7⟩
     go_wp2_with fail
     go_ret
     exact ⟨rfl,Below.then B6 b7⟩
    | false =>
     rw [hv1] at g5
     have LF1:= hideP (HV1.out hv1)
     clear hv1 HV1
     cases hv2: cc2.heavy with
     | true =>
      rw [hv2] at g6
      clear hv2 HV2 LF1
      go_wp2_with fail
      refine (TV.out w6 B6).mono ?_
      rintro e w7 ⟨rfl,b7⟩
      go_wp2_with fail
      go_ret
      exact ⟨rfl,Below.then B6 b7⟩
     | false =>
      rw [hv2] at g6
      have LF2:= hideP (HV2.out hv2)
      clear hv2 HV2
      by_cases e1: errOf o1 = 0
      ·by_cases e2: errOf o2 = 0
       ·obtain ⟨n1,rfl⟩:= err_some e1
        obtain ⟨n2,rfl⟩:= err_some e2
        have x1: errOf (some n1) = 0:= rfl
        have x2: errOf (some n2) = 0:= rfl
        rw [x1,x2]
        clear e1 e2
        have LF3:= LF2.out
        rw [RW.out.eq] at LF3
        have SM:= hideP (Lc.same (w:= ⟨hs,hs⟩) FI.out rfl UB.out LF1.out.lst LF3.lst)
        have NK:= hideP (Lc.lst_few (N:= 60) LF2.out.lst UK.out (fun r hr => by
         obtain ⟨y,hy,rfl⟩:= List.mem_map.1 hr
         exact Nat.le_trans (RW.out.gd y hy).na (by decide)))
        have NL:= (LF2.out.lst.got (sortF_SS _)).2.2.2
        clear LF3
        have TM1:= hideP (fun X (hb: Below wr.heap.size wr X) => mleast_at ra rc rs ha hc hs ha hc hs a9 c9 us (some n1) X (LXr.out.below hb) (HU9.out.below hb (Nat.le_refl _)) (fun z hz => (UA.out z hz).below hb (Nat.le_refl _)) US.out LF1.out)
        have TM2:= hideP (fun X (hb: Below wr.heap.size wr X) => mleast_at a3 c3 ys ha hc hs ha hc hs a9 c9 us (some n2) X (LYr.out.below hb) (HU9.out.below hb (Nat.le_refl _)) (fun z hz => (UA.out z hz).below hb (Nat.le_refl _)) US.out LF2.out)
        simp only [x1] at TM1
        simp only [x2] at TM2
        have A7:= below_alloc w6 (.cells #[.slice ha hs.length hc,.slice ha hs.length hc] 60)
        have H7:= heap_alloc_new w6 (.cells #[.slice ha hs.length hc,.slice ha hs.length hc] 60)
        have D7:= D6.trans (A7.mono D6.size)
        clear LF1 LF2
        go_wp2_with fail
        refine (TM1.out _ D7).mono ?_
        rintro e w8 ⟨⟨ys8,a8,c8,rfl,F8,hy8⟩,b8⟩
        have H8:= below_heap b8 H7
        have k0': w8.cell? ⟨w6.heap.size,0,none⟩ = some (.slice ha hs.length hc):= by rw [heap_cell H8];rfl
        have k1': w8.cell? ⟨w6.heap.size,1,none⟩ = some (.slice ha hs.length hc):= by rw [heap_cell H8];rfl
        have D8:= D7.trans (b8.mono D7.size)
        clear TM1 H7 A7 H8
        go_wp2_with fail
        refine (TM2.out w8 D8).mono ?_
        rintro e w9 ⟨⟨ys9,a9',c9',rfl,F9,hy9⟩,b9⟩
        have D9:= D8.trans (b9.mono D8.size)
        have B9:= Below.then B4 D9
        have hy9': ys9.map Fv.f = n2:= hy9
        have hy8': ys8.map Fv.f = n1:= hy8
        have hk9: ∀ y ∈ ys9,y.ks.length ≤ 1000000:= fun y hy => by
         have h1: y.f ∈ n2:= by rw [← hy9'];exact List.mem_map_of_mem hy
         have h2: y.ks.length ≤ 60:= NK.out y.f h1
         omega
        have hn9: ys9.length ≤ 1000:= by
         have:= congrArg List.length hy9'
         rw [List.length_map] at this
         omega
        have TS:= hideP (pseen_at a9' c9' ys9 w9 F9.lies (fun y hy => row_args (F9.each y hy).row) hk9 hn9)
        have F8':= F8.below b9
        clear TM2 k0' k1' hk9 hn9 hy8 hy9 F8 F9 NK
        go_wp2_with fail
        refine TS.out.mono ?_
        rintro e w10 ⟨⟨a10,c10,ys10,rfl,L10,A10,E10⟩,b10⟩
        have B10:= B9.trans (b10.mono B9.size)
        have F10:= F8'.below b10
        have TK:= hideP (like_at a10 a8 c10 c8 ys10 ys8 w10 L10 F10.lies A10 (fun y hy => row_args (F10.each y hy).row))
        rw [show likeB (ys10.map Fv.f) (ys8.map Fv.f) = true from (likeB_iff _ _).2 (by rw [E10,hy9',SM.out,hy8'])] at TK
        clear TS E10 L10 A10 F10 F8' SM
        go_wp2_with fail
        refine TK.out.mono ?_
        rintro e w11 ⟨rfl,g11⟩
        have B11:= B10.trans (g11.below.mono B10.size)
        go_wp2_with fail
        refine (TV.out w11 B11).mono ?_
        rintro e w12 ⟨rfl,b12⟩
        go_wp2_with fail
        go_ret
        exact ⟨rfl,Below.then B11 b12⟩
       ·have q2: (errOf o2 != 0) = true:= by simpa using e2
        generalize errOf o2 = er2 at *
        rw [e1]
        clear e2 LF2
        go_wp2_with fail
        refine (TV.out w6 B6).mono ?_
        rintro e w7 ⟨rfl,b7⟩
        go_wp2_with fail
        go_ret
        exact ⟨rfl,Below.then B6 b7⟩
      ·have q1: (errOf o1 != 0) = true:= by simpa using e1
       generalize errOf o1 = er1 at *
       generalize errOf o2 = er2 at *
       clear e1 LF1 LF2
       go_wp2_with fail
       refine (TV.out w6 B6).mono ?_
       rintro e w7 ⟨rfl,b7⟩
       go_wp2_with fail
       go_ret
       exact ⟨rfl,Below.then B6 b7⟩
 ·have q: ((Ck.prog (rs.map Rv.r)).1 != 0) = true:= by simpa using h0
  generalize (Ck.prog (rs.map Rv.r)).1 = p1 at *
  clear h0
  go_wp2_with fail
  refine T1.out.mono ?_
  rintro e w3 ⟨⟨a3,c3,ys,rfl,R3,A3,E3⟩,b3⟩
  have B3:= Below.then B2 b3
  clear E3 A3 R3 T1
  go_wp2_with fail
  refine (TV.out w3 B3).mono ?_
  rintro e w4 ⟨rfl,b4⟩
  go_wp2_with fail
  go_ret
  exact ⟨rfl,Below.then B3 b4⟩
end Go.Proofs.YtpdmmmdkpipmkaaGreatDoor
