/-
  The program's quotation and sign.
-/
import Derived.BigQuiet
import Derived.Deep.RegionHeld3
import Derived.Lib.AppendZerosOnto
import Derived.Laws.NewBlocks
import Derived.Deep.Cut
import Derived.Test.YtpdmmmdkpipmkaaGreatDoorQLd
import Derived.Test.YtpdmmmdkpipmkaaGreatDoorQIm12
import Derived.Test.YtpdmmmdkpipmkaaGreatDoorQD4
import Derived.Test.YtpdmmmdkpipmkaaGreatDoorQNj
set_option maxRecDepth 100000
set_option maxHeartbeats 4000000
namespace Go.Proofs.YtpdmmmdkpipmkaaGreatDoor
open Go.RowKit Go.Lib Go.Shelf
theorem quotation_at (l: List UInt8) (i: Nat) (w: World) (hr: l.length ≤ 281474976710656) (hi: i < l.length):
 Calls Tryz.prog 111 #[str l,.int .i64 (i: Int)] w fun e w' => e = tokR (pres (Lx.quote l i)) ∧ Below w.heap.size w w':= by
 have hsz:= str_size l
 have iN: (Tryz.prog.info? 121).map (·.size) = some 4:= by kernel_rfl
 have E:= hideP (fun w => endOf_at 155 Lx.plain lplain_at l (i + 1) w enter_quot1 hr hi)
 have R1:= Lx.run_le Lx.plain (l:= l) (i:= i + 1) hi
 have R2:= Lx.le_run Lx.plain l (i + 1)
 have hw: Lx.quote l i = if l[Lx.run Lx.plain l (i + 1)]?.map (·.toNat) = some 34 then some (⟨4,Lx.sub l (i + 1) (Lx.run Lx.plain l (i + 1)),0,i⟩,Lx.run Lx.plain l (i + 1) + 1) else none:= rfl
 have hs:= extract_sub l (i + 1) (Lx.run Lx.plain l (i + 1)) R1
 have hl:= Lx.sub_length (i:= i + 1) R1
 have hl2:= str_size (Lx.sub l (i + 1) (Lx.run Lx.plain l (i + 1)))
 generalize Lx.run Lx.plain l (i + 1) = j at *
 generalize Lx.sub l (i + 1) j = t at *
 have HW:= hideP hw
 clear hw
 have H0:= heap_alloc_new w zTok
 rcases Nat.lt_or_ge j l.length with hj | hj
 ·have hj': ((j: Int) == (l.length: Int)) = false:= by simp;omega
  have hj2: (j: Int) < (l.length: Int):= by omega
  have hy:= hideP (fun h: l[j].toNat = 34 => show Lx.quote l i = some (⟨4,t,0,i⟩,j + 1) by rw [HW.out,if_pos (by simp [hj,h])])
  have hn:= hideP (fun h: ¬ l[j].toNat = 34 => show Lx.quote l i = none by rw [HW.out,if_neg (by simp [hj,h])])
  clear HW
  have hg: ∀ h,((⟨l.toArray⟩: ByteArray)[j]'h).toNat = l[j].toNat:= fun _ => rfl
  generalize hx: l[j].toNat = x at *
  simp only [hx] at hg
  go_enter Tryz.func111,Tryz.ntmps111
  go_wp2_with (first
   | (go_at_call 104;refine (E.out _).mono ?_;rintro e w1 ⟨rfl,rfl⟩)
   | (refine wpList_store_all rfl 121 _ _ rfl w.heap.size 4 _ 121 _ rfl rfl H0 rfl rfl iN rfl ?_;intro w4 H4 b4))
  all_goals (try simp only [beq_iff_eq] at *)
  all_goals (try simp only [beq_eq_false_iff_ne] at *)
  all_goals (try simp only [bne_iff_ne] at *)
  all_goals (try simp only [bne_eq_false_iff_eq] at *)
  all_goals refine bodyPost_ret (results_cell_two rfl rfl H4 Tryz.underlying121 rfl (by kernel_rfl)) rfl ⟨?_,below_tok b4⟩
  ·rw [hn.out (by omega)];rfl
  ·rw [hy.out (by omega),pres,if_pos (by simp only [hl];omega)];rfl
  ·rw [hy.out (by omega),pres,if_neg (by simp only [hl];omega)];rfl
 ·have hj': ((j: Int) == (l.length: Int)) = true:= by simp;omega
  go_enter Tryz.func111,Tryz.ntmps111
  go_wp2_with (first
   | (go_at_call 104;refine (E.out _).mono ?_;rintro e w1 ⟨rfl,rfl⟩)
   | (refine wpList_store_all rfl 121 _ _ rfl w.heap.size 4 _ 121 _ rfl rfl H0 rfl rfl iN rfl ?_;intro w4 H4 b4))
  refine bodyPost_ret (results_cell_two rfl rfl H4 Tryz.underlying121 rfl (by kernel_rfl)) rfl ⟨?_,below_tok b4⟩
  rw [HW.out,List.getElem?_eq_none hj];rfl
theorem sign_at (l: List UInt8) (i: Nat) (w: World) (hr: l.length ≤ 281474976710656) (hi: i < l.length):
 Calls Tryz.prog 112 #[str l,.int .i64 (i: Int)] w fun e w' => e = tokR (pres (Lx.sign l i l[i])) ∧ Below w.heap.size w w':= by
 have hsz:= str_size l
 have iN: (Tryz.prog.info? 121).map (·.size) = some 4:= by kernel_rfl
 have hi': (i: Int) < (l.length: Int):= by omega
 have hg: ∀ h,((⟨l.toArray⟩: ByteArray)[i]'h).toNat = l[i].toNat:= fun _ => rfl
 have s1: (⟨l.toArray⟩: ByteArray).extract i (i + 1) = ⟨[l[i]].toArray⟩:= by
  rw [extract_sub l i (i + 1) hi]
  congr 2
  unfold Lx.sub
  rw [show i + 1 - i = 1 by omega,List.drop_eq_getElem_cons hi,List.take_succ_cons,List.take_zero]
 have H0:= heap_alloc_new w zTok
 have w1:= hideP (fun (h: l[i].toNat = 58 ∧ l[i + 1]?.map (·.toNat) = some 45) => show Lx.sign l i l[i] = some (⟨5,[58,45],0,i⟩,i + 2) by unfold Lx.sign;rw [if_pos h])
 have w2:= hideP (fun (h: ¬ (l[i].toNat = 58 ∧ l[i + 1]?.map (·.toNat) = some 45)) (h': Lx.signs l[i] = true) => show Lx.sign l i l[i] = some (⟨5,[l[i]],0,i⟩,i + 1) by unfold Lx.sign;rw [if_neg h,if_pos h'])
 have w3:= hideP (fun (h: ¬ (l[i].toNat = 58 ∧ l[i + 1]?.map (·.toNat) = some 45)) (h': Lx.signs l[i] = false) => show Lx.sign l i l[i] = none by unfold Lx.sign;rw [if_neg h,if_neg (by simp [h'])])
 have hsg: Lx.signs l[i] = (decide (l[i].toNat = 40) || decide (l[i].toNat = 41) || decide (l[i].toNat = 44) || decide (l[i].toNat = 46) || decide (l[i].toNat = 58)):= rfl
 have HSG:= hideP hsg
 clear hsg
 rcases Nat.lt_or_ge (i + 1) l.length with hj | hj
 ·have hj': ((i: Int) + 1 < (l.length: Int)):= by omega
  have hg2: ∀ h,((⟨l.toArray⟩: ByteArray)[i + 1]'h).toNat = l[i + 1].toNat:= fun _ => rfl
  have hm:= hideP (show (l[i + 1]?.map (·.toNat) = some 45) ↔ l[i + 1].toNat = 45 by simp [hj])
  have s2:= hideP (fun (h1: l[i].toNat = 58) (h2: l[i + 1].toNat = 45) => show (⟨l.toArray⟩: ByteArray).extract i (i + 2) = ⟨[58,45].toArray⟩ by
   rw [extract_sub l i (i + 2) hj]
   congr 2
   unfold Lx.sub
   rw [show i + 2 - i = 2 by omega,List.drop_eq_getElem_cons hi,List.drop_eq_getElem_cons hj,show l[i] = 58 from UInt8.toNat_inj.1 h1,show l[i + 1] = 45 from UInt8.toNat_inj.1 h2,List.take_succ_cons,List.take_succ_cons,List.take_zero])
  go_enter Tryz.func112,Tryz.ntmps112
  go_wp2_with (first
   | (refine wpList_store_all rfl 121 _ _ rfl w.heap.size 4 _ 121 _ rfl rfl H0 rfl rfl iN rfl ?_;intro w4 H4 b4))
  all_goals (try simp only [beq_iff_eq] at *)
  all_goals (try simp only [beq_eq_false_iff_ne] at *)
  all_goals (try simp only [bne_iff_ne] at *)
  all_goals (try simp only [bne_eq_false_iff_eq] at *)
  all_goals refine bodyPost_ret (results_cell_two rfl rfl H4 Tryz.underlying121 rfl (by kernel_rfl)) rfl ⟨?_,below_tok b4⟩
  all_goals first
   | (rw [w2.out (by rw [hm.out];omega) (by rw [HSG.out];simp;omega)];rfl)
   | (rw [w3.out (by rw [hm.out];omega) (by rw [HSG.out];simp;omega)];rfl)
   | (have e2: (⟨l.toArray⟩: ByteArray).extract i (i + 1 + 1) = ⟨[58,45].toArray⟩:= s2.out (by omega) (by omega)
      rw [e2,w1.out ⟨by omega,hm.out.2 (by omega)⟩];rfl)
 ·have hj': ¬ ((i: Int) + 1 < (l.length: Int)):= by omega
  have hm:= hideP (show ¬ (l[i + 1]?.map (·.toNat) = some 45) by simp [hj])
  go_enter Tryz.func112,Tryz.ntmps112
  go_wp2_with (first
   | (refine wpList_store_all rfl 121 _ _ rfl w.heap.size 4 _ 121 _ rfl rfl H0 rfl rfl iN rfl ?_;intro w4 H4 b4))
  all_goals (try simp only [beq_iff_eq] at *)
  all_goals (try simp only [beq_eq_false_iff_ne] at *)
  all_goals refine bodyPost_ret (results_cell_two rfl rfl H4 Tryz.underlying121 rfl (by kernel_rfl)) rfl ⟨?_,below_tok b4⟩
  all_goals first
   | (rw [w2.out (fun h => hm.out h.2) (by rw [HSG.out];simp;omega)];rfl)
   | (rw [w3.out (fun h => hm.out h.2) (by rw [HSG.out];simp;omega)];rfl)
end Go.Proofs.YtpdmmmdkpipmkaaGreatDoor
namespace Go.Proofs.YtpdmmmdkpipmkaaGreatDoor
open Go.RowKit Go.Lib Go.Shelf
theorem number_at (l: List UInt8) (i: Nat) (w: World) (hr: l.length ≤ 281474976710656) (hi: i < l.length) (hc: (Lx.digit l[i] || decide (l[i].toNat = 45)) = true) (hL: Laid w):
 Calls Tryz.prog 110 #[str l,.int .i64 (i: Int)] w fun e w' => e = tokR (pres (Lx.number l i)) ∧ Below w.heap.size w w':= by
 have hsz:= str_size l
 have iN: (Tryz.prog.info? 121).map (·.size) = some 4:= by kernel_rfl
 have E:= hideP (fun w => endOf_at 109 Lx.digit ldigit_at l (i + 1) w enter_digit hr hi)
 have R1:= Lx.run_le Lx.digit (l:= l) (i:= i + 1) hi
 have R2:= Lx.le_run Lx.digit l (i + 1)
 obtain ⟨n1,n2⟩:= Lx.number_run hi hc
 have hd:= Lx.run_digits l (Lx.first l i)
 have hn: Lx.number l i = (Lx.numOf (Lx.isNeg l i) (Lx.sub l (Lx.first l i) (Lx.run Lx.digit l (Lx.first l i)))).map fun v => (⟨3,[],v,i⟩,Lx.run Lx.digit l (Lx.first l i)):= rfl
 have hs:= extract_sub l i (Lx.run Lx.digit l (i + 1)) R1
 have hl:= Lx.sub_length (i:= i) R1
 rw [n1] at n2 hd hn
 generalize Lx.sub l (Lx.first l i) (Lx.run Lx.digit l (i + 1)) = ds at *
 generalize Lx.isNeg l i = neg at *
 generalize Lx.run Lx.digit l (i + 1) = j at *
 clear n1
 generalize Lx.sub l i j = s at *
 have hls: s.length ≤ 281474976710656:= by omega
 have q0: (0: Int) ≤ (i: Int):= by omega
 have q1: (i: Int) ≤ (j: Int):= by omega
 have q2: (j: Int) ≤ (l.length: Int):= by omega
 have H0:= heap_alloc_new w zTok
 have B0:= below_alloc w zTok
 have L0:= hL.below B0
 have HN:= hideP hn
 have N2:= hideP n2
 have HD:= hideP hd
 clear hn n2 hd
 by_cases hok: ∃ v,Lib.atoiAll s = .ok v
 ·obtain ⟨v,hv⟩:= hok
  have bd:= Lib.atoiAll_bounds hv
  obtain ⟨bd1,bd2⟩:= bd
  have hy:= hideP (fun h: itoa v = s => show Lx.number l i = some (⟨3,[],v,i⟩,j) by
   rw [HN.out]
   cases hk: Lx.numOf neg ds with
   | none => exact absurd (h.trans N2.out) (Lx.num_no HD.out hk (by rw [← N2.out];exact hv))
   | some v' =>
    have:= (Lx.num_yes HD.out hk).1
    rw [← N2.out,hv] at this
    cases this;rfl)
  have hn:= hideP (fun h: itoa v ≠ s => show Lx.number l i = none by
   rw [HN.out]
   cases hk: Lx.numOf neg ds with
   | none => rfl
   | some v' =>
    obtain ⟨h1,h2⟩:= Lx.num_yes HD.out hk
    rw [← N2.out,hv] at h1
    cases h1
    exact absurd (h2.trans N2.out.symm) h)
  have A:= hideP (fun w => atoi_ok s v w hls hv)
  have I:= hideP (fun w hL => itoa_at v w bd1 bd2 hL)
  go_enter Tryz.func110,Tryz.ntmps110
  go_wp2_with (first
   | (go_at_call 104;refine (E.out _).mono ?_;rintro e w1 ⟨rfl,rfl⟩)
   | fail)
  refine (A.out _).mono ?_;rintro e w1 ⟨rfl,b1⟩
  have H1:= below_heap b1 H0
  have L1:= (L0.below b1).drew
  have D1: Below w1.heap.size w1 w1.drew:= (Below.refl _ _).drew
  go_wp2_with fail
  go_region_held3 (fun _ => True) (trivial) (first | (go_at_call 78;refine (I.out _ L1).mono ?_;rintro e w2 ⟨rfl,b2⟩))
  all_goals (have H2:= below_heap b2 (below_heap D1 H1))
  all_goals (have B2: Below w.heap.size w w2:= (Below.then B0 b1).trans ((D1.trans b2).mono (Below.then B0 b1).size))
  all_goals (have z2:= B2.size)
  all_goals go_wp2_with (refine wpList_store_all rfl 121 _ _ rfl w.heap.size 4 _ 121 _ rfl rfl H2 rfl rfl iN rfl ?_;intro w4 H4 b4)
  all_goals refine bodyPost_ret (results_cell_two rfl rfl H4 Tryz.underlying121 rfl (by kernel_rfl)) rfl ⟨?_,B2.trans (b4.lower (Nat.le_refl _) z2)⟩
  all_goals first
   | (rw [hy.out (by simpa using ‹(!itoa v == s) = false›)];rfl)
   | (rw [hn.out (by simpa using ‹(!itoa v == s) = true›)];rfl)
 ·have A:= hideP (fun w hL => atoi_no s w hls hL hok)
  go_enter Tryz.func110,Tryz.ntmps110
  go_wp2_with (first
   | (go_at_call 104;refine (E.out _).mono ?_;rintro e w1 ⟨rfl,rfl⟩)
   | fail)
  refine (A.out _ L0).mono ?_;rintro e w1 ⟨⟨n,N,rfl⟩,b1⟩
  have H1:= below_heap b1 H0
  go_wp2_with fail
  go_quiet (fail)
  have hn:= hideP (show Lx.number l i = none by
   rw [HN.out]
   cases hk: Lx.numOf neg ds with
   | none => rfl
   | some v' => exact absurd ⟨v',by rw [N2.out];exact (Lx.num_yes HD.out hk).1⟩ hok)
  have D1: Below w1.heap.size w1 (w1.drewN nq):= (Grew.drewN w1 nq).below
  generalize w1.drewN nq = w2 at *
  have H2:= below_heap D1 H1
  have B2: Below w.heap.size w w2:= (Below.then B0 b1).trans (D1.mono (Below.then B0 b1).size)
  have z2:= B2.size
  go_wp2_with (refine wpList_store_all rfl 121 _ _ rfl w.heap.size 4 _ 121 _ rfl rfl H2 rfl rfl iN rfl ?_;intro w4 H4 b4)
  refine bodyPost_ret (results_cell_two rfl rfl H4 Tryz.underlying121 rfl (by kernel_rfl)) rfl ⟨?_,B2.trans (b4.lower (Nat.le_refl _) z2)⟩
  rw [hn.out];rfl
theorem tok_open {P: Program} {f: FuncId} {args: Array Value} {w: World} {r: Lx.Tok × Nat × Int} {B: World → Prop} (h: Calls P f args w fun e w' => e = tokR r ∧ B w'):
 Calls P f args w fun e w' => e = .returned (.tuple #[.agg (tokv r.1).toArray,.int .i64 (r.2.1: Int),.int .i64 r.2.2]) ∧ B w':= h
theorem token_at (l: List UInt8) (i: Nat) (w: World) (hr: l.length ≤ 281474976710656) (hi: i < l.length) (hL: Laid w):
 Calls Tryz.prog 69 #[str l,.int .i64 (i: Int)] w fun e w' => e = tokR (pres (Lx.one l i)) ∧ Below w.heap.size w w':= by
 have hsz:= str_size l
 have iN: (Tryz.prog.info? 121).map (·.size) = some 4:= by kernel_rfl
 have hi': (i: Int) < (l.length: Int):= by omega
 have hg: ∀ h,((⟨l.toArray⟩: ByteArray)[i]'h).toNat = l[i].toNat:= fun _ => rfl
 have H0:= heap_alloc_new w zTok
 have B0:= below_alloc w zTok
 have L0:= hL.below B0
 have ho: Lx.one l i = if Lx.small l[i] = true then Lx.word 1 l i else if Lx.great l[i] = true then Lx.word 2 l i else if (Lx.digit l[i] || decide (l[i].toNat = 45)) = true then Lx.number l i else if l[i].toNat = 34 then Lx.quote l i else Lx.sign l i l[i]:= Lx.one_at hi
 have HO:= hideP ho
 clear ho
 have W1:= hideP (fun w => word_at 1 l i w hr (Nat.le_of_lt hi))
 have W2:= hideP (fun w => word_at 2 l i w hr (Nat.le_of_lt hi))
 have NU:= hideP (fun w hc hL => number_at l i w hr hi hc hL)
 have QU:= hideP (fun w => quotation_at l i w hr hi)
 have SI:= hideP (fun w => sign_at l i w hr hi)
 have C1:= hideP (lsmall_at l[i])
 have C2:= hideP (lgreat_at l[i])
 have C3:= hideP (ldigit_at l[i])
 have hnd: ∀ r,(Lx.digit l[i] || decide (l[i].toNat = 45)) = r → (Lx.digit l[i] = true ∨ l[i].toNat = 45 ↔ r = true):= fun r h => by subst h;simp
 have HND:= hideP hnd
 clear hnd
 generalize Lx.small l[i] = s1 at *
 generalize Lx.great l[i] = s2 at *
 generalize Lx.digit l[i] = s3 at *
 generalize Lx.sign l i l[i] = rs at *
 generalize Lx.quote l i = rq at *
 generalize Lx.word 1 l i = r1 at *
 generalize Lx.word 2 l i = r2 at *
 generalize Lx.number l i = rn at *
 generalize hx: l[i].toNat = x at *
 simp only [hx] at hg
 go_enter Tryz.func69,Tryz.ntmps69
 go_wp2_with (first
  | (go_at_call 106;refine (C1.out _).mono ?_;rintro e w1 ⟨rfl,rfl⟩)
  | (go_at_call 108;refine (C2.out _).mono ?_;rintro e w1 ⟨rfl,rfl⟩)
  | (go_at_call 109;refine (C3.out _).mono ?_;rintro e w1 ⟨rfl,rfl⟩)
  | (go_at_call_of 107 (Value.int .i64 1);refine (tok_open (W1.out _)).mono ?_;rintro e w1 ⟨rfl,b1⟩;have H1:= below_heap b1 H0)
  | (go_at_call_of 107 (Value.int .i64 2);refine (tok_open (W2.out _)).mono ?_;rintro e w1 ⟨rfl,b1⟩;have H1:= below_heap b1 H0)
  | (go_at_call 110;refine (tok_open (NU.out _ (by rw [← (HND.out _ rfl)];first | (left;assumption) | (right;simp_all;done) | (right;simp_all;omega)) L0)).mono ?_;rintro e w1 ⟨rfl,b1⟩;have H1:= below_heap b1 H0)
  | (go_at_call 111;refine (tok_open (QU.out _)).mono ?_;rintro e w1 ⟨rfl,b1⟩;have H1:= below_heap b1 H0)
  | (go_at_call 112;refine (tok_open (SI.out _)).mono ?_;rintro e w1 ⟨rfl,b1⟩;have H1:= below_heap b1 H0)
  | (refine wpList_store_all rfl 121 _ _ rfl w.heap.size 4 _ 121 _ rfl rfl H1 rfl rfl iN rfl ?_;intro w4 H4 b4))
 all_goals (have B1:= Below.then B0 b1)
 all_goals refine bodyPost_ret (results_cell_two rfl rfl H4 Tryz.underlying121 rfl (by kernel_rfl)) rfl ⟨?_,B1.trans (b4.lower (Nat.le_refl _) B1.size)⟩
 all_goals rw [HO.out]
 all_goals (repeat' split)
 all_goals first | rfl | (exfalso;simp_all;done) | (exfalso;simp_all;omega)
end Go.Proofs.YtpdmmmdkpipmkaaGreatDoor
namespace Go.Proofs.YtpdmmmdkpipmkaaGreatDoor
open Go.RowKit Go.Lib Go.Shelf
theorem midA_size {cur: Array Value} {i c: Nat} {ys: List Fv} (hi: i < ys.length) (hroom: ys.length + 1 ≤ c) (hsz: cur.size = c * 4): (midA cur i ys).size = c * 4:= by
 have hDl: (fcells (ys.drop i)).length = (ys.length - i) * 4:= by rw [fcells_len,List.length_drop]
 simp [midA,hsz,hDl];omega
theorem midB_size {cur: Array Value} {i c: Nat} {ys: List Fv} {x: Fv} (hi: i < ys.length) (hroom: ys.length + 1 ≤ c) (hsz: cur.size = c * 4): (midB cur i ys x).size = c * 4:= by
 have h:= midA_size hi hroom hsz
 have hx: (fv x).length = 4:= rfl
 simp [midB,h,hx];omega
theorem midB_cells {cur: Array Value} {i c: Nat} {ys: List Fv} {x: Fv} (hi: i < ys.length) (hroom: ys.length + 1 ≤ c) (hsz: cur.size = c * 4) (hcur: cur.toList.take (ys.length * 4) = fcells ys):
 (midB cur i ys x).toList.take ((ys.length + 1) * 4) = fcells (ys.take i ++ x:: ys.drop i):= by
 have hDl: (fcells (ys.drop i)).length = (ys.length - i) * 4:= by rw [fcells_len,List.length_drop]
 have hx: (fv x).length = 4:= rfl
 have hl: cur.toList.length = c * 4:= by simpa using hsz
 have e0: fcells (ys.take i ++ x:: ys.drop i) = fcells (ys.take i) ++ fv x ++ fcells (ys.drop i):= by
  rw [fcells_append];simp [fcells]
 have e1: fcells (ys.take i) = cur.toList.take (i * 4):= by
  have e:= congrArg fcells (List.take_append_drop i ys)
  rw [fcells_append] at e
  have l: (fcells (ys.take i)).length = i * 4:= by rw [fcells_len,List.length_take,Nat.min_eq_left (by omega)]
  have: fcells (ys.take i) = (fcells ys).take (i * 4):= by rw [← e,← l,List.take_left]
  rw [this,← hcur,List.take_take,Nat.min_eq_left (by omega)]
 have hA: (midA cur i ys).toList = cur.toList.take ((i + 1) * 4) ++ (fcells (ys.drop i) ++ cur.toList.drop ((i + 1) * 4 + (ys.length - i) * 4)):= by
  simp [midA,hDl]
 have hT: (cur.toList.take ((i + 1) * 4)).length = (i + 1) * 4:= by rw [List.length_take,hl];omega
 have a1: (midA cur i ys).toList.take (i * 4) = cur.toList.take (i * 4):= by
  rw [hA,List.take_append_of_le_length (by rw [hT];omega),List.take_take,Nat.min_eq_left (by omega)]
 have a2: (midA cur i ys).toList.drop (i * 4 + 4) = fcells (ys.drop i) ++ cur.toList.drop ((i + 1) * 4 + (ys.length - i) * 4):= by
  rw [hA,show i * 4 + 4 = (cur.toList.take ((i + 1) * 4)).length by rw [hT];omega,List.drop_left]
 have hB: (midB cur i ys x).toList = (cur.toList.take (i * 4) ++ fv x ++ fcells (ys.drop i)) ++ cur.toList.drop ((i + 1) * 4 + (ys.length - i) * 4):= by
  rw [midB,hx,a1,a2];simp
 rw [hB,e0,e1]
 exact List.take_left' (by simp [hx,hDl,hl];omega)
end Go.Proofs.YtpdmmmdkpipmkaaGreatDoor
namespace Go.Proofs.YtpdmmmdkpipmkaaGreatDoor
open Go.RowKit Go.Lib Go.Shelf
abbrev zF: List Value:= [.string ⟨#[]⟩,.string ⟨#[]⟩,.string ⟨#[]⟩,.slice none 0 0]
def groR (i n G: Nat) (ys: List Fv): Array Value:= (fcells (ys.take i)).toArray ++ Builtin.zeroCells zF.toArray (n + 1 - i) ++ Builtin.zeroCells zF.toArray (G - (n + 1))
def groA (R: Array Value) (i: Nat) (x: Fv): Array Value:= (R.toList.take (i * 4) ++ fv x ++ R.toList.drop (i * 4 + (fv x).length)).toArray
def groB (R: Array Value) (i: Nat) (ys: List Fv): Array Value:= (R.toList.take ((i + 1) * 4) ++ fcells (ys.drop i) ++ R.toList.drop ((i + 1) * 4 + (fcells (ys.drop i)).length)).toArray
theorem zF_len (k: Nat): (Builtin.zeroCells zF.toArray k).size = k * 4:= by
 simp [Builtin.zeroCells]
theorem groR_size {i n G: Nat} {ys: List Fv} (hn: ys.length = n) (hi: i < n) (hG: n + 1 ≤ G): (groR i n G ys).size = G * 4:= by
 have: (fcells (ys.take i)).length = i * 4:= by rw [fcells_len,List.length_take];omega
 simp only [groR,Array.size_append,zF_len,List.size_toArray,this]
 omega
theorem groA_size {R: Array Value} {i G: Nat} {x: Fv} (hR: R.size = G * 4) (hi: i + 1 ≤ G): (groA R i x).size = G * 4:= by
 have hx: (fv x).length = 4:= rfl
 simp [groA,hR,hx];omega
theorem groB_size {R: Array Value} {i n G: Nat} {ys: List Fv} (hR: R.size = G * 4) (hn: ys.length = n) (hi: i < n) (hG: n + 1 ≤ G): (groB R i ys).size = G * 4:= by
 have hDl: (fcells (ys.drop i)).length = (ys.length - i) * 4:= by rw [fcells_len,List.length_drop]
 simp [groB,hR,hDl];omega
theorem gro_cells {i n G: Nat} {ys: List Fv} {x: Fv} (hn: ys.length = n) (hi: i < n): (groB (groA (groR i n G ys) i x) i ys).toList.take ((n + 1) * 4) = fcells (ys.take i ++ x:: ys.drop i):= by
 have hDl: (fcells (ys.drop i)).length = (n - i) * 4:= by rw [fcells_len,List.length_drop,hn]
 have hTl: (fcells (ys.take i)).length = i * 4:= by rw [fcells_len,List.length_take];omega
 have hx: (fv x).length = 4:= rfl
 have e0: fcells (ys.take i ++ x:: ys.drop i) = fcells (ys.take i) ++ fv x ++ fcells (ys.drop i):= by rw [fcells_append];simp [fcells]
 have eR: (groR i n G ys).toList = fcells (ys.take i) ++ ((Builtin.zeroCells zF.toArray (n + 1 - i)).toList ++ (Builtin.zeroCells zF.toArray (G - (n + 1))).toList):= by simp [groR]
 have eA: (groA (groR i n G ys) i x).toList.take ((i + 1) * 4) = fcells (ys.take i) ++ fv x:= by
  have: (groA (groR i n G ys) i x).toList = (fcells (ys.take i) ++ fv x) ++ (groR i n G ys).toList.drop (i * 4 + 4):= by
   unfold groA
   rw [hx,eR,← hTl,List.take_left]
  rw [this]
  exact List.take_left' (by simp [hTl,hx];omega)
 have eB: (groB (groA (groR i n G ys) i x) i ys).toList = (fcells (ys.take i) ++ fv x ++ fcells (ys.drop i)) ++ (groA (groR i n G ys) i x).toList.drop ((i + 1) * 4 + (fcells (ys.drop i)).length):= by
  unfold groB
  rw [eA]
 rw [eB,e0]
 exact List.take_left' (by simp [hTl,hx,hDl];omega)
theorem insertGrow_at (b c i vb: Nat) (x: Fv) (ys: List Fv) (w: World) (hi: i < ys.length) (hnc: ys.length ≤ c) (hroom: c < ys.length + 1) (hc: c ≤ 1000000)
 (hcs: ∀ j v,(fcells ys)[j]? = some v → w.cell? ⟨b,j,none⟩ = some v) (hv: w.heap[vb]? = some (.cells (fv x).toArray 37)):
 Calls Tryz.prog 67 #[.slice (some ⟨b,0,none⟩) ys.length c,.int .i64 (i: Int),.slice (some ⟨vb,0,none⟩) 1 1] w fun e w' => ∃ v,e = .returned v ∧ w'.ownsRow w.heap.size 37 4 v (ys.length + 1) (fcells (ys.take i ++ x:: ys.drop i)) ∧ Below w.heap.size w w':= by
 have mixed: Tryz.prog.follows .mixedOrders = true:= by kernel_rfl
 have iF: (Tryz.prog.info? 37).map (·.size) = some 4:= by kernel_rfl
 obtain ⟨i0,hi0,hz0,hzs,hzb⟩:= info_parts Tryz.infoF
 obtain ⟨n,hn⟩: ∃ n,ys.length = n:= ⟨_,rfl⟩
 rw [hn] at hi hnc hroom ⊢
 have hz2: ¬ ((i: Int) = (n: Int)):= by omega
 have hz3: (c: Int) < (n: Int) + 1:= by omega
 have hbw: b < w.heap.size:= block_lt_of_cell (hcs 0 _ (List.getElem?_eq_getElem (by rw [fcells_len];omega)))
 have hvw: vb < w.heap.size:= heap_lt hv
 have hTl: (fcells (ys.take i)).length = i * 4:= by rw [fcells_len,List.length_take];omega
 have hDl: (fcells (ys.drop i)).length = (n - i) * 4:= by rw [fcells_len,List.length_drop,hn]
 have hkk: (n: Int) + 1 - (i: Int) = ((n + 1 - i: Nat): Int):= by omega
 have hik: i + (n + 1 - i) = n + 1:= by omega
 have hold: (Builtin.firstCells i0.size i (.slice (some ⟨b,0,none⟩) i c)).run Tryz.prog w.drew = .ok (fcells (ys.take i)).toArray w.drew:= by
  rw [hzs]
  exact run_firstCells_some w.drew 4 i ⟨b,0,none⟩ i c (fcells (ys.take i)) hTl (fun j v hj => by
   rw [Addr.add_lit,Nat.zero_add]
   refine hcs j v ?_
   have e:= congrArg fcells (List.take_append_drop i ys)
   rw [fcells_append] at e
   rw [← e,List.getElem?_append_left (List.getElem?_eq_some_iff.1 hj).1]
   exact hj)
 have hrz: ∀ ty,(Builtin.append_ #[32,3] ty #[.slice (some ⟨b,0,none⟩) i c,.int .i64 ((n: Int) + 1 - (i: Int))]).run Tryz.prog w =
  .ok (.slice (some ⟨w.heap.size,0,none⟩) (n + 1) (grownCap w (n + 1) c 37)) (w.drew.alloc (.cells (groR i n (grownCap w (n + 1) c 37) ys) 37)):= fun ty => by
  have h:= Lib.run_append_grow_zeros w 32 3 ty 37 i0 _ .i64 .i64 Tryz.underlying32 Tryz.underlying3 hi0 hz0 (some ⟨b,0,none⟩) i c (fcells (ys.take i)) hold (n + 1 - i) (by omega) (by omega) (by omega) (by omega) (by rw [hzb];omega) (by rw [hzb,hik];exact growslice_fits hroom (by omega))
  rw [hik] at h
  rw [hkk]
  exact h
 have hGn: n + 1 ≤ grownCap w (n + 1) c 37:= grownCap_ge w _ _ _
 have hG63: grownCap w (n + 1) c 37 ≤ maxLen:= grownCap_le_maxLen w (n + 1) c 37 (by unfold maxLen;omega)
 generalize grownCap w (n + 1) c 37 = G at *
 have hRs:= groR_size hn hi hGn
 have hAs:= groA_size (i:= i) (x:= x) hRs (by omega)
 have hBs:= groB_size hAs hn hi hGn
 have hfin:= gro_cells (G:= G) (x:= x) hn hi
 generalize groR i n G ys = R at *
 have hN1: ∀ W: World,W = (w.alloc (.cells R 37)).drew → W.heap[w.heap.size]? = some (.cells R 37):= fun W h => by rw [h];exact heap_alloc_new w _
 have hcpA: ∀ (W: World),W.heap[w.heap.size]? = some (.cells R 37) → W.heap[vb]? = some (.cells (fv x).toArray 37) → ∀ ty dc,(Builtin.copy_ #[32,32] ty #[.slice (some ⟨w.heap.size,i * 4,none⟩) (n + 1 - i) dc,.slice (some ⟨vb,0,none⟩) 1 1]).run Tryz.prog W = .ok (goInt 1) (W.setRow w.heap.size (groA R i x)):= fun W h1 h2 ty dc =>
  run_copy_k W _ _ ty 37 4 w.heap.size (i * 4) (n + 1 - i) dc 1 ⟨vb,0,none⟩ 1 1 R 37 (fv x) Tryz.underlying32 iF h1 (by simp only [Nat.min_def];split <;> omega) rfl
   (fun j v hj => by
     rw [Addr.add_lit,heap_cell h2]
     simpa using hj)
   (by rw [hRs];simp [fv];omega) (fun u hu => fcells_one [x] u (by simpa [fcells] using hu))
 have hcpB: ∀ (W: World),W.heap[w.heap.size]? = some (.cells (groA R i x) 37) → (∀ j v,(fcells ys)[j]? = some v → W.cell? ⟨b,j,none⟩ = some v) → ∀ ty dc sc,(Builtin.copy_ #[32,32] ty #[.slice (some ⟨w.heap.size,(i + 1) * 4,none⟩) (n - i) dc,.slice (some ⟨b,i * 4,none⟩) (n - i) sc]).run Tryz.prog W = .ok (goInt ((n - i: Nat): Int)) (W.setRow w.heap.size (groB (groA R i x) i ys)):= fun W h1 h2 ty dc sc =>
  run_copy_k W _ _ ty 37 4 w.heap.size ((i + 1) * 4) (n - i) dc (n - i) ⟨b,i * 4,none⟩ (n - i) sc (groA R i x) 37 (fcells (ys.drop i)) Tryz.underlying32 iF h1 (by simp) hDl
   (fun j v hj => by
     rw [Addr.add_lit]
     refine h2 (i * 4 + j) v ?_
     have hd:= fcells_drop ys i (by omega)
     rw [hd,List.getElem?_drop] at hj
     exact hj)
   (by rw [hDl,hAs];omega) (fcells_one _)
 have hw1: IntKind.i64.wrap ((i: Int) + 1) = (i: Int) + 1:= by rw [IntKind.wrap_i64];omega
 have hb1: (0: Int) ≤ (i: Int) + 1:= by omega
 have hin: i ≤ n:= by omega
 have htn: ((i: Int) + 1).toNat = i + 1:= by omega
 have hb3: (i: Int) ≤ (n: Int):= by omega
 have hGi: ¬ (G = i):= by omega
 have hGim: ¬ (G = i + 1):= by omega
 have hci: ¬ (c = i):= by omega
 have hb4: (i: Int) ≤ (n: Int) + 1:= by omega
 have HF:= hideP (And.intro hRs (And.intro hAs (And.intro hBs (And.intro hfin (And.intro hGn hG63)))))
 have HN:= hideP hn
 have G63: G ≤ 9223372036854775807:= by unfold maxLen at hG63;omega
 have hA1: ((w.alloc (.cells R 37)).drew).heap[w.heap.size]? = some (.cells R 37):= heap_alloc_new w _
 have hA2: ((w.alloc (.cells R 37)).drew).heap[vb]? = some (.cells (fv x).toArray 37):= (below_heap (below_alloc w (.cells R 37)) hv: (w.alloc (.cells R 37)).heap[vb]? = _)
 have hA3: ∀ j v,(fcells ys)[j]? = some v → ((w.alloc (.cells R 37)).drew).cell? ⟨b,j,none⟩ = some v:= fun j v hj => ((below_alloc w _).cell (p:= ⟨b,j,none⟩) hbw).trans (hcs j v hj)
 have hB1: (((w.alloc (.cells R 37)).drew).setRow w.heap.size (groA R i x)).heap[w.heap.size]? = some (.cells (groA R i x) 37):= setRow_heap _ w.heap.size R _ _ _ hA1
 have hB3: ∀ j v,(fcells ys)[j]? = some v → (((w.alloc (.cells R 37)).drew).setRow w.heap.size (groA R i x)).drew.cell? ⟨b,j,none⟩ = some v:= fun j v hj => by
  have h2: (((w.alloc (.cells R 37)).drew).setRow w.heap.size (groA R i x)).heap[b]? = ((w.alloc (.cells R 37)).drew).heap[b]?:= setRow_other _ _ _ _ (by omega)
  rw [← hA3 j v hj]
  exact World.cell?_of_block (w:= (w.alloc (.cells R 37)).drew) h2
 have HA1:= hideP hA1
 have HA2:= hideP hA2
 have HB1:= hideP hB1
 have HB3:= hideP hB3
 have HA:= hcpA _ hA1 hA2
 have HB:= hcpB (((w.alloc (.cells R 37)).drew).setRow w.heap.size (groA R i x)).drew hB1 hB3
 clear hkk hik hold hRs hAs hBs hfin hTl hDl hn hcpA hcpB hA1 hA2 hA3 hB1 hB3 hN1
 go_enter Tryz.func67,Tryz.ntmps67
 go_upto_region 10 with (at_builtin;refine Lib.wpList_append_run _ rfl _ _ _ _ rfl _ _ rfl rfl _ _ (hrz _) ?_)
 go_wp2_with (at_builtin;trace_state;refine wpList_copy_runI _ rfl _ _ 32 32 rfl _ _ rfl rfl (HA.out _ (by exact HA1.out) (by exact HA2.out) _ _) ?_)
 go_region_law_o (fail)
 go_wp2_with fail
 go_ret
 obtain ⟨r1,r2,r3,r4,r5,r6⟩:= HF.out
 have hlen: (ys.take i ++ x:: ys.drop i).length = n + 1:= by
  rw [List.length_append,List.length_take,List.length_cons,List.length_drop,HN.out];omega
 have HB2:= setRow_heap (((w.alloc (.cells R 37)).drew).setRow w.heap.size (groA R i x)).drew w.heap.size (groA R i x) (groB (groA R i x) i ys) 37 _ HB1.out
 refine ⟨_,rfl,⟨by rw [fcells_len,hlen],.inr ⟨w.heap.size,G,groB (groA R i x) i ys,rfl,Nat.le_refl _,HB2,r5,r6,r3,r4⟩⟩, ?_⟩
 refine ⟨rfl,rfl,rfl, ?_,fun k hk => ?_⟩
 ·simp [World.setRow]
 ·have e1: ((((w.alloc (.cells R 37)).drew).setRow w.heap.size (groA R i x)).drew.setRow w.heap.size (groB (groA R i x) i ys)).heap[k]? = (((w.alloc (.cells R 37)).drew).setRow w.heap.size (groA R i x)).heap[k]?:= setRow_other _ _ _ _ (by omega)
  have e2: (((w.alloc (.cells R 37)).drew).setRow w.heap.size (groA R i x)).heap[k]? = (w.alloc (.cells R 37)).heap[k]?:= setRow_other _ _ _ _ (by omega)
  rw [e1,e2]
  exact (below_alloc w _).block k hk
end Go.Proofs.YtpdmmmdkpipmkaaGreatDoor
namespace Go.Proofs.YtpdmmmdkpipmkaaGreatDoor
open Go.RowKit Go.Lib Go.Shelf
theorem insert_at (B: Nat) (a: Option Addr) (c i vb: Nat) (ys: List Fv) (x: Fv) (w: World) (ho: w.ownsRow B 37 4 (.slice a ys.length c) ys.length (fcells ys)) (hB: B ≤ w.heap.size) (hf: ys.length ≤ 100000) (hi: i ≤ ys.length) (hv: w.heap[vb]? = some (.cells (fv x).toArray 37)) (hvb: ∀ ad,a = some ad → ad.block ≠ vb):
 Calls Tryz.prog 67 #[.slice a ys.length c,.int .i64 (i: Int),.slice (some ⟨vb,0,none⟩) 1 1] w fun e w' => ∃ v,e = .returned v ∧ w'.ownsRow B 37 4 v (ys.length + 1) (fcells (ys.take i ++ x:: ys.drop i)) ∧ w.grownBy w' (Value.slice a ys.length c).ownBlock:= by
 have hx: Lies w (some ⟨vb,0,none⟩) 1 [x]:= ⟨Nat.le_refl _,by unfold maxLen;omega,by simp,(fun h => by cases h),fun ad had j u hu => by
  cases had
  rw [Addr.add_lit,heap_cell hv,Nat.zero_add]
  simpa [fcells] using hu⟩
 rcases Nat.eq_or_lt_of_le hi with rfl | hlt
 ·refine (insertEnd_at B a c ys (some ⟨vb,0,none⟩) 1 x w ho hB (by omega) hx).mono ?_
  rintro e w' ⟨v,rfl,h1,h2⟩
  refine ⟨v,rfl, ?_,h2⟩
  rw [List.take_length,List.drop_length]
  simpa using h1
 ·rcases ho.2 with ⟨_,h'⟩ | ⟨g,cap,cur,h,hg,hh,hnc,hcm,hcs,ht⟩
  ·omega
  ·cases h
   have hgl:= heap_lt hh
   rcases Nat.lt_or_ge c (ys.length + 1) with hr | hr
   ·refine (insertGrow_at g c i vb x ys w hlt hnc hr (by omega) (fun j v hj => ?_) hv).mono ?_
    ·rw [heap_cell hh]
     rw [← ht] at hj
     have hj2:= (List.getElem?_eq_some_iff.1 hj).1
     rw [List.length_take] at hj2
     rw [List.getElem?_take_of_lt (by omega)] at hj
     simpa using hj
    ·rintro e w' ⟨v,rfl,h1,h2⟩
     refine ⟨v,rfl,⟨h1.1, ?_⟩,⟨h2.os,h2.tape,h2.output,h2.size,fun k hk _ => h2.block k hk⟩⟩
     rcases h1.2 with h | ⟨g',cap',cur',e1,e2,rest⟩
     ·exact .inl h
     ·exact .inr ⟨g',cap',cur',e1,Nat.le_trans hB e2,rest⟩
   ·refine (insertMid_at g c i vb cur x ys w hlt hr (by omega) (fun e => hvb _ rfl e.symm) hh hcs ht hv).mono ?_
    rintro e w' ⟨rfl,rfl⟩
    have hA:= setRow_heap w.drew g cur (midA cur i ys) 37 _ hh
    have hBm:= setRow_heap (w.drew.setRow g (midA cur i ys)) g (midA cur i ys) (midB cur i ys x) 37 _ hA
    refine ⟨_,rfl,⟨?_,.inr ⟨g,c,midB cur i ys x,rfl,hg,hBm,hr,hcm,midB_size hlt hr hcs,midB_cells hlt hr hcs ht⟩⟩,⟨rfl,rfl,rfl,by simp [World.setRow],fun k hk hne => ?_⟩⟩
    ·rw [fcells_len,List.length_append,List.length_take,List.length_cons,List.length_drop];omega
    ·have hkg: k ≠ g:= fun e => hne (by rw [e];rfl)
     rw [setRow_other _ _ _ _ hkg,setRow_other _ _ _ _ hkg];rfl
end Go.Proofs.YtpdmmmdkpipmkaaGreatDoor
namespace Go.Proofs.YtpdmmmdkpipmkaaGreatDoor
open Go.RowKit Go.Lib Go.Shelf
attribute [local go_sem] Oper.semAt_some
theorem ins_found {l: List F} {f: F} (hs: SS l) (h: hasF l f = true): ins l f = l:=
 (SS_ins hs f).uniq hs fun x => by
   rw [mem_ins]
   exact ⟨fun q => q.elim id fun e => by rw [e];exact (hasF_iff _ _).1 h,.inl⟩
theorem ins_new {ys: List Fv} {z: Fv} {i: Nat} (hp: SPos ys z.f i) (hn: hasF (ys.map Fv.f) z.f = false): ins (ys.map Fv.f) z.f = (ys.take i ++ z:: ys.drop i).map Fv.f:= by
 have e: (ys.take i ++ z:: ys.drop i).map Fv.f = (ys.map Fv.f).take i ++ z.f:: (ys.map Fv.f).drop i:= by simp [List.map_take,List.map_drop]
 rw [e,ins_at z.f (ys.map Fv.f) i (by simpa using hp.1) (fun j hj hji => by rw [List.getElem_map];exact hp.2.1 j (by simpa using hj) hji) (fun hk => by rw [List.getElem_map];have:= hp.2.2 i (by simpa using hk) (Nat.le_refl _);omega)]
 split
 ·rename_i hlt
  rw [if_neg]
  intro h0
  have: z.f ∈ ys.map Fv.f:= by rw [← (cF_zero _ _).1 h0];exact List.getElem_mem hlt
  rw [(hasF_iff _ _).2 this] at hn
  cases hn
 ·rfl
def GrAns (d: Ml.Wd) (l: List Ru) (m n: List F): Prop:= SS n ∧ (n = Ml.step d l m ∨ (400 < n.length ∧ ∀ x ∈ n,x ∈ Ml.step d l m))
structure GrI (w: World) (b7: Nat) (d: Ml.Wd) (l: List Ru) (m: List F) (Le: Nat → Prop) (pre: List F) (W: World): Prop where
 row: ∃ ys a c,W.heap[b7]? = some (.cells #[.slice a (List.length ys) c] 32) ∧ W.ownsRow w.heap.size 37 4 (.slice a (List.length ys) c) (List.length ys) (fcells ys) ∧ EachK W ys ∧ ys.map Fv.f = pre.foldl ins m ∧ Le ys.length
 mem: ∀ x ∈ pre,x ∈ Ml.onceL d l m
 below: Below w.heap.size w W
theorem GrI.itr {w: World} {b7 C: Nat} {d: Ml.Wd} {l: List Ru} {m: List F} {Le: Nat → Prop} {pre: List F} {W W': World} (h: GrI w b7 d l m Le pre W) (hi: Itr 242 C W W') (hC: w.heap.size ≤ C): GrI w b7 d l m Le pre W':= by
 obtain ⟨ys,a,c,h1,h2,h3,h4,h5⟩:= h.row
 exact ⟨⟨ys,a,c,hi.same _ _ _ _ h1 (by decide),ownsRow_itr h2 hi (by decide),h3.safe (hi.safe (by decide)),h4,h5⟩,h.mem,h.below.trans (hi.toBelow.mono hC)⟩
theorem grown_at (ra: Option Addr) (rc: Nat) (rs: List Rv) (ha: Option Addr) (hc: Nat) (hs: List (List UInt8)) (na: Option Addr) (nc: Nat) (ns: List (List UInt8)) (fa: Option Addr) (fc: Nat) (zs: List Fv) (w: World)
 (hi: AIn w ra rc rs ha hc hs na nc ns fa fc zs) (hl: Lies w fa fc zs) (hk: EachK w zs) (hss: SS (zs.map Fv.f)) (h4: zs.length ≤ 400):
 Calls Tryz.prog 38 #[wdv ha hc hs na nc ns,.slice ra rs.length rc,.slice fa zs.length fc] w fun e w' => (∃ ys a c,e = .returned (.slice a (List.length ys) c) ∧ OwF w' w.heap.size a c ys ∧ EachK w' ys ∧ GrAns ⟨hs,ns⟩ (rs.map Rv.r) (zs.map Fv.f) (ys.map Fv.f)) ∧ Below w.heap.size w w':= by
 have iF: (Tryz.prog.info? 37).map (·.size) = some 4:= by kernel_rfl
 have A1:= below_alloc w (.cells #[.slice ha hs.length hc,.slice na ns.length nc] 60)
 have H1:= heap_alloc_new w (.cells #[.slice ha hs.length hc,.slice na ns.length nc] 60)
 have T1:= hideP (cloneF_at fa fc zs (w.alloc (.cells #[.slice ha hs.length hc,.slice na ns.length nc] 60)) (hl.below A1 (Nat.le_refl _)))
 have EK1:= hk.safe (Safe.below A1: Safe 42 _ _)
 have HI:= hideP hi
 have HSS:= hideP hss
 clear hi hl hk hss
 refine calls_marks Tryz.func38 rfl ?_
 simp only [Tryz.ntmps38,List.size_toArray,List.length_cons,List.length_nil,Nat.reduceAdd,Nat.reduceSub,Array.replicate_succ,Array.replicate_zero,List.push_toArray,List.append_toArray,List.nil_append,List.cons_append]
 go_wp2_with fail
 refine T1.out.mono ?_
 rintro e w2 ⟨v2,rfl,O2,B2⟩
 obtain ⟨a2,c2,rfl,_⟩:= own_facts O2 (by omega)
 have B12:= Below.then A1 B2
 have H2:= below_heap B2 H1
 have EK2:= EK1.safe (Safe.below B2: Safe 42 _ _)
 have N2:= heap_alloc_new w2 (.cells #[.slice none 0 0] 32)
 clear T1 H1 EK1
 go_wp2_with (refine wpList_store_cel rfl 32 _ _ rfl w2.heap.size 0 1 32 (.slice a2 zs.length c2) #[.slice a2 zs.length c2] rfl rfl N2 rfl (by decide) (by kernel_rfl) rfl rfl ?_;intro w3 N3 t3;have B3:= below_tok t3;have G0:= below_heap B3 H2;have g0: w3.cell? ⟨w.heap.size,0,none⟩ = some (.slice ha hs.length hc):= (by rw [heap_cell G0];rfl);have g1: w3.cell? ⟨w.heap.size,1,none⟩ = some (.slice na ns.length nc):= (by rw [heap_cell G0];rfl))
 have T2:= hideP (atOnce_at ra rc rs ha hc hs na nc ns fa fc zs w3)
 have B13:= Below.then B12 B3
 have O3:= ownsRow_base (ownsRow_keep O2 (Safe.below B3: Safe 37 _ _)) A1.size
 have EK3:= EK2.safe (Safe.below B3: Safe 42 _ _)
 have hb7: w.heap.size ≤ w2.heap.size:= B12.size
 have h37: w2.heap.size < w3.heap.size:= heap_lt N3
 clear N2 t3 H2 EK2 O2
 generalize w2.heap.size = b7 at *
 refine T2.out.mono ?_
 rintro e w4 ⟨rfl,B4,S4,C4⟩
 have B14:= Below.then B13 B4
 have HC:= hideP C4
 have I4: GrI w b7 ⟨hs,ns⟩ (rs.map Rv.r) (zs.map Fv.f) (fun n => n ≤ 400) [] w4:= ⟨⟨zs,a2,c2,below_heap B4 N3,ownsRow_keep O3 (Safe.below B4),EK3.safe (Safe.below B4),rfl,h4⟩,(fun _ h => by cases h),B14⟩
 clear T2 C4 g0 g1 N3 G0 O3 EK3
 go_wp2_with fail
 refine wp_range (pt:= 242) (gf:= 97) (lb:= #[ptr (w3.heap.size + 1),ptr w3.heap.size,ptr (w3.heap.size + 1 + 1)]) rfl (enters_of Tryz.func97 (by kernel_rfl) rfl)
  (Elt:= EltO ⟨hs,ns⟩ (rs.map Rv.r) (zs.map Fv.f)) (Kp:= fun l2 => Rnd w.heap.size fun k => (k = b7) ∨ (k = l2 ∧ w.heap.size ≤ l2)) (S:= fun fs => ∀ x,x ∈ fs ↔ x ∈ Ml.onceL ⟨hs,ns⟩ (rs.map Rv.r) (zs.map Fv.f)) (Sp:= fun _ => True) (N:= rs.length * hs.length * 60001)
  ?seq (fun h k => h.trans k) (fun l2 W5 o o' h1 _ _ => Rnd.but (but_putObj W5 l2 o') (.inr ⟨rfl,Nat.le_trans B14.size h1⟩)) rfl
  (GrI w b7 ⟨hs,ns⟩ (rs.map Rv.r) (zs.map Fv.f) fun n => n ≤ 400)
  (fun c pre W => c = .exit 0 ∧ GrI w b7 ⟨hs,ns⟩ (rs.map Rv.r) (zs.map Fv.f) (fun n => 400 < n ∧ n ≤ 401) pre W)
  (fun s A A' h hit => h.itr hit B14.size)
  (fun c s A A' h hit => ⟨h.1,h.2.itr hit B14.size⟩)
  I4
  (fun f a' W5 => ∃ (z: Fv) (S: Nat) (u0 u1 u2 u3 u6 u11 u12 u13 u14 u15 u16 u17: Value),W5.heap[S]? = some (.cells (fv z).toArray 37) ∧ z.f = f ∧ f ∈ Ml.onceL ⟨hs,ns⟩ (rs.map Rv.r) (zs.map Fv.f) ∧ RowT kK 42 W5 z.a z.cap z.ks ∧ a' = { tmps:= #[u0,u1,u2,u3,undef,undef,u6,ptr b7,ptr S,undef,undef,u11,u12,u13,u14,u15,u16,u17,undef,undef,undef,undef,undef,undef,undef,undef,undef,undef,undef,undef,undef,undef,undef,undef,undef],defers:= [] })
  (fun f a' A A' h hit => by
    obtain ⟨z,S,u0,u1,u2,u3,u6,u11,u12,u13,u14,u15,u16,u17,h1,h2,hm,h3,h4⟩:= h
    exact ⟨z,S,u0,u1,u2,u3,u6,u11,u12,u13,u14,u15,u16,u17,hit.same _ _ _ _ h1 (by decide),h2,hm,h3.safe (hit.safe (by decide)),h4⟩)
  ?assign ?body ?done ?stop
 case seq =>
  intro W1 hb1 hs1
  exact once_seq (X:= fun k => k = b7) HI.out ⟨below_heap hb1 HC.out.rules,below_heap hb1 HC.out.world,below_heap hb1 HC.out.facts⟩ (fun k hk => ⟨by omega,by omega⟩) ⟨by omega,by omega,by omega⟩ (B14.trans (hb1.mono B14.size))
 case assign =>
  rintro l2 pre f _ W5 K hl5 hlt5 HI5 ⟨⟨z,rfl,hzf,RZ⟩,MEM⟩ hK
  have N5:= heap_alloc_new W5 (.cells #[.string { data:= #[] },.string { data:= #[] },.string { data:= #[] },.slice none 0 0] 37)
  refine round_region (by rintro ⟨_,_,h⟩;exact h) rfl ?_
  go_wp2_with (refine wpList_store_all rfl 37 _ _ rfl W5.heap.size 4 _ 37 (fv z) rfl rfl N5 rfl rfl iF rfl ?_;intro w6 N6 d6;have B6:= below_tok d6)
  exact hK _ _ (keeps_below B6) (Rnd.of_below B6) (HI5.itr (Itr.below B6 (Nat.le_refl _)) HI5.below.size) ⟨z,_,_,_,_,_,_,_,_,_,_,_,_,_,N6,hzf,MEM,RZ.safe (Safe.below B6),rfl⟩
 case body =>
  rintro l2 pre f _ W7 hl5 hlt5 HI7 ⟨z,S,u0,u1,u2,u3,u6,u11,u12,u13,u14,u15,u16,u17,N7,rfl,MEM,RZ,rfl⟩ hN
  obtain ⟨ys,a,c,k1,O7,E7,hF,h400⟩:= HI7.row
  have B7:= HI7.below
  have g1: W7.cell? ⟨b7,0,none⟩ = some (.slice a (List.length ys) c):= by rw [heap_cell k1];rfl
  obtain ⟨a',c',e',OF7⟩:= own_facts O7 (by omega)
  cases e'
  have SSy: SS (ys.map Fv.f):= by rw [hF];exact (foldl_ins _ _ HSS.out).1
  have TS:= hideP (msearch_at a c ys z W7 OF7.lies (fun y hy => row_args (E7 y hy).row) (row_args RZ.row) SSy)
  have HM:= hideP MEM
  have HP:= hideP HI7.mem
  have HF:= hideP hF
  have HSy:= hideP SSy
  clear MEM hN SSy hF HI7 OF7
  refine wpIn_block ?_
  apply wpIn_seq_k
  intro K5 hK5
  apply wpIn_seq_k
  intro K6 hK6
  refine round_region (by rintro ⟨_,_,h⟩;exact h) rfl ?_
  go_wp2_with (refine wpList_load_all rfl 37 _ rfl S 4 37 (fv z) _ rfl N7 rfl Tryz.underlying37 rfl iF ?_)
  refine TS.out.mono ?_
  rintro e w8 ⟨⟨i8,rfl,P8⟩,B8⟩
  have k8:= below_heap B8 k1
  have N8:= below_heap B8 N7
  have g8: w8.cell? ⟨b7,0,none⟩ = some (.slice a (List.length ys) c):= by rw [heap_cell k8];rfl
  have O8:= ownsRow_keep O7 (Safe.below B8: Safe 37 _ _)
  have E8:= E7.safe (Safe.below B8: Safe 42 _ _)
  have RZ8:= RZ.safe (Safe.below B8: Safe 42 _ _)
  have T8: Below w.heap.size w w8:= B7.trans (B8.mono B7.size)
  have HP8:= hideP P8
  clear TS g1 k1 N7 O7 E7 RZ P8
  cases hq: hasF (ys.map Fv.f) z.f with
  | true =>
   have hz:= hideP (ins_found HSy.out hq)
   have q4: ¬ (400: Int) < (List.length ys: Int):= by omega
   clear hq
   go_wp2_with fail
   gi_wp2
   exact ⟨keeps_below B8,Rnd.of_below B8,⟨⟨ys,a,c,k8,O8,E8,by rw [List.foldl_append,← HF.out];exact hz.out.symm,h400⟩,(fun x hx => by
    rcases List.mem_append.1 hx with hx | hx
    ·exact HP.out x hx
    ·rw [List.mem_singleton] at hx;subst hx;exact HM.out),T8⟩⟩
  | false =>
   have hz:= hideP (ins_new HP8.out hq)
   clear hq
   go_wp2_with fail
   apply wpIn_seq_k
   intro K7 hK7
   refine round_region (by rintro ⟨_,_,h⟩;exact h) rfl ?_
   go_wp2_with fail
   refine wpIn_cond_true rfl ?_
   have A9:= below_alloc w8 (.cells (fv z).toArray 37)
   have N9:= heap_alloc_new w8 (.cells (fv z).toArray 37)
   have O9:= ownsRow_keep O8 (Safe.below A9: Safe 37 _ _)
   have k9:= below_heap A9 k8
   have hbs: w.heap.size ≤ (w8.alloc (.cells (fv z).toArray 37)).heap.size:= Nat.le_trans T8.size A9.size
   have hvb: ∀ ad,a = some ad → ad.block ≠ w8.heap.size:= fun ad had e => by
    rcases O8.2 with ⟨h,_⟩ | ⟨g,cap,cur,h,_,hg,_⟩
    ·rw [had] at h;cases h
    ·rw [had] at h;cases h
     have:= heap_lt hg
     simp at e;omega
   have TI:= hideP (insert_at w.heap.size a c i8 w8.heap.size ys z (w8.alloc (.cells (fv z).toArray 37)) O9 hbs (by omega) HP8.out.1 N9 hvb)
   refine round_region (by rintro ⟨_,_,h⟩;exact h) rfl ?_
   go_wp2_with (first
    | (refine wpList_load_all rfl 37 _ rfl S 4 37 (fv z) _ rfl N8 rfl Tryz.underlying37 rfl iF ?_)
    | (refine wpList_build_one rfl 32 37 _ rfl (fv z) _ 4 72 rfl rfl (by decide) (by decide) Tryz.underlying32 Tryz.infoF ?_))
   refine TI.out.mono ?_
   rintro e w10 ⟨v10,rfl,O10,G10⟩
   have ln: (ys.take i8 ++ z:: ys.drop i8).length = ys.length + 1:= by
    have:= HP8.out.1
    rw [List.length_append,List.length_take,List.length_cons,List.length_drop];omega
   obtain ⟨a10,c10,rfl,_⟩:= own_facts O10 (by rw [ln];omega)
   rw [ln]
   have k10:= grown_safe (ty:= 32) O9 G10 (by decide) _ _ k9
   have S10:= grown_safe (ty:= 42) O9 G10 (by decide)
   have R10: Rnd w.heap.size (fun k => k = b7) (w8.alloc (.cells (fv z).toArray 37)) w10:= grown_rnd O9 G10 (Nat.le_refl _)
   have E10:= (E8.safe (Safe.below A9: Safe 42 _ _)).safe S10
   have Z10:= (RZ8.safe (Safe.below A9: Safe 42 _ _)).safe S10
   have bw10:= own_below O9 G10 hbs
   go_wp2_with (refine wpList_store_cel rfl 32 _ _ rfl b7 0 1 32 (.slice a10 (ys.length + 1) c10) #[.slice a10 (ys.length + 1) c10] rfl rfl k10 rfl (by decide) (by kernel_rfl) rfl rfl ?_;intro w11 N11 t11)
   rw [ln] at O10
   have sf: ∀ ty: TypeId,ty ≠ 32 → Safe ty w10 w11:= fun ty hn => t11.safeT k10 hn
   have R11: Rnd w.heap.size (fun k => k = b7) W7 w11:= (Rnd.of_below (Below.then B8 A9)).trans (R10.trans (Rnd.but t11 rfl))
   have BW: Below w.heap.size w w11:= ((T8.trans (A9.mono T8.size)).trans bw10).trans (t11.lower hb7 (Nat.le_trans hbs bw10.size))
   have MM: ∀ x ∈ pre ++ [z.f],x ∈ Ml.onceL ⟨hs,ns⟩ (rs.map Rv.r) (zs.map Fv.f):= fun x hx => by
    rcases List.mem_append.1 hx with hx | hx
    ·exact HP.out x hx
    ·rw [List.mem_singleton] at hx;subst hx;exact HM.out
   have EE: EachK w11 (ys.take i8 ++ z:: ys.drop i8):= fun y hy => by
    rcases List.mem_append.1 hy with hy | hy
    ·exact (E10 y (List.mem_of_mem_take hy)).safe (sf _ (by decide))
    ·rcases List.mem_cons.1 hy with rfl | hy
     ·exact Z10.safe (sf _ (by decide))
     ·exact (E10 y (List.mem_of_mem_drop hy)).safe (sf _ (by decide))
   have FF: (ys.take i8 ++ z:: ys.drop i8).map Fv.f = (pre ++ [z.f]).foldl ins (zs.map Fv.f):= by rw [List.foldl_append,← HF.out];exact hz.out.symm
   have OO:= ownsRow_keep O10 (sf _ (by decide))
   have g11: w11.cell? ⟨b7,0,none⟩ = some (.slice a10 (ys.length + 1) c10):= by rw [heap_cell N11];rfl
   have GR: ∀ Le: Nat → Prop,Le (ys.length + 1) → GrI w b7 ⟨hs,ns⟩ (rs.map Rv.r) (zs.map Fv.f) Le (pre ++ [z.f]) w11:= fun Le hLe => ⟨⟨_,a10,c10,by rw [ln];exact N11,by rw [ln];exact OO,EE,FF,by rw [ln];exact hLe⟩,MM,BW⟩
   have HGR:= hideP GR
   have KF:= R11.keeps (B:= w4.heap.size) (fun k hk => by have:= B4.size;omega)
   clear GR FF MM EE OO TI R10 E10 Z10
   by_cases h5: ys.length + 1 ≤ 400
   ·have q4: ¬ (400: Int) < (List.length ys: Int) + 1:= by omega
    gi_wp2
    exact ⟨(by rw [← S4];exact KF),R11.mono (fun k hk => .inl hk),HGR.out _ h5⟩
   ·have q4: (400: Int) < (List.length ys: Int) + 1:= by omega
    gi_wp2
    exact ⟨KF,rfl,HGR.out _ (by omega)⟩
 case done =>
  rintro D fs W7 hD7 hS7 HI7 hK7
  obtain ⟨ys,a,c,k7,O7,E7,hF,hLe⟩:= HI7.row
  have g7: W7.cell? ⟨b7,0,none⟩ = some (.slice a (List.length ys) c):= by rw [heap_cell k7];rfl
  have MK: Marks w4.heap.size [D] W7:= ⟨fun D' h => (by rw [List.mem_singleton] at h;subst h;exact hK7),(by simp),fun D' h => (by rw [List.mem_singleton] at h;subst h;exact hD7)⟩
  have IT: Itr 242 w4.heap.size W7 (shut [D] W7):= shut_itr [D] W7 MK.open_ MK.nodup MK.low
  have O9:= ownsRow_itr O7 IT (by decide)
  have E9:= E7.safe (IT.safe (by decide))
  have B9: Below w.heap.size w (shut [D] W7):= HI7.below.trans (IT.toBelow.mono B14.size)
  obtain ⟨a2,c2,e2,OF⟩:= own_facts O9 (by omega)
  cases e2
  have GA: GrAns ⟨hs,ns⟩ (rs.map Rv.r) (zs.map Fv.f) (ys.map Fv.f):= by
   rw [hF]
   exact ⟨(foldl_ins _ _ HSS.out).1,.inl (Ml.grown_all HSS.out hS7)⟩
  have HG:= hideP GA
  clear hF GA O7 E7 HI7 hS7
  go_wp2_with fail
  exact leaves_marks [D] W7 MK.open_ MK.nodup ⟨_,results_tmp rfl _ _ _,⟨ys,a,c,rfl,OF,E9,HG.out⟩,B9⟩
 case stop =>
  rintro D c pre W7 hD7 _ ⟨rfl,HI7⟩ hK7
  obtain ⟨ys,a,c,k7,O7,E7,hF,hLe⟩:= HI7.row
  have g7: W7.cell? ⟨b7,0,none⟩ = some (.slice a (List.length ys) c):= by rw [heap_cell k7];rfl
  have MK: Marks w4.heap.size [D] W7:= ⟨fun D' h => (by rw [List.mem_singleton] at h;subst h;exact hK7),(by simp),fun D' h => (by rw [List.mem_singleton] at h;subst h;exact hD7)⟩
  have IT: Itr 242 w4.heap.size W7 (shut [D] W7):= shut_itr [D] W7 MK.open_ MK.nodup MK.low
  have O9:= ownsRow_itr O7 IT (by decide)
  have E9:= E7.safe (IT.safe (by decide))
  have B9: Below w.heap.size w (shut [D] W7):= HI7.below.trans (IT.toBelow.mono B14.size)
  obtain ⟨a2,c2,e2,OF⟩:= own_facts O9 (by omega)
  cases e2
  have GA: GrAns ⟨hs,ns⟩ (rs.map Rv.r) (zs.map Fv.f) (ys.map Fv.f):= by
   rw [hF]
   have hg:= Ml.grown_some (w:= ⟨hs,ns⟩) (l:= rs.map Rv.r) HSS.out HI7.mem
   exact ⟨hg.1,.inr ⟨by rw [← hF,List.length_map];exact hLe.1,hg.2.2⟩⟩
  have HG:= hideP GA
  clear hF GA O7 E7 HI7
  refine wpIn_exit ?_
  go_wp2_with fail
  exact leaves_marks [D] W7 MK.open_ MK.nodup ⟨_,results_tmp rfl _ _ _,⟨ys,a,c,rfl,OF,E9,HG.out⟩,B9⟩
end Go.Proofs.YtpdmmmdkpipmkaaGreatDoor
