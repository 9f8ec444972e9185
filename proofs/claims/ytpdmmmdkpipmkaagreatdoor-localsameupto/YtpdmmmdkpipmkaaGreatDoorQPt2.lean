/-
  The program's printer: what it writes of an atom, a literal, a rule.
-/
import Derived.Test.YtpdmmmdkpipmkaaGreatDoorQPt
import Derived.Test.YtpdmmmdkpipmkaaGreatDoorQCd
set_option maxRecDepth 100000
set_option maxHeartbeats 4000000
namespace Go.Proofs.YtpdmmmdkpipmkaaGreatDoor
open Go.RowKit Go.Lib Go.Shelf
theorem pplace_at {w0 w: World} {b: Nat} {l s: List UInt8} (x: List UInt8) (t: Tm) (y: List UInt8) (h: PS w0 b l w) (hi: Sh.KIn t) (hs: Sh.maybeS x t y = some s) (hx: x.length ≤ 10) (hy: y.length ≤ 10) (hlen: l.length + 54 ≤ 140737488355328):
 Calls Tryz.prog 168 #[ptr b,str x,tval t,str y] w fun e w' => e = .returned (.tuple #[]) ∧ PS w0 b (l ++ s) w' ∧ Kp b w w':= by
 have N:= hideP (fun W => isNone_at t W)
 have A0:= below_alloc w (.cells (tv t).toArray 44)
 have H0:= heap_alloc_new w (.cells (tv t).toArray 44)
 have K0: Kp b w _:= Kp.of A0
 have P0:= h.below A0
 have hne: w.heap.size ≠ b:= by have:= h.lt;omega
 unfold Sh.maybeS at hs
 cases hn: Sh.noneT t with
 | true =>
  rw [if_pos hn] at hs
  obtain rfl: [] = s:= Option.some.inj hs
  rw [hn] at N
  clear hn hs
  go_enter Tryz.func168,Tryz.ntmps168
  go_wp2_with fail
  refine (N.out _).mono ?_
  rintro e w1 ⟨rfl,b1⟩
  go_wp2_with fail
  (try simp only [Exit.inBlock,Exit.then]);refine bodyPost_ret (results_none rfl _ _ _) rfl ?_
  exact ⟨rfl,by rw [List.append_nil];exact P0.below b1,K0.below b1⟩
 | false =>
  rw [if_neg (by simp [hn])] at hs
  obtain ⟨m,hm,hs⟩:= Option.map_eq_some_iff.1 hs
  have HS:= hideP hs.symm
  have hml:= Sh.term_len hi hm
  rw [hn] at N
  clear hn hs
  have T:= hideP (fun (W: World) (l': List UInt8) (P: PS w0 b l' W) (hl: l'.length + 34 ≤ 140737488355328) => pterm_at t P hi hm hl)
  clear hm
  go_enter Tryz.func168,Tryz.ntmps168
  go_wp2_with fail
  refine (N.out _).mono ?_
  rintro e w1 ⟨rfl,b1⟩
  have P1:= P0.below b1
  have K1:= K0.below b1
  have H1:= below_heap b1 H0
  go_wp2_with fail
  refine (pwstr P1 x (by omega)).mono ?_
  rintro e w2 ⟨rfl,P2,k2⟩
  have H2:= k2 _ _ _ H1 hne (by decide)
  go_wp2_with (refine wpList_load_all rfl 44 _ rfl w.heap.size 4 44 (tv t) _ rfl H2 rfl Tryz.underlying44 rfl Tryz.iT4 ?_)
  refine (T.out w2 (l ++ x) P2 (by rw [List.length_append];omega)).mono ?_
  rintro e w3 ⟨rfl,P3,k3⟩
  go_wp2_with fail
  refine (pwstr P3 y (by simp only [List.length_append];omega)).mono ?_
  rintro e w4 ⟨rfl,P4,k4⟩
  go_wp2_with fail
  go_end0
  refine ⟨rfl, ?_,((K1.trans k2).trans k3).trans k4⟩
  rw [HS.out]
  simpa [List.append_assoc] using P4
theorem patom_at {w0 w: World} {b: Nat} {l s: List UInt8} (p: List UInt8) (a: Option Addr) (c: Nat) (ts: List Tm) (h: PS w0 b l w) (hr: Row tK w0 a c ts) (hi: ∀ t ∈ ts,Sh.KIn t) (hs: Sh.atomS p ts = some s) (hlen: l.length + 300 ≤ 140737488355328):
 Calls Tryz.prog 167 #[ptr b,str p,.slice a ts.length c] w fun e w' => e = .returned (.tuple #[]) ∧ PS w0 b (l ++ s) w' ∧ Kp b w w':= by
 obtain ⟨m,hw,h4,hm,hse⟩:= Sh.atom_parts hs
 have HS:= hideP hse
 have hp:= Sh.word_len hw
 clear hs hse hw
 have few:= hr.few
 go_enter Tryz.func167,Tryz.ntmps167
 go_wp2_with fail
 refine (pwstr h p (by omega)).mono ?_
 rintro e w1 ⟨rfl,P1,k1⟩
 go_wp2_with fail
 refine (pwbyte P1 40 (by rw [List.length_append];omega)).mono ?_
 rintro e w2 ⟨rfl,P2,k2⟩
 have k2:= k1.trans k2
 clear P1 k1 h
 go_wp2_with fail
 go_loopw [6,8,20] (fun v6 _ v20 wr => ∃ (k: Nat) (T x: List UInt8),v6 = str (Sh.sep k) ∧ v20 = .int .i64 (k: Int) ∧ k ≤ ts.length ∧ Hid (T = l ++ p ++ [40] ++ x) ∧ Hid (Sh.argsS (ts.take k) = some x) ∧ PS w0 b T wr ∧ Kp b w wr) (fun _ _ v _ => ts.length - (Lib.intOf v).toNat)
 case atStart => exact ⟨0,_,[],rfl,rfl,Nat.zero_le _,(by show _ = _;rw [List.append_nil]),rfl,P2,k2⟩
 case round =>
  obtain ⟨k,T,x,rfl,rfl,hk,HT,HX,P3,k3⟩:= hrel
  have hTl: T.length ≤ l.length + 180:= by
   have:= Sh.args_len (fun t ht => hi t (List.mem_of_mem_take ht)) HX.out
   rw [HT.out]
   simp only [List.length_append,List.length_cons,List.length_nil,List.length_take] at *;omega
  by_cases hlt: k < ts.length
  ·have q2: (k: Int) < (ts.length: Int):= by omega
   obtain ⟨P1,O1,rfl⟩:= hr.addr (Nat.lt_of_le_of_lt (Nat.zero_le _) hlt)
   have r1: wr.rangeAt P1 (O1 + k * 4) (tv (ts[k]'hlt)):= (hr.below P3.low (Nat.le_refl _)).range k hlt
   obtain ⟨y,hy⟩:= Sh.args_each hm (List.getElem_mem hlt)
   have hti:= hi _ (List.getElem_mem hlt)
   have hyl:= Sh.term_len hti hy
   have HX2: Hid (Sh.argsS (ts.take (k + 1)) = some (x ++ (Sh.sep k ++ y))):= by
    show _ = _
    have:= Sh.args_snoc HX.out hy
    rw [List.length_take,Nat.min_eq_left hk] at this
    rw [List.take_succ_eq_append_getElem hlt];exact this
   generalize (ts[k]'hlt) = t at *
   have TT:= hideP (fun (W: World) (l': List UInt8) (P: PS w0 b l' W) (hl: l'.length + 34 ≤ 140737488355328) => pterm_at t P hti hy hl)
   have hsk: (Sh.sep k).length ≤ 2:= by unfold Sh.sep;split <;> simp
   have hs1: Hid (Sh.sep (k + 1) = [44,32]):= by show _ = _;unfold Sh.sep;rw [if_neg (by omega)]
   have hne: wr.heap.size ≠ b:= by have:= P3.lt;omega
   clear hy HX
   generalize Sh.sep k = sk at *
   have iP: (Tryz.prog.info? 44).map (·.size) = some (tv t).length:= Tryz.iT4
   go_upto_region 7 with (first
    | (refine wpList_load_mid rfl 44 _ rfl P1 (O1 + k * 4) rfl (tv t) _ r1 Tryz.underlying44 rfl iP ?_)
    | (refine wpList_store_all rfl 44 _ _ rfl wr.heap.size 4 _ 44 (tv t) rfl rfl (heap_alloc_new wr _) rfl rfl Tryz.iT4 rfl ?_;intro w4 H4 d4;have B4:= below_tok d4)
    | (go_at_call 166;refine (pwstr (P3.below B4) sk (by omega)).mono ?_;rintro e w5 ⟨rfl,P5,k5⟩;have H5:= k5 _ _ _ H4 hne (by decide)))
   go_wp2_with (refine wpList_load_all rfl 44 _ rfl wr.heap.size 4 44 (tv t) _ rfl H5 rfl Tryz.underlying44 rfl Tryz.iT4 ?_)
   refine (TT.out w5 (T ++ sk) P5 (by rw [List.length_append];omega)).mono ?_
   rintro e w6 ⟨rfl,P6,k6⟩
   go_wp2_with fail
   refine ⟨⟨k + 1,T ++ sk ++ y,x ++ (sk ++ y),by rw [hs1.out],by go_num,by omega, ?_,HX2,P6,((k3.below B4).trans k5).trans k6⟩,by simp [Lib.intOf];omega⟩
   show _ = _
   rw [HT.out];simp [List.append_assoc]
  ·have q2: ¬ (k: Int) < (ts.length: Int):= by omega
   have HXm: Hid (x = m):= by
    have:= HX.out
    rw [List.take_of_length_le (by omega),hm] at this
    exact (Option.some.inj this).symm
   go_wp2_with fail
   refine (pwbyte P3 41 (by omega)).mono ?_
   rintro e w4 ⟨rfl,P4,k4⟩
   go_wp2_with fail
   go_end0
   refine ⟨rfl, ?_,k3.trans k4⟩
   rw [HS.out,← HXm.out]
   have:= HT.out
   rw [this] at P4
   simpa [List.append_assoc] using P4
theorem pliteral_at {w0 w: World} {b: Nat} {l s: List UInt8} (y: Lv) (h: PS w0 b l w) (hr: Lv.Aw w0 y) (hi: Sh.LIn y.l) (hs: Sh.litS y.l = some s) (hlen: l.length + 600 ≤ 140737488355328):
 Calls Tryz.prog 169 #[ptr b,lval y] w fun e w' => e = .returned (.tuple #[]) ∧ PS w0 b (l ++ s) w' ∧ Kp b w w':= by
 obtain ⟨s1,s2,s3,h1,h2,h3,hse⟩:= Sh.lit_parts hs
 have HS:= hideP hse
 have n1:= Sh.maybe_len hi.1 h1
 have n2:= Sh.atom_len hi.2.1 h2
 simp only [List.length_cons,List.length_nil] at n1
 have A0:= below_alloc w (.cells (lv y).toArray 52)
 have H0:= heap_alloc_new w (.cells (lv y).toArray 52)
 have K0: Kp b w _:= Kp.of A0
 have P0:= h.below A0
 have hne: w.heap.size ≠ b:= by have:= h.lt;omega
 have T1:= hideP (pplace_at [] y.by_ [32,115,97,121,115,32] P0 hi.1 h1 (by decide) (by decide) (by omega))
 have T2:= hideP (fun (W: World) (l': List UInt8) (P: PS w0 b l' W) (hl: l'.length + 300 ≤ 140737488355328) => patom_at y.pred y.a y.cap y.args P hr hi.2.1 h2 hl)
 have T3:= hideP (fun (W: World) (l': List UInt8) (P: PS w0 b l' W) (hl: l'.length + 54 ≤ 140737488355328) => pplace_at [32,97,116,32] y.at_ [] P hi.2.2 h3 (by decide) (by decide) hl)
 clear hs hse h1 h2 h3
 go_enter Tryz.func169,Tryz.ntmps169
 go_wp2_with fail
 refine T1.out.mono ?_
 rintro e w1 ⟨rfl,P1,k1⟩
 have H1:= k1 _ _ _ H0 hne (by decide)
 obtain ⟨c0,c1,c2,c3,c4,c5,c6,c7,c8,c9⟩:= lit_cells9 y H1
 clear c0 c1 c2 c3 c6 c7 c8 c9
 go_wp2_with fail
 refine (T2.out w1 _ P1 (by rw [List.length_append];omega)).mono ?_
 rintro e w2 ⟨rfl,P2,k2⟩
 have H2:= k2 _ _ _ H1 hne (by decide)
 clear c4 c5
 obtain ⟨c0,c1,c2,c3,c4,c5,c6,c7,c8,c9⟩:= lit_cells9 y H2
 clear c0 c1 c2 c3 c4 c5
 go_wp2_with fail
 refine (T3.out w2 _ P2 (by simp only [List.length_append];omega)).mono ?_
 rintro e w3 ⟨rfl,P3,k3⟩
 go_wp2_with fail
 go_end0
 refine ⟨rfl, ?_,((K0.trans k1).trans k2).trans k3⟩
 rw [HS.out]
 simpa [List.append_assoc] using P3
theorem prule_at {w0 w: World} {b: Nat} {l s: List UInt8} (x: Rv) (h: PS w0 b l w) (hr: Rv.Aw w0 x) (hi: Sh.RIn x.r) (hs: Sh.ruleS x.r = some s) (hlen: l.length + 3000 ≤ 140737488355328):
 Calls Tryz.prog 122 #[ptr b,rval x] w fun e w' => e = .returned (.tuple #[]) ∧ PS w0 b (l ++ s) w' ∧ Kp b w w':= by
 obtain ⟨s1,s2,s3,s4,g1,g2,h1,h2,h3,h4,hse⟩:= Sh.rule_parts hs
 have HS:= hideP hse
 have i1: Sh.KIn x.home:= hi.1
 have i2: ∀ t ∈ x.args,Sh.KIn t:= hi.2.1
 have i3: Sh.KIn x.to_:= hi.2.2.1
 have i4: ∀ y ∈ x.body,Sh.LIn y.l:= fun y hy => hi.2.2.2 _ (List.mem_map_of_mem hy)
 have h1: Sh.termS x.home = some s1:= h1
 have h2: Sh.atomS x.pred x.args = some s2:= h2
 have h3: Sh.maybeS [32,116,111,32] x.to_ [] = some s3:= h3
 have h4: Sh.litsS (x.body.map Lv.l) = some s4:= h4
 have g1: 1 ≤ x.body.length:= by have: (x.body.map Lv.l).length = x.body.length:= List.length_map ..;rw [← this];exact g1
 have g2: x.body.length ≤ 4:= by have: (x.body.map Lv.l).length = x.body.length:= List.length_map ..;rw [← this];exact g2
 have n1:= Sh.term_len i1 h1
 have n2:= Sh.atom_len i2 h2
 have n3:= Sh.maybe_len i3 h3
 simp only [List.length_cons,List.length_nil] at n3
 obtain ⟨r1,r2,r3⟩:= hr
 have A0:= below_alloc w (.cells (rv x).toArray 48)
 have H0:= heap_alloc_new w (.cells (rv x).toArray 48)
 have K0: Kp b w _:= Kp.of A0
 have P0:= h.below A0
 have hne: w.heap.size ≠ b:= by have:= h.lt;omega
 have T1:= hideP (pterm_at x.home P0 i1 h1 (by omega))
 have T2:= hideP (fun (W: World) (l': List UInt8) (P: PS w0 b l' W) (hl: l'.length + 300 ≤ 140737488355328) => patom_at x.pred x.a x.cap x.args P r1 i2 h2 hl)
 have T3:= hideP (fun (W: World) (l': List UInt8) (P: PS w0 b l' W) (hl: l'.length + 54 ≤ 140737488355328) => pplace_at [32,116,111,32] x.to_ [] P i3 h3 (by decide) (by decide) hl)
 have few:= r2.few
 clear hs hse h1 h2 h3 r1 hi
 go_enter Tryz.func122,Tryz.ntmps122
 go_wp2_with fail
 refine T1.out.mono ?_
 rintro e w1 ⟨rfl,P1,k1⟩
 have H1:= k1 _ _ _ H0 hne (by decide)
 go_wp2_with fail
 refine (pwstr P1 [58,32] (by simp only [List.length_append,List.length_cons,List.length_nil];omega)).mono ?_
 rintro e w2 ⟨rfl,P2,k2⟩
 have H2:= k2 _ _ _ H1 hne (by decide)
 obtain ⟨c0,c1,c2,c3,c4,c5,c6,c7,c8,c9,c10⟩:= rule_cells9 x H2
 clear c0 c1 c2 c3 c6 c7 c8 c9 c10
 go_wp2_with fail
 refine (T2.out w2 _ P2 (by simp only [List.length_append,List.length_cons,List.length_nil];omega)).mono ?_
 rintro e w3 ⟨rfl,P3,k3⟩
 have H3:= k3 _ _ _ H2 hne (by decide)
 clear c4 c5
 obtain ⟨c0,c1,c2,c3,c4,c5,c6,c7,c8,c9,c10⟩:= rule_cells9 x H3
 clear c0 c1 c2 c3 c4 c5 c10
 go_wp2_with fail
 refine (T3.out w3 _ P3 (by simp only [List.length_append,List.length_cons,List.length_nil];omega)).mono ?_
 rintro e w4 ⟨rfl,P4,k4⟩
 have H4:= k4 _ _ _ H3 hne (by decide)
 clear c6 c7 c8 c9
 have c10:= (rule_cells9 x H4).2.2.2.2.2.2.2.2.2.2
 have K4:= (((K0.trans k1).trans k2).trans k3).trans k4
 have HB: Hid (l ++ s1 ++ [58,32] ++ s2 ++ s3 = l ++ (s1 ++ (58:: 32:: (s2 ++ s3)))):= by show _ = _;simp [List.append_assoc]
 have nB: (l ++ s1 ++ [58,32] ++ s2 ++ s3).length ≤ l.length + 300:= by simp only [List.length_append,List.length_cons,List.length_nil];omega
 generalize l ++ s1 ++ [58,32] ++ s2 ++ s3 = Bt at *
 clear P0 P1 P2 P3 k1 k2 k3 k4 T1 T2 T3 H0 H1 H2 H3 K0 A0 h
 generalize x.body = ls at *
 generalize x.ba = ba at *
 generalize x.bcap = bc at *
 go_wp2_with fail
 go_loopw [4,6,28] (fun v4 _ v28 wr => ∃ (k: Nat) (T m: List UInt8),v4 = str (if k = 0 then [32,58,45,32] else [44,32]) ∧ v28 = .int .i64 (k: Int) ∧ k ≤ ls.length ∧ Hid (T = Bt ++ (if k = 0 then [] else [32,58,45,32] ++ m)) ∧ Hid (Sh.litsS ((ls.take k).map Lv.l) = some m) ∧ PS w0 b T wr ∧ Kp b w wr) (fun _ _ v _ => ls.length - (Lib.intOf v).toNat)
 case atStart => exact ⟨0,_,[],rfl,rfl,Nat.zero_le _,(by show _ = _;simp),rfl,P4,K4⟩
 case round =>
  obtain ⟨k,T,m,rfl,rfl,hk,HT,HX,P5,k5⟩:= hrel
  have hTl: T.length ≤ l.length + 1500:= by
   have h5:= Sh.lits_len (fun t ht => by
    obtain ⟨y,hy,rfl⟩:= List.mem_map.1 ht
    exact i4 y (List.mem_of_mem_take hy)) HX.out
   rw [HT.out]
   rw [List.length_map,List.length_take] at h5
   split <;> simp only [List.length_append,List.length_cons,List.length_nil] at * <;> omega
  by_cases hlt: k < ls.length
  ·have q2: (k: Int) < (ls.length: Int):= by omega
   obtain ⟨P1,O1,rfl⟩:= r2.addr (Nat.lt_of_le_of_lt (Nat.zero_le _) hlt)
   have r1: wr.rangeAt P1 (O1 + k * 10) (lv (ls[k]'hlt)):= (r2.below P5.low (Nat.le_refl _)).range k hlt
   have aP:= r3 _ (List.getElem_mem hlt)
   have hyi:= i4 _ (List.getElem_mem hlt)
   obtain ⟨z,hz⟩:= Sh.lits_each h4 (List.mem_map_of_mem (List.getElem_mem hlt))
   have HX2: Hid (Sh.litsS ((ls.take (k + 1)).map Lv.l) = some (m ++ (Sh.sep k ++ z))):= by
    show _ = _
    have:= Sh.lits_snoc HX.out hz
    rw [List.length_map,List.length_take,Nat.min_eq_left hk] at this
    rw [List.take_succ_eq_append_getElem hlt,List.map_append];exact this
   have HM: Hid (k = 0 → m = []):= fun h0 => by
    have:= HX.out
    rw [h0] at this
    exact (Option.some.inj this).symm
   generalize (ls[k]'hlt) = y at *
   have TT:= hideP (fun (W: World) (l': List UInt8) (P: PS w0 b l' W) (hl: l'.length + 600 ≤ 140737488355328) => pliteral_at y P aP hyi hz hl)
   have HA: Hid (Bt ++ (if k = 0 then [] else [32,58,45,32] ++ m) ++ (if k = 0 then [32,58,45,32] else [44,32]) ++ z = Bt ++ ([32,58,45,32] ++ (m ++ (Sh.sep k ++ z)))):= by
    show _ = _
    by_cases h0: k = 0
    ·rw [HM.out h0];simp [h0,Sh.sep]
    ·simp [h0,Sh.sep]
   have hsk: (if k = 0 then [32,58,45,32] else [44,32]: List UInt8).length ≤ 4:= by split <;> simp
   have hne': wr.heap.size ≠ b:= by have:= P5.lt;omega
   clear hz HX HM
   generalize (if k = 0 then [32,58,45,32] else [44,32]: List UInt8) = sk at *
   have iP: (Tryz.prog.info? 52).map (·.size) = some (lv y).length:= Tryz.iL10
   go_upto_region 10 with (first
    | (refine wpList_load_mid rfl 52 _ rfl P1 (O1 + k * 10) rfl (lv y) _ r1 Tryz.underlying52 rfl iP ?_)
    | (refine wpList_store_all rfl 52 _ _ rfl wr.heap.size 10 _ 52 (lv y) rfl rfl (heap_alloc_new wr _) rfl rfl Tryz.iL10 rfl ?_;intro w6 H6 d6;have B6:= below_tok d6)
    | (go_at_call 166;refine (pwstr (P5.below B6) sk (by omega)).mono ?_;rintro e w7 ⟨rfl,P7,k7⟩;have H7:= k7 _ _ _ H6 hne' (by decide)))
   go_wp2_with (refine wpList_load_all rfl 52 _ rfl wr.heap.size 10 52 (lv y) _ rfl H7 rfl Tryz.underlying52 rfl Tryz.iL10 ?_)
   refine (TT.out w7 (T ++ sk) P7 (by rw [List.length_append];omega)).mono ?_
   rintro e w8 ⟨rfl,P8,k8⟩
   go_wp2_with fail
   refine ⟨⟨k + 1,T ++ sk ++ z,m ++ (Sh.sep k ++ z),by rw [if_neg (by omega)],by go_num,by omega, ?_,HX2,P8,((k5.below B6).trans k7).trans k8⟩,by simp [Lib.intOf];omega⟩
   show _ = _
   rw [HT.out,if_neg (show ¬ k + 1 = 0 by omega),HA.out]
  ·have q2: ¬ (k: Int) < (ls.length: Int):= by omega
   have HXm: Hid (m = s4):= by
    have:= HX.out
    rw [List.take_of_length_le (by omega),h4] at this
    exact (Option.some.inj this).symm
   have k0: ¬ k = 0:= by omega
   go_wp2_with fail
   refine (pwbyte P5 46 (by omega)).mono ?_
   rintro e w6 ⟨rfl,P6,k6⟩
   go_wp2_with fail
   go_end0
   refine ⟨rfl, ?_,k5.trans k6⟩
   rw [HS.out]
   have:= HT.out
   rw [if_neg k0,HB.out,HXm.out] at this
   rw [this] at P6
   simpa [List.append_assoc] using P6
end Go.Proofs.YtpdmmmdkpipmkaaGreatDoor
