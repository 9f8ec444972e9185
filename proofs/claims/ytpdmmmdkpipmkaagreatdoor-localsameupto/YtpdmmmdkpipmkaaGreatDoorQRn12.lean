/-
  Rules that a text was parsed as.
-/
import Derived.Test.YtpdmmmdkpipmkaaGreatDoorQPj
import Derived.Test.YtpdmmmdkpipmkaaGreatDoorQSk
import Derived.Test.YtpdmmmdkpipmkaaGreatDoorQLs9
import Derived.Test.YtpdmmmdkpipmkaaGreatDoorQVk
import Derived.Test.YtpdmmmdkpipmkaaGreatDoorQLx13
import Derived.Test.YtpdmmmdkpipmkaaGreatDoorQIm12
import Derived.Test.YtpdmmmdkpipmkaaGreatDoorQD4
set_option maxRecDepth 100000
set_option maxHeartbeats 4000000
namespace Go.Proofs.YtpdmmmdkpipmkaaGreatDoor
open Go.RowKit Go.Lib Go.Shelf
theorem RowsAt.rws {w: World} {l: List Ru} {a: Option Addr} {n c: Nat} (h: RowsAt w l (.slice a n c)): ∃ xs: List Rv,xs.length = n ∧ xs.map Rv.r = l ∧ Rws w a c xs:= by
 obtain ⟨a',c',xs,h1,h2,h3⟩:= h.weak
 simp only [Value.slice.injEq] at h1
 obtain ⟨rfl,rfl,rfl⟩:= h1
 exact ⟨xs,rfl,h2,h3⟩
theorem map_in {xs: List Rv} {l: List Ru} (he: xs.map Rv.r = l) (h: ∀ r ∈ l,Sh.RIn r): ∀ x ∈ xs,Sh.RIn x.r:= fun x hx => h _ (by rw [← he];exact List.mem_map_of_mem hx)
end Go.Proofs.YtpdmmmdkpipmkaaGreatDoor
namespace Go.Proofs.YtpdmmmdkpipmkaaGreatDoor
open Go.RowKit Go.Lib Go.Shelf
end Go.Proofs.YtpdmmmdkpipmkaaGreatDoor
namespace Go.Proofs.YtpdmmmdkpipmkaaGreatDoor
open Go.RowKit Go.Lib Go.Shelf
theorem u8_126 (c: UInt8): ((c.toNat: Int) == 126) = (c == 126):= by
 rw [Bool.eq_iff_iff,beq_iff_eq,beq_iff_eq]
 constructor
 ·intro h;exact UInt8.toNat_inj.1 (by show c.toNat = 126;omega)
 ·rintro rfl;rfl
theorem rrelay_at (p: List UInt8) (w: World): Calls Tryz.prog 17 #[str p] w fun e w' => e = .returned (.bool (Lc.relay p)) ∧ w = w':= by
 cases p with
 | nil =>
  go_enter Tryz.func17,Tryz.ntmps17
  go_wp2_with fail
  go_ret
  exact ⟨rfl,rfl⟩
 | cons c r =>
  have hl: (⟨(c:: r).toArray⟩: ByteArray).size = r.length + 1:= by rw [str_size];rfl
  have q: Hid (Lc.relay (c:: r) = (c == 126)):= rfl
  go_enter Tryz.func17,Tryz.ntmps17
  go_wp2_with fail
  go_ret
  exact ⟨ret_bool (by rw [q.out];exact u8_126 c),rfl⟩
theorem hasPrefix1_at (p: List UInt8) (w: World): Calls Tryz.prog 56 #[str p,.string { data:= #[126] }] w fun e w' => e = .returned (.bool (Lc.relay p)) ∧ w = w':= by
 cases p with
 | nil =>
  go_enter Tryz.func56,Tryz.ntmps56
  go_wp2_with fail
  go_ret
  exact ⟨rfl,rfl⟩
 | cons c r =>
  have hl: (⟨(c:: r).toArray⟩: ByteArray).size = r.length + 1:= by rw [str_size];rfl
  have hx: (⟨(c:: r).toArray⟩: ByteArray).extract 0 1 = ⟨#[c]⟩:= by
   apply ByteArray.ext
   rw [ByteArray.data_extract];simp
  have q: Hid (Lc.relay (c:: r) = (c == 126)):= rfl
  have hq: ((⟨#[c]⟩: ByteArray).toList == (⟨#[126]⟩: ByteArray).toList) = (c == 126):= by
   rw [ByteArray.toList_eq,ByteArray.toList_eq];simp
  go_enter Tryz.func56,Tryz.ntmps56
  go_wp2_with fail
  go_ret
  exact ⟨ret_bool (by rw [q.out]),rfl⟩
theorem hasPrefix_at (p: List UInt8) (w: World): Calls Tryz.prog 31 #[str p,.string { data:= #[126] }] w fun e w' => e = .returned (.bool (Lc.relay p)) ∧ w = w':= by
 have T:= hideP (hasPrefix1_at p w)
 generalize Lc.relay p = b at *
 go_enter Tryz.func31,Tryz.ntmps31
 go_wp2_with fail
 refine T.out.mono ?_
 rintro e w1 ⟨rfl,rfl⟩
 go_wp2_with fail
 go_ret
 exact ⟨rfl,rfl⟩
theorem prelay_at (p: List UInt8) (w: World): Calls Tryz.prog 16 #[str p] w fun e w' => e = .returned (.bool (Lc.relay p)) ∧ w = w':= by
 have T:= hideP (hasPrefix_at p w)
 generalize Lc.relay p = b at *
 go_enter Tryz.func16,Tryz.ntmps16
 go_wp2_with fail
 refine T.out.mono ?_
 rintro e w1 ⟨rfl,rfl⟩
 go_wp2_with fail
 go_ret
 exact ⟨rfl,rfl⟩
theorem live13_at (w: World) (hL: Laid w): Calls Tryz.prog 10 #[] w fun e w' => e = .returned (.bool true) ∧ Below w.heap.size w w':= by
 have T1:= hideP (pprog_ok Lc.px13 w (by decide) hL)
 have T3:= hideP (fun W => prelay_at [126,120] W)
 have T4:= hideP (fun W => prelay_at [120] W)
 have e3: Lc.relay [126,120] = true:= rfl
 have e4: Lc.relay [120] = false:= rfl
 rw [e3] at T3
 rw [e4] at T4
 go_enter Tryz.func10,Tryz.ntmps10
 go_wp2_with fail
 refine T1.out.mono ?_
 rintro e w1 ⟨⟨a1,c1,rfl,r1⟩,b1⟩
 obtain ⟨xs,hl1,h2,h3⟩:= r1.rws
 have T2:= hideP (rewrite_at a1 c1 xs w1 (hL.below b1) h3 (map_in h2 (Sh.prog_good Lc.px13).1))
 rw [h2] at T2
 rw [hl1] at T2
 clear T1 r1 h3 hl1 h2
 go_wp2_with fail
 refine T2.out.mono ?_
 rintro e w2 ⟨⟨a2,c2,ys,rfl,R2,A2,E2⟩,b2⟩
 rw [show (Ck.prog [Lc.ex13]).1 = 0 by rw [Lc.ck13]] at E2 ⊢
 rw [if_pos rfl,Lc.rw13] at E2
 clear T2
 obtain ⟨y0,l0,rfl,E0,E2⟩:= List.map_eq_cons_iff.1 E2
 obtain ⟨y1,l1,rfl,E1,E2⟩:= List.map_eq_cons_iff.1 E2
 obtain ⟨y2,l2,rfl,E4,E3⟩:= List.map_eq_cons_iff.1 E2
 obtain rfl:= List.map_eq_nil_iff.1 E3
 ·clear E3
  obtain ⟨P,O,rfl⟩:= R2.addr (Nat.zero_lt_succ _)
  have p0: y0.pred = [126,97,115,107,48,46,49]:= (show y0.r.pred = Lc.ask13.pred by rw [E0])
  have p1: y1.home.v = [66]:= (show y1.r.home.v = Lc.tell13.home.v by rw [E1])
  have A22:= A2 y2 (by simp)
  have c0: w2.cell? ⟨P,O + 4,none⟩ = some (str y0.pred):= R2.range 0 (by simp) 4 _ rfl
  have c1: w2.cell? ⟨P,O + 11,none⟩ = some (str y1.home.v):= R2.range 1 (by simp) 0 _ rfl
  have c2': w2.cell? ⟨P,O + 22 + 10,none⟩ = some (.slice y2.ba y2.body.length y2.bcap):= R2.range 2 (by simp) 10 _ rfl
  rw [p0] at c0
  rw [p1] at c1
  have hb: y2.body.map Lv.l = [⟨⟨[66],k0⟩,[126,116,101,108,108,48,46,49],[⟨[65],k0⟩,⟨[66],k0⟩,⟨[88],k0⟩],t0⟩]:= (show y2.r.body = Lc.last13.body by rw [E4])
  obtain ⟨z,hz⟩: ∃ z,y2.body = [z]:= by
   obtain ⟨z,l,h1,_,h2⟩:= List.map_eq_cons_iff.1 hb
   rw [List.map_eq_nil_iff.1 h2] at h1
   exact ⟨z,h1⟩
  have RB:= A22.body.row
  rw [hz] at hb RB c2'
  obtain ⟨Q,S,hQ⟩:= RB.addr (Nat.zero_lt_succ _)
  rw [hQ] at RB c2'
  have zb: z.by_.v = [66]:= by
   simp only [List.map_cons,List.map_nil,List.cons.injEq,and_true] at hb
   exact congrArg (fun l => l.by_.v) hb
  have c3: w2.cell? ⟨Q,S,none⟩ = some (str z.by_.v):= RB.range 0 (by simp) 0 _ rfl
  rw [zb] at c3
  have rm:= R2.room
  have rb:= RB.room
  simp only [List.length_cons,List.length_nil] at c2' rm rb ⊢
  clear R2 A2 A22 RB E0 E1 E2 E4 hb hz hQ p0 p1 zb
  go_wp2_with fail
  refine (T3.out w2).mono ?_
  rintro e w3 ⟨rfl,rfl⟩
  go_wp2_with fail
  refine (T4.out w2).mono ?_
  rintro e w3 ⟨rfl,rfl⟩
  go_wp2_with fail
  go_ret
  exact ⟨rfl,Below.then b1 b2⟩
end Go.Proofs.YtpdmmmdkpipmkaaGreatDoor
namespace Go.Proofs.YtpdmmmdkpipmkaaGreatDoor
open Go.RowKit Go.Lib Go.Shelf
theorem from_at (w0 wf: World) (x: Rv) (q base M: Nat) (ha: Option Addr) (hc: Nat) (hs: List (List UInt8)) (na: Option Addr) (nc: Nat) (ns: List (List UInt8)) (fa: Option Addr) (fc: Nat) (zs: List Fv) (hi: FrIn w0 wf x q base M ha hc hs na nc ns fa fc zs): ∀ n k,x.body.length - k = n → k ≤ x.body.length → FrAt w0 wf x q base M ha hc hs na nc ns fa fc zs k
 | 0,k,h1,h2 => by
  obtain rfl: k = x.body.length:= by omega
  intro w ea ec e oa oc ys c hb _ hbase hq hc0 he hel ho hk hM
  rw [List.drop_length] at hM ⊢
  exact from_nil w0 wf x q base M ha hc hs na nc ns fa fc zs hi w ea ec e oa oc ys c hb hbase hq hc0 he ho hk hM
 | n + 1,k,h1,h2 => from_cons w0 wf x q base M ha hc hs na nc ns fa fc zs hi k (by omega) (from_at w0 wf x q base M ha hc hs na nc ns fa fc zs hi n (k + 1) (by omega) (by omega))
structure RIn (w0 w: World) (q: Nat) (ra: Option Addr) (rc: Nat) (rs: List Rv) (ha: Option Addr) (hc: Nat) (hs: List (List UInt8)) (na: Option Addr) (nc: Nat) (ns: List (List UInt8)) (fa: Option Addr) (fc: Nat) (zs: List Fv): Prop where
 rules: Rws w0 ra rc rs
 smr: ∀ r ∈ rs,SmR r
 homes: Row sK w0 ha hc hs
 names: Row sK w0 na nc ns
 facts: ∀ W,But q w W → Fts W fa fc zs
 zl: zs.length ≤ 1000000
 most: rs.length * hs.length ≤ 1000000
theorem RIn.fr {w0 w: World} {q: Nat} {ra: Option Addr} {rc: Nat} {rs: List Rv} {ha: Option Addr} {hc: Nat} {hs: List (List UInt8)} {na: Option Addr} {nc: Nat} {ns: List (List UInt8)} {fa: Option Addr} {fc: Nat} {zs: List Fv} (h: RIn w0 w q ra rc rs ha hc hs na nc ns fa fc zs) {x: Rv} (hx: x ∈ rs) {base: Nat} (h1: w0.heap.size ≤ q) (h2: q < base): FrIn w0 w x q base 1000000000 ha hc hs na nc ns fa fc zs:=
 ⟨h.rules.each x hx,h.smr x hx,h.facts,h.zl,h.names,h1,h2,Nat.le_refl _⟩
theorem byRule_take {d: Ml.Wd} {m: List F} {rs: List Rv} {i: Nat} (hi: i < rs.length) (st: Ml.Cn × List F): ((rs.map Rv.r).take (i + 1)).foldl (Ml.byRule d m) st = Ml.byRule d m (((rs.map Rv.r).take i).foldl (Ml.byRule d m) st) rs[i].r:= by
 rw [List.take_succ_eq_append_getElem (by simpa using hi),List.foldl_append];simp
theorem byHome_take {d: Ml.Wd} {m: List F} {r: Ru} {hs: List (List UInt8)} {j: Nat} (hj: j < hs.length) (st: Ml.Cn × List F): (hs.take (j + 1)).foldl (Ml.byHome d r m) st = Ml.byHome d r m ((hs.take j).foldl (Ml.byHome d r m) st) hs[j]:= by
 rw [List.take_succ_eq_append_getElem hj,List.foldl_append];rfl
theorem byHome_no {d: Ml.Wd} {m: List F} {r: Ru} {h: List UInt8} {st: Ml.Cn × List F} (hu: Mt.uni r.home (Mt.nm h) [] = none): Ml.byHome d r m st h = st:= by unfold Ml.byHome;rw [hu]
theorem byHome_yes {d: Ml.Wd} {m: List F} {r: Ru} {h: List UInt8} {st: Ml.Cn × List F} {e: Mt.Env} (hu: Mt.uni r.home (Mt.nm h) [] = some e): Ml.byHome d r m st h = Ml.frm d r m r.body e st:= by unfold Ml.byHome;rw [hu]
structure OnAns (w: World) (q: Nat) (ha: Option Addr) (hc: Nat) (hs: List (List UInt8)) (na: Option Addr) (nc: Nat) (ns: List (List UInt8)) (l: List Ru) (m: List F) (c: Ml.Cn) (en: Ending) (w': World): Prop where
 ans: ∃ oa oc us c',en = .returned (.slice oa (List.length us) oc) ∧ OwF w' w.heap.size oa oc us ∧ EachK w' us ∧ Wq w' q ha hc hs na nc ns c' ∧ Ml.onceR ⟨hs,ns⟩ l m c = (c',us.map Fv.f) ∧ us.length ≤ 1060001
 but: But q w w'
theorem ronce_at (w0: World) (q: Nat) (ra: Option Addr) (rc: Nat) (rs: List Rv) (ha: Option Addr) (hc: Nat) (hs: List (List UInt8)) (na: Option Addr) (nc: Nat) (ns: List (List UInt8)) (fa: Option Addr) (fc: Nat) (zs: List Fv) (c: Ml.Cn) (w: World) (hi: RIn w0 w q ra rc rs ha hc hs na nc ns fa fc zs) (hb: Below w0.heap.size w0 w) (hq0: w0.heap.size ≤ q) (hq: Wq w q ha hc hs na nc ns c) (hc0: c.Ok):
 Calls Tryz.prog 35 #[ptr q,.slice ra rs.length rc,.slice fa zs.length fc] w (OnAns w q ha hc hs na nc ns (rs.map Rv.r) (zs.map Fv.f) c):= by
 have mixed: Tryz.prog.follows .mixedOrders = true:= by kernel_rfl
 have hqb: q < w.heap.size:= heap_lt hq
 have fewr:= hi.rules.row.few
 have fewh:= hi.homes.few
 have HM:= hideP hi.most
 have HI:= hideP hi
 have HC:= hideP hc0
 clear hi hc0
 go_enter Tryz.func35,Tryz.ntmps35
 go_wp2_with fail
 go_loopw [7,8] (fun v7 v8 wr => ∃ (i: Nat) (us: List Fv) (a2: Option Addr) (m2: Nat) (c2: Ml.Cn),v7 = .slice a2 (List.length us) m2 ∧ v8 = .int .i64 (i: Int) ∧ i ≤ rs.length ∧ OwF wr w.heap.size a2 m2 us ∧ EachK wr us ∧ Wq wr q ha hc hs na nc ns c2 ∧ Hid (c2.Ok) ∧ Hid (us.length ≤ i * hs.length + c2.done) ∧ Hid (((rs.map Rv.r).take i).foldl (Ml.byRule ⟨hs,ns⟩ (zs.map Fv.f)) (c,[]) = (c2,us.map Fv.f)) ∧ But q w wr) (fun _ v8 _ => rs.length - (RowKit.intOf v8).toNat)
 case atStart => exact ⟨0,[],none,0,c,rfl,rfl,Nat.zero_le _,OwF.nil _ _,(fun _ h => by cases h),hq,HC,by show _ ≤ _;simp,rfl,But.refl _ _⟩
 case round =>
  obtain ⟨i,us,a2,m2,c2,rfl,rfl,hil,OF,EK,WQ,CO,LM,FO,BT⟩:= hrel
  clear hq
  by_cases hlt: i < rs.length
  ·have q2: (i: Int) < (rs.length: Int):= by omega
   obtain ⟨P1,O1,rfl⟩:= HI.out.rules.row.addr (by omega)
   have LR: Hid (∀ W,Below w0.heap.size w0 W → W.rangeAt P1 (O1 + i * 11) (rv (rs[i]'hlt))):= fun W h => (HI.out.rules.row.below h (Nat.le_refl _)).range i hlt
   have hrm: Hid ((rs[i]'hlt) ∈ rs):= List.getElem_mem hlt
   have BTK:= byRule_take (d:= ⟨hs,ns⟩) (m:= zs.map Fv.f) hlt (c,[])
   rw [FO.out] at BTK
   have HTK:= hideP BTK
   clear BTK FO
   generalize (rs[i]'hlt) = x at *
   go_wp2_with fail
   go_loopw [7,9] (fun v7 v9 wi => ∃ (j: Nat) (ut: List Fv) (a3: Option Addr) (m3: Nat) (c3: Ml.Cn),v7 = .slice a3 (List.length ut) m3 ∧ v9 = .int .i64 (j: Int) ∧ j ≤ hs.length ∧ OwF wi w.heap.size a3 m3 ut ∧ EachK wi ut ∧ Wq wi q ha hc hs na nc ns c3 ∧ Hid (c3.Ok) ∧ Hid (ut.length ≤ i * hs.length + j + c3.done) ∧ Hid ((hs.take j).foldl (Ml.byHome ⟨hs,ns⟩ x.r (zs.map Fv.f)) (c2,us.map Fv.f) = (c3,ut.map Fv.f)) ∧ But q w wi) (fun _ v9 _ => hs.length - (RowKit.intOf v9).toNat)
   case atStart => exact ⟨0,us,a2,m2,c2,rfl,rfl,Nat.zero_le _,OF,EK,WQ,CO,by show _ ≤ _;have:= LM.out;omega,rfl,BT⟩
   case round =>
    obtain ⟨j,ut,a3,m3,c3,rfl,rfl,hjl,OF3,EK3,WQ3,CO3,LM3,FO3,BT3⟩:= hrel
    clear OF EK WQ BT LM CO
    have BW3: Below w0.heap.size w0 wr:= hb.trans (BT3.lower hq0 hb.size)
    have d0: wr.cell? ⟨q,0,none⟩ = some (.slice ha hs.length hc):= by rw [heap_cell WQ3];rfl
    by_cases hjt: j < hs.length
    ·have q3: (j: Int) < (hs.length: Int):= by omega
     obtain ⟨P2,O2,rfl⟩:= HI.out.homes.addr (by omega)
     have HHm: Hid (∀ W,Below w0.heap.size w0 W → W.cell? ⟨P2,O2 + j,none⟩ = some (str (hs[j]'hjt))):= fun W h => (HI.out.homes.below h (Nat.le_refl _)).text j hjt
     have BTK:= byHome_take (d:= ⟨hs,ns⟩) (m:= zs.map Fv.f) (r:= x.r) hjt (c2,us.map Fv.f)
     rw [FO3.out] at BTK
     have HTH:= hideP BTK
     clear BTK FO3
     generalize (hs[j]'hjt) = home at *
     have K2: ∀ W,Below wr.heap.size wr W → (W.cell? ⟨P1,O1 + i * 11,none⟩ = some (str x.home.v) ∧ W.cell? ⟨P1,O1 + i * 11 + 1,none⟩ = some (.bool x.home.k.num) ∧ W.cell? ⟨P1,O1 + i * 11 + 2,none⟩ = some (.int .i64 x.home.k.n) ∧ W.cell? ⟨P1,O1 + i * 11 + 3,none⟩ = some (str x.home.k.s) ∧ W.cell? ⟨q,0,none⟩ = some (.slice (some ⟨P2,O2,none⟩) hs.length hc) ∧ W.cell? ⟨P2,O2 + j,none⟩ = some (str home)):= fun W h => by
      have hw0:= BW3.trans (h.mono BW3.size)
      have r:= LR.out W hw0
      exact ⟨r 0 _ rfl,r 1 _ rfl,r 2 _ rfl,r 3 _ rfl,by rw [heap_cell (below_heap h WQ3)];rfl,HHm.out W hw0⟩
     have HK2:= hideP K2
     have GD:= (Below.refl wr.heap.size wr).drew
     have TN:= hideP (fun W => rName_at home W)
     have TU:= hideP (fun W => rUnify_at x.home (Mt.nm home) none 0 [] W (Row.nil _ _) (by simp))
     clear K2
     go_wp2_with fail
     go_region_held3 (fun W => W.cell? ⟨P1,O1 + i * 11,none⟩ = some (str x.home.v) ∧ W.cell? ⟨P1,O1 + i * 11 + 1,none⟩ = some (.bool x.home.k.num) ∧ W.cell? ⟨P1,O1 + i * 11 + 2,none⟩ = some (.int .i64 x.home.k.n) ∧ W.cell? ⟨P1,O1 + i * 11 + 3,none⟩ = some (str x.home.k.s) ∧ W.cell? ⟨q,0,none⟩ = some (.slice (some ⟨P2,O2,none⟩) hs.length hc) ∧ W.cell? ⟨P2,O2 + j,none⟩ = some (str home)) (first | with_reducible exact HK2.out _ GD | with_reducible exact HK2.out _ G1 | with_reducible exact HK2.out _ G2) (first
      | (go_at_call 60;refine (TN.out _).mono ?_;rintro e1 w1 ⟨rfl,b1⟩;have G1:= Below.then GD b1)
      | (go_at_call 59;refine (TU.out _).mono ?_;rintro e2 w2 ⟨⟨a9,c9,rfl,E9⟩,b2⟩;have G2:= Below.then G1 b2))
     have T9: But q w w2:= BT3.trans (But.of_below G2)
     have WQ9:= WQ3.next G2
     have OF9:= OF3.below G2
     have EK9:= EK3.safe (Safe.below G2: Safe 42 _ _)
     have BW9: Below w0.heap.size w0 w2:= hb.trans (T9.lower hq0 hb.size)
     clear TN TU HK2 GD b1 b2 d0
     rcases uni_two x.home (Mt.nm home) [] with ⟨u1,u2,u3⟩ | ⟨e1,u1,u2,u3,u4⟩
     ·rw [u3]
      have FO:= hideP (HTH.out.trans (byHome_no u1))
      clear u1 u2 u3
      go_wp2_with fail
      exact ⟨⟨j + 1,ut,a3,m3,c3,rfl,by go_num,by omega,OF9,EK9,WQ9,CO3,by show _ ≤ _;have:= LM3.out;omega,FO,T9⟩,by simp [RowKit.intOf];omega⟩
     ·rw [u3]
      rw [u2] at E9 ⊢
      have FO:= HTH.out.trans (byHome_yes u1)
      have MX: i * hs.length + j ≤ 1000000:= by
       have h1:= HM.out
       have h2: (i + 1) * hs.length ≤ rs.length * hs.length:= Nat.mul_le_mul_right _ hlt
       rw [Nat.succ_mul] at h2
       omega
      have TF:= hideP (from_at w0 w x q w.heap.size 1000000000 (some ⟨P2,O2,none⟩) hc hs na nc ns fa fc zs (HI.out.fr hrm.out hq0 hqb) x.body.length 0 (by omega) (Nat.zero_le _) w2 a9 c9 e1 a3 m3 ut c3 BW9 T9 T9.size WQ9 CO3.out E9 (by simpa using u4) OF9 EK9 (by have h1:= LM3.out;have h2:= Ml.cr_le ((x.body.drop 0).map Lv.l);omega))
      rw [List.drop_zero] at TF
      have r2:= LR.out w2 BW9
      have iQ: (Tryz.prog.info? 48).map (·.size) = some (rv x).length:= iR11
      have HFO:= hideP FO
      clear u1 u2 u3 u4 FO MX
      go_wp2_with (refine wpList_load_mid rfl 48 _ rfl P1 (O1 + i * 11) rfl (rv x) _ r2 Tryz.underlying48 rfl iQ ?_)
      refine TF.out.mono ?_
      rintro e10 w10 ⟨⟨a10,m10,us10,c10,rfl,OF10,EK10,WQ10,F10⟩,BT10⟩
      have T10:= T9.trans BT10
      have CO10: c10.Ok:= by
       have h:= Ml.frm_ok (w:= ⟨hs,ns⟩) (r:= x.r) (m:= zs.map Fv.f) (x.body.map Lv.l) e1 (st:= (c3,ut.map Fv.f)) CO3.out
       rw [F10] at h;exact h
      have LM10: us10.length ≤ i * hs.length + (j + 1) + c10.done:= by
       have h:= Ml.frm_len (w:= ⟨hs,ns⟩) (r:= x.r) (m:= zs.map Fv.f) (x.body.map Lv.l) e1 (c3,ut.map Fv.f)
       rw [F10] at h
       have h1:= LM3.out
       have h2:= Ml.cr_le (x.body.map Lv.l)
       simp only [List.length_map] at h
       omega
      have FO10:= hideP (HFO.out.trans F10)
      have H10:= hideP CO10
      have L10:= hideP LM10
      clear CO10 LM10 F10 TF
      go_wp2_with fail
      exact ⟨⟨j + 1,us10,a10,m10,c10,rfl,by go_num,by omega,OF10,EK10,WQ10,H10,L10,FO10,T10⟩,by simp [RowKit.intOf];omega⟩
    ·have q3: ¬ (j: Int) < (hs.length: Int):= by omega
     obtain rfl: j = hs.length:= by omega
     have FO:= FO3.out
     rw [List.take_length] at FO
     have HF:= hideP (HTK.out.trans FO)
     have LL: Hid (ut.length ≤ (i + 1) * hs.length + c3.done):= by show _ ≤ _;have:= LM3.out;rw [Nat.succ_mul];omega
     clear FO FO3
     go_wp2_with fail
     exact ⟨⟨i + 1,ut,a3,m3,c3,rfl,by go_num,by omega,OF3,EK3,WQ3,CO3,LL,HF,BT3⟩,by simp [RowKit.intOf];omega⟩
  ·have q2: ¬ (i: Int) < (rs.length: Int):= by omega
   have FIN:= FO.out
   rw [show i = (rs.map Rv.r).length by rw [List.length_map];omega,List.take_length] at FIN
   have HF:= hideP FIN
   have LL: Hid (us.length ≤ 1060001):= by show _ ≤ _;have h1:= LM.out;have h2:= CO.out.most;have h3:= HM.out;have h4: i * hs.length ≤ rs.length * hs.length:= Nat.mul_le_mul_right _ hil;omega
   clear FIN FO
   go_wp2_with fail
   go_ret
   exact ⟨⟨a2,m2,us,c2,rfl,OF,EK,WQ,HF.out,LL.out⟩,BT⟩
end Go.Proofs.YtpdmmmdkpipmkaaGreatDoor
