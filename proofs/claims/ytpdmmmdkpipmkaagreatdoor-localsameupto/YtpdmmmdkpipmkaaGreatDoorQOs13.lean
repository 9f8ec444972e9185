/-
  The program's isRemote, relay, variables; slices.Clone of terms.
-/
import Derived.Deep.RegionHeld3
import Derived.Test.YtpdmmmdkpipmkaaGreatDoorQVb
import Derived.Test.YtpdmmmdkpipmkaaGreatDoorQVc
import Derived.Test.YtpdmmmdkpipmkaaGreatDoorQLd
import Derived.Test.YtpdmmmdkpipmkaaGreatDoorQLw
import Derived.Test.YtpdmmmdkpipmkaaGreatDoorQE8
import Derived.Test.YtpdmmmdkpipmkaaGreatDoorQLb
import Derived.Test.YtpdmmmdkpipmkaaGreatDoorQBt
set_option maxRecDepth 100000
set_option maxHeartbeats 800000
namespace Go.Proofs.YtpdmmmdkpipmkaaGreatDoor
open Go.RowKit Go.Lib Go.Shelf
theorem Tryz.iTk13: (Tryz.prog.info? 44).map (fun i => (i.zero,i.size,i.bytes)) = some (some (.agg #[.string .empty,.bool false,.int .i64 0,.string .empty]),tK.k,48):= by kernel_rfl
theorem Tryz.iLk13: (Tryz.prog.info? 52).map (fun i => (i.zero,i.size,i.bytes)) = some (some (.agg #[.string .empty,.bool false,.int .i64 0,.string .empty,.string .empty,.slice none 0 0,.string .empty,.bool false,.int .i64 0,.string .empty]),lK.k,136):= by kernel_rfl
theorem Tryz.iRk13: (Tryz.prog.info? 48).map (fun i => (i.zero,i.size,i.bytes)) = some (some (.agg #[.string .empty,.bool false,.int .i64 0,.string .empty,.string .empty,.slice none 0 0,.string .empty,.bool false,.int .i64 0,.string .empty,.slice none 0 0]),rK.k,160):= by kernel_rfl
theorem eqT_same (a b: Tm): sameT a b = Lc.eqT a b:= by
 rw [Bool.eq_iff_iff,sameT_iff,Lc.eqT_iff]
theorem own_rowO {α: Type} {D: Kd α} {ty: TypeId} {w: World} {base: Nat} {v: Value} {n: Nat} {xs: List α} (h: w.ownsRow base ty D.k v n (xs.flatMap D.enc)) (hf: xs.length ≤ 4398046510976): ∃ a c,v = .slice a xs.length c ∧ RowT D ty w a c xs:= by
 obtain ⟨a,c,h1,h2,_⟩:= own_row h hf
 exact ⟨a,c,h1,h2⟩
theorem cloneT_at (a: Option Addr) (c: Nat) (xs: List Tm) (w: World) (hl: Row tK w a c xs) (few: xs.length ≤ 1000000):
 Calls Tryz.prog 47 #[.slice a xs.length c] w fun e w' => (∃ a' c',e = .returned (.slice a' xs.length c') ∧ RowT tK 44 w' a' c' xs) ∧ Below w.heap.size w w':= by
 have hnil: ∀ (w: World) (a: Option Addr) (n c: Nat),(binOp .eql 45 (.slice a n c) (.slice none 0 0)).run Tryz.prog w = .ok (.bool a.isNone) w:= fun w a n c => Lib.run_eql_slice_nil w 45 _ a n c 0 0 Tryz.underlying45
 cases a with
 | none =>
  obtain ⟨rfl,rfl⟩:= hl.void rfl
  go_enter Tryz.func47,Tryz.ntmps47
  go_wp2_with fail
  go_ret
  exact ⟨⟨none,0,rfl,RowT.nil _ _ _⟩,Below.refl _ _⟩
 | some ad =>
  have O1:= owns_lit tK w 44 #[] [] rfl (by simp)
  have A1:= below_alloc w (.cells #[] 44)
  have L1:= hl.below A1 (Nat.le_refl _)
  go_enter Tryz.func47,Tryz.ntmps47
  go_wp2_with (at_builtin;refine wpList_append_rec tK _ rfl _ _ 45 44 rfl _ 48 Tryz.underlying45 Tryz.iTk13 rfl (by decide) w.heap.size (.slice (some ⟨w.heap.size,0,none⟩) 0 0) [] xs (some ad) xs.length c rfl O1 rfl rfl L1 A1.size (by simp only [List.length_nil];omega) ?ap)
  case ap =>
   intro v w2 ho hg
   obtain ⟨a2,c2,rfl,R2⟩:= own_rowO (D:= tK) (xs:= [] ++ xs) ho (by simp only [List.nil_append];omega)
   have B2: Below w.heap.size w w2:= A1.trans (own_below O1 hg A1.size)
   go_wp2_with fail
   go_ret
   exact ⟨⟨a2,c2,rfl,R2⟩,B2⟩
theorem isRemote_at (y: Lv) (h: Tm) (w: World):
 Calls Tryz.prog 43 #[lval y,tval h] w fun e w' => e = .returned (.bool (!Lc.eqT y.at_ t0 && !Lc.eqT y.at_ h)) ∧ Below w.heap.size w w':= by
 have E1:= fun W => eqTerm y.at_ ⟨[],⟨false,0,[]⟩⟩ W
 have E2:= fun W => eqTerm y.at_ h W
 have e1: sameT y.at_ ⟨[],⟨false,0,[]⟩⟩ = Lc.eqT y.at_ t0:= eqT_same _ _
 have e2:= eqT_same y.at_ h
 simp only [e1] at E1
 simp only [e2] at E2
 clear e1 e2
 have A0:= Below.then (below_alloc w (.cells (lv y).toArray 52)) (below_alloc _ (.cells (tv h).toArray 44))
 generalize Lc.eqT y.at_ t0 = q1 at *
 generalize Lc.eqT y.at_ h = q2 at *
 obtain ⟨⟨v1,⟨a1,b1,c1⟩⟩,p,ad,cap,ts,⟨v2,⟨a2,b2,c2⟩⟩⟩:= y
 obtain ⟨v3,⟨a3,b3,c3⟩⟩:= h
 cases q1 with
 | true =>
  go_enter Tryz.func43,Tryz.ntmps43
  go_wp2_with fail
  go_ret
  exact ⟨rfl,A0⟩
 | false =>
  go_enter Tryz.func43,Tryz.ntmps43
  go_wp2_with fail
  go_ret
  exact ⟨rfl,A0⟩
theorem cat13 (a b: List UInt8): ∃ c: List UInt8,Hid (c = a ++ b) ∧ (⟨a.toArray⟩: ByteArray) ++ ⟨b.toArray⟩ = ⟨c.toArray⟩ ∧ (⟨c.toArray⟩: ByteArray).size = c.length ∧ c.length = a.length + b.length:=
 ⟨a ++ b,rfl,(by apply ByteArray.ext;simp),str_size _,List.length_append⟩
theorem Lc.dec_len: ∀ (u: Nat),u ≤ 1000000 → (Lib.decDigits u).length ≤ 21:= fun u hu => by
 have:= Lib.itoa_length_le (u: Int) (by omega) (by omega)
 unfold Lib.itoa at this
 rw [if_neg (by omega)] at this
 simpa using this
theorem itoa_nat (n: Nat): Lib.itoa (n: Int) = Lib.decDigits n:= by
 unfold Lib.itoa;rw [if_neg (by omega)];simp
theorem relay_at (v: List UInt8) (i k: Nat) (w: World) (hL: Laid w) (hv: v.length ≤ 10) (hi: i ≤ 1000000) (hk: k ≤ 1000000):
 Calls Tryz.prog 45 #[str v,.int .i64 (i: Int),.int .i64 (k: Int)] w fun e w' => e = .returned (str (126:: (v ++ Lc.nms i k))) ∧ Below w.heap.size w w':= by
 have I1:= hideP (itoa_at (i: Int) w (by omega) (by omega) hL)
 have I2:= hideP (fun W (h: Laid W) => itoa_at (k: Int) W (by omega) (by omega) h)
 have e1: Lib.itoa (i: Int) = Lib.decDigits i:= itoa_nat i
 have e2: Lib.itoa (k: Int) = Lib.decDigits k:= itoa_nat k
 rw [e1] at I1
 rw [e2] at I2
 have di:= Lc.dec_len i hi
 have dk:= Lc.dec_len k hk
 obtain ⟨s1,h1,q1,z1,n1⟩:= cat13 [126] v
 obtain ⟨s2,h2,q2,z2,n2⟩:= cat13 s1 (Lib.decDigits i)
 obtain ⟨s3,h3,q3,z3,n3⟩:= cat13 s2 [46]
 obtain ⟨s4,h4,q4,z4,n4⟩:= cat13 s3 (Lib.decDigits k)
 have HS: Hid (126:: (v ++ Lc.nms i k) = s4):= by
  show _ = _
  rw [h4.out,h3.out,h2.out,h1.out]
  simp [Lc.nms]
 simp only [List.length_cons,List.length_nil] at n1 n3
 have zv:= str_size v
 have zi:= str_size (Lib.decDigits i)
 have zk:= str_size (Lib.decDigits k)
 have q1': (⟨#[126]⟩: ByteArray) ++ ⟨v.toArray⟩ = ⟨s1.toArray⟩:= q1
 have q3': (⟨s2.toArray⟩: ByteArray) ++ ⟨#[46]⟩ = ⟨s3.toArray⟩:= q3
 generalize Lib.decDigits i = D1 at *
 generalize Lib.decDigits k = D2 at *
 clear h1 h2 h3 h4 q1 q3 e1 e2
 go_enter Tryz.func45,Tryz.ntmps45
 go_wp2_with fail
 refine I1.out.mono ?_
 rintro e w1 ⟨rfl,b1⟩
 go_wp2_with fail
 refine (I2.out w1 (hL.below b1)).mono ?_
 rintro e w2 ⟨rfl,b2⟩
 go_wp2_with fail
 go_ret
 rw [HS.out]
 exact ⟨rfl,Below.then b1 b2⟩
theorem variables_at (x: Rv) (k: Nat) (w: World) (hx: Rv.Aw w x) (hv: Ck.Vok x.r):
 Calls Tryz.prog 46 #[rval x,.int .i64 (k: Int)] w fun e w' => (∃ a c,e = .returned (.slice a (Lc.vts (Ck.bnd x.r k)).length c) ∧ RowT tK 44 w' a c (Lc.vts (Ck.bnd x.r k))) ∧ Below w.heap.size w w':= by
 have A0:= below_alloc w (.cells (rv x).toArray 48)
 have H0:= heap_alloc_new w (.cells (rv x).toArray 48)
 have T:= hideP (bound_at x (k: Int) _ (hx.below A0 (Nat.le_refl _)) hv)
 rw [Int.toNat_natCast] at T
 have few: (Ck.bnd x.r k).length ≤ 1000000:= Nat.le_trans (Ck.bnd_all_len hv k) (by decide)
 generalize Ck.bnd x.r k = B at *
 go_enter Tryz.func46,Tryz.ntmps46
 go_wp2_with (refine wpList_load_all rfl 48 _ rfl w.heap.size 11 48 (rv x) _ rfl H0 rfl Tryz.underlying48 rfl Tryz.iR11 ?_)
 refine T.out.mono ?_
 rintro e w1 ⟨⟨a1,c1,rfl,r1⟩,b1⟩
 have B1:= Below.then A0 b1
 clear T A0 H0 b1
 go_wp2_with fail
 go_loopw [5,7,12] (fun v5 _ v12 wr => ∃ j: Nat,v12 = .int .i64 (j: Int) ∧ j ≤ B.length ∧ wr.ownsRow w1.heap.size 44 tK.k v5 (Lc.vts (B.take j)).length ((Lc.vts (B.take j)).flatMap tK.enc) ∧ Below w1.heap.size w1 wr) (fun _ _ v12 _ => B.length - (RowKit.intOf v12).toNat)
 case atStart => exact ⟨0,rfl,Nat.zero_le _,World.ownsRow_nil _ _ _ _,Below.refl _ _⟩
 case round =>
  obtain ⟨j,rfl,hj,O,D⟩:= hrel
  have lj: (Lc.vts (B.take j)).length = j:= by simp [Lc.vts];omega
  obtain ⟨a2,c2,rfl,R2⟩:= own_rowO (D:= tK) O (by omega)
  by_cases hlt: j < B.length
  ·have q: (j: Int) < (B.length: Int):= by omega
   obtain ⟨P1,O1,rfl⟩:= r1.addr (Nat.lt_of_le_of_lt (Nat.zero_le _) hlt)
   have r2: wr.cell? ⟨P1,O1 + j * 1,none⟩ = some (str (B[j]'hlt)):= (r1.below D (Nat.le_refl _)).range j hlt 0 _ rfl
   rw [Nat.mul_one] at r2
   have ST: Lc.vts (B.take (j + 1)) = Lc.vts (B.take j) ++ [⟨B[j]'hlt,k0⟩]:= by
    show (B.take (j + 1)).map _ = (B.take j).map _ ++ [_]
    rw [List.take_succ_eq_append_getElem hlt,List.map_append];rfl
   have HST:= hideP ST
   clear ST
   generalize (B[j]'hlt) = s at *
   have A3:= below_alloc wr (.cells (tv ⟨s,k0⟩).toArray 44)
   have O3:= ownsRow_keep O (Safe.below A3: Safe 44 _ _)
   have R3: Row tK (wr.alloc (.cells (tv ⟨s,k0⟩).toArray 44)) (some ⟨wr.heap.size,0,none⟩) 1 [⟨s,k0⟩]:= row_new tK wr _ _ ⟨s,k0⟩ rfl
   have hb3:= Nat.le_trans D.size A3.size
   go_wp2_with (first | (refine wpList_build_one rfl 45 44 _ rfl (tv ⟨s,k0⟩) _ 4 48 rfl rfl (by decide) (by decide) Tryz.underlying45 Tryz.iTk13 ?_) | (at_builtin;refine wpList_append_rec tK _ rfl _ _ 45 44 rfl _ 48 Tryz.underlying45 Tryz.iTk13 rfl (by decide) w1.heap.size _ (Lc.vts (B.take j)) [⟨s,k0⟩] (some ⟨wr.heap.size,0,none⟩) 1 1 rfl O3 rfl rfl R3 hb3 (by simp only [List.length_cons,List.length_nil];omega) ?_;intro v4 w4 O4 g4))
   exact ⟨⟨j + 1,by go_num,by omega,by rw [HST.out];exact O4,(D.trans (A3.mono D.size)).trans (own_below O3 g4 hb3)⟩,by simp [RowKit.intOf];omega⟩
  ·have q: ¬ (j: Int) < (B.length: Int):= by omega
   obtain rfl: j = B.length:= by omega
   rw [List.take_length] at R2
   go_wp2_with fail
   go_ret
   exact ⟨⟨a2,c2,rfl,R2⟩,Below.then B1 D⟩
end Go.Proofs.YtpdmmmdkpipmkaaGreatDoor
namespace Go.Proofs.YtpdmmmdkpipmkaaGreatDoor
open Go.RowKit Go.Lib Go.Shelf
theorem wpOp_of {P: Program} {ops: Array Oper} {Q: Exit → Act → World → Prop} {i: Nat} {K: Act → World → Prop} {a: Act} {w: World} {o: Oper} (hi: ops[i]? = some o) (hgd: o.guard = none) (h: o.wp P a w K Q): wpOp P ops Q i K a w:= by
 unfold wpOp
 simp only [hi]
 rw [if_pos (by unfold Region.wanted;rw [hgd])]
 exact .inl h
theorem wpOp_build_one {P: Program} {ops: Array Oper} {Q: Exit → Act → World → Prop} {i: Nat} {K: Act → World → Prop} {a: Act} {w: World} {o: Oper} (hix: ops[i]? = some o) (hgd: o.guard = none) (t e: TypeId) (x: Operand) (ho: o.op = .buildSlice t 1 #[(0,x)])
 (vs: List Value) (z: Value) (k bytes: Nat) (hx: a.eval x = .agg vs.toArray) (hk: vs.length = k) (hk0: 0 < k) (hk1: k ≤ 1000)
 (hu: P.underlying t = some (.slice e)) (hi: (P.info? e).map (fun i => (i.zero,i.size,i.bytes)) = some (some z,k,bytes))
 (h: K (a.put o.dst (.slice (some ⟨w.heap.size,0,none⟩) 1 1)) (w.alloc (.cells vs.toArray e))): wpOp P ops Q i K a w:= by
 refine wpOp_of hix hgd ?_
 obtain ⟨i0,h0,h1,h2,h3⟩:= info_parts hi
 refine wp_buildSlice t e 1 _ ho _ i0 z hu h0 h1 (by rw [h2];omega) (by rw [h2];omega) ?_ h
 rw [h2]
 generalize hC: (Array.range (1 * k)).map (z.cells[· % z.cells.size]!) = C
 have hs: C.size = k:= by rw [← hC];simp
 have e1: ((#[(0,x)]: Array (Nat × Operand)).map fun (i,x) => (i,a.eval x)).toList = [(0,.agg vs.toArray)]:= by simp [hx]
 rw [e1]
 have hc: (Value.agg vs.toArray).cells = vs.toArray:= rfl
 unfold Instr.fill
 simp only [hc,List.size_toArray,hk]
 rw [if_neg (by simp [hs])]
 unfold Instr.fill
 have hz: vs.toArray.zipIdx = (vs.zipIdx 0).toArray:= by simp
 rw [hz]
 simp only [List.foldl_toArray']
 have:= fold_splice vs 0 C
 simp only [Nat.zero_mul] at *
 rw [show (fun (cs: Array Value) (x: Value × Nat) => match x with | (c,j) => cs.setIfInBounds (0 + j) c) = fun cs x => cs.setIfInBounds (0 + x.2) x.1 from rfl]
 rw [this,splice_all C vs (by omega)]
theorem wpOp_call {P: Program} {ops: Array Oper} {Q: Exit → Act → World → Prop} {i: Nat} {K: Act → World → Prop} {a: Act} {w: World} {o: Oper} {f: FuncId} {args: Array Value} {R: Value → World → Prop} (hi: ops[i]? = some o) (hgd: o.guard = none)
 (he: (execOp a.eval o).run P w = .ok (.enter f args) w) (hc: Calls P f args w fun e w' => ∃ v,e = .returned v ∧ R v w') (h: ∀ v w',R v w' → K (a.put o.dst v) w'): wpOp P ops Q i K a w:= by
 refine wpOp_of hi hgd ?_
 unfold Oper.wp
 rw [he]
 exact hc.mono fun e w' ⟨v,h1,h2⟩ => by subst h1;exact h v w' h2
theorem yieldsIf_load_cel {P: Program} {ops: Array Oper} {S: World → Prop} {op: Oper} {a: Act} (hw: Region.wanted op (yielded ops a.tmps) = true) (ty: TypeId) (x: Operand) (ho: op.op = .load ty x) (V off: Nat) (v: Value) (hx: a.eval x = .pointer (some ⟨V,off,none⟩))
 (hag: ∀ w,(isAgg ty).run P w = .ok false w) (hc: ∀ w,S w → w.cell? ⟨V,off,none⟩ = some v): YieldsIf P ops S op v a:=
 .inl ⟨hw,fun w hS => by
  have:= hc w hS
  simp [execOp,ho,hx,Instr.loadAt,Instr.sureAddr,loadVar,hag,this,Result.andThen]⟩
theorem wpAnyH_one {P: Program} {md: Region.Mode} {ops: Array Oper} {Q: Exit → Act → World → Prop} {S: World → Prop} (i: Nat) {fuel: Nat} {listed: Array Bool} {a: Act} {w: World} (hr: Region.ready md ops listed = [i])
 (h: wpOp P ops Q i (fun a' w' => S w' ∧ wpAnyH P md ops Q S fuel (listed.setIfInBounds i true) a' w') a w): wpAnyH P md ops Q S (fuel + 1) listed a w:=
 wpAnyH_all hr (by simp) (fun j hj => by rw [List.mem_singleton.1 hj];exact h)
theorem yieldsIf_load_mid {P: Program} {ops: Array Oper} {S: World → Prop} {op: Oper} {a: Act} (hw: Region.wanted op (yielded ops a.tmps) = true) (ty: TypeId) (x: Operand) (ho: op.op = .load ty x) (b off: Nat) (V: List Value) (d: TypeDesc) (hx: a.eval x = .pointer (some ⟨b,off,none⟩))
 (hu: P.underlying ty = some d) (hd: d.isRow = true) (hi: (P.info? ty).map (·.size) = some V.length) (hc: ∀ w,S w → w.rangeAt b off V): YieldsIf P ops S op (.agg V.toArray) a:=
 .inl ⟨hw,fun w hS => by
  have:= run_loadVar_mid w b off ty V d (hc w hS) hu hd hi
  simp [execOp,ho,hx,Instr.loadAt,Instr.sureAddr,this,Result.andThen]⟩
theorem wpOp_append_recN {α: Type} {P: Program} (D: Kd α) {ops: Array Oper} {Q: Exit → Act → World → Prop} {i: Nat} {K: Act → World → Prop} {a: Act} {w: World} {o: Oper} (hix: ops[i]? = some o) (hgd: o.guard = none) (s x: Operand) (t e: TypeId)
 (ho: o.op = .call { callee:= .builtin .append,args:= #[s,x],argTypes:= #[t,t] }) (z: Value) (bytes: Nat) (ht: P.underlying t = some (.slice e)) (hinfo: (P.info? e).map (fun i => (i.zero,i.size,i.bytes)) = some (some z,D.k,bytes)) (hzs: z.cells.size = D.k)
 (base: Nat) (v: Value) (ys xs: List α) (ao: Option Addr) (m c: Nat) (hs: a.eval s = v) (hown: w.ownsRow base e D.k v ys.length (ys.flatMap D.enc)) (hx: a.eval x = .slice ao m c) (hm: xs.length = m) (hl: Row D w ao c xs) (hbase: base ≤ w.heap.size)
 (hfew: ys.length + xs.length ≤ 9223372036854775807) (hbig: (ys.length + xs.length) * bytes ≤ 140737488355328)
 (h: ∀ v' w',w'.ownsRow base e D.k v' (ys ++ xs).length ((ys ++ xs).flatMap D.enc) → w.grownBy w' v.ownBlock → K (a.put o.dst v') w'): wpOp P ops Q i K a w:= by
 refine wpOp_of hix hgd ?_
 obtain ⟨i0,hi,hz0,hz1,hz2⟩:= info_parts hinfo
 subst hm
 cases ao with
 | none =>
  obtain ⟨rfl,rfl⟩:= hl.void rfl
  have hrun:= run_append_owned_none (P:= P) (w:= w) base t o.type e i0 D.k ht hi v ys.length _ hown
  rw [List.length_nil] at hx
  unfold Oper.wp
  simp [execOp,ho,resolve,invoke,builtin,hs,hx,hrun,Result.andThen]
  exact h v w (by simpa using hown) ⟨rfl,rfl,rfl,Nat.le_refl _,fun _ _ _ => rfl⟩
 | some ad =>
  refine wp_append_own w s x t ho base e i0 z D.k bytes ht hi hz0 hz1 hz2 hzs D.pos _ ys.length _ hs hown ad xs.length c (xs.flatMap D.enc) hx (flat_len D.enc D.k D.len xs) (hl.cells ad rfl) (Row.flat_one D xs) (by unfold maxLen;omega) hbig hbase ?_
  intro v' w' ho' hg' hn'
  exact h v' w' (by rw [List.length_append,List.flatMap_append];exact ho') hg'
end Go.Proofs.YtpdmmmdkpipmkaaGreatDoor
namespace Go.Proofs.YtpdmmmdkpipmkaaGreatDoor
open Go.RowKit Go.Lib Go.Shelf
theorem wpOp_store_all {P: Program} {ops: Array Oper} {Q: Exit → Act → World → Prop} {i: Nat} {K: Act → World → Prop} {a: Act} {w: World} {o: Oper} (hi: ops[i]? = some o) (hgd: o.guard = none) (ty: TypeId) (x y: Operand) (ho: o.op = .store ty x y)
 (V n: Nat) (C: Array Value) (T: TypeId) (vs: List Value) (hx: a.eval x = .pointer (some ⟨V,0,none⟩)) (hy: a.eval y = .agg vs.toArray) (hH: w.heap[V]? = some (.cells C T))
 (hin: C.size = n) (hn: vs.length = n) (hii: (P.info? ty).map (·.size) = some n) (h1: vs.all (·.oneCell') = true)
 (h: ∀ w',w'.heap[V]? = some (.cells vs.toArray T) → But V w w' → K (a.put o.dst undef) w'): wpOp P ops Q i K a w:= by
 refine wpOp_of hi hgd ?_
 refine wp_store_mid ty x y ho V 0 vs.toArray hx hy (by simpa using there_block hH 0 vs.length (by omega)) (by simpa [hn] using hii) (by simpa using h1) ?_
 have e:= heap_setCells V T vs 0 C w hH
 rw [splice_all C vs (by omega)] at e
 exact h _ e (But.cells _ _ _ (But.refl V w))
theorem owp_build_two {P: Program} {Q: Exit → Act → World → Prop} {K: Act → World → Prop} {a: Act} {w: World} {o: Oper} (t e: TypeId) (x y: Operand) (ho: o.op = .buildSlice t 2 #[(0,x),(1,y)])
 (vs us: List Value) (z: Value) (k bytes: Nat) (hx: a.eval x = .agg vs.toArray) (hy: a.eval y = .agg us.toArray) (hk: vs.length = k) (hk2: us.length = k) (hk0: 0 < k) (hk1: k ≤ 1000)
 (hu: P.underlying t = some (.slice e)) (hi: (P.info? e).map (fun i => (i.zero,i.size,i.bytes)) = some (some z,k,bytes))
 (h: K (a.put o.dst (.slice (some ⟨w.heap.size,0,none⟩) 2 2)) (w.alloc (.cells (vs ++ us).toArray e))): o.wp P a w K Q:= by
 obtain ⟨i0,h0,h1,h2,h3⟩:= info_parts hi
 refine wp_buildSlice t e 2 _ ho _ i0 z hu h0 h1 (by rw [h2];omega) (by rw [h2];omega) ?_ h
 rw [h2]
 generalize hC: (Array.range (2 * k)).map (z.cells[· % z.cells.size]!) = C
 have hs: C.size = 2 * k:= by rw [← hC];simp
 have e1: ((#[(0,x),(1,y)]: Array (Nat × Operand)).map fun (i,x) => (i,a.eval x)).toList = [(0,.agg vs.toArray),(1,.agg us.toArray)]:= by simp [hx,hy]
 rw [e1]
 have hc: (Value.agg vs.toArray).cells = vs.toArray:= rfl
 have hc2: (Value.agg us.toArray).cells = us.toArray:= rfl
 have s1: splice C 0 vs = (vs ++ C.toList.drop k).toArray:= by
  have:= splice_mid vs [] (C.toList.take k) (C.toList.drop k) (by simp;omega)
  simpa using this
 have s2: splice (vs ++ C.toList.drop k).toArray k us = (vs ++ us).toArray:= by
  have:= splice_list us vs (C.toList.drop k) (by simp;omega)
  rwa [hk] at this
 have f1:= fold_splice_at 0 vs 0 C
 have f2:= fold_splice_at k us 0 (vs ++ C.toList.drop k).toArray
 rw [Nat.add_zero] at f1 f2
 rw [s1] at f1
 rw [s2] at f2
 have hz: vs.toArray.zipIdx = (vs.zipIdx 0).toArray:= by simp
 have hz2: us.toArray.zipIdx = (us.zipIdx 0).toArray:= by simp
 unfold Instr.fill
 simp only [hc,List.size_toArray,hk]
 rw [if_neg (by simp [hs];omega)]
 rw [hz]
 simp only [List.foldl_toArray',Nat.zero_mul]
 rw [show (fun (cs: Array Value) (x: Value × Nat) => match x with | (c,j) => cs.setIfInBounds (0 + j) c) = fun cs x => cs.setIfInBounds (0 + x.2) x.1 from rfl,f1]
 unfold Instr.fill
 simp only [hc2,List.size_toArray,hk2]
 rw [if_neg (by simp [hs,hk];omega)]
 rw [hz2]
 simp only [List.foldl_toArray',Nat.one_mul]
 rw [show (fun (cs: Array Value) (x: Value × Nat) => match x with | (c,j) => cs.setIfInBounds (k + j) c) = fun cs x => cs.setIfInBounds (k + x.2) x.1 from rfl,f2]
 unfold Instr.fill
 rfl
theorem wpOp_build_two {P: Program} {ops: Array Oper} {Q: Exit → Act → World → Prop} {i: Nat} {K: Act → World → Prop} {a: Act} {w: World} {o: Oper} (hix: ops[i]? = some o) (hgd: o.guard = none) (t e: TypeId) (x y: Operand) (ho: o.op = .buildSlice t 2 #[(0,x),(1,y)])
 (vs us: List Value) (z: Value) (k bytes: Nat) (hx: a.eval x = .agg vs.toArray) (hy: a.eval y = .agg us.toArray) (hk: vs.length = k) (hk2: us.length = k) (hk0: 0 < k) (hk1: k ≤ 1000)
 (hu: P.underlying t = some (.slice e)) (hi: (P.info? e).map (fun i => (i.zero,i.size,i.bytes)) = some (some z,k,bytes))
 (h: K (a.put o.dst (.slice (some ⟨w.heap.size,0,none⟩) 2 2)) (w.alloc (.cells (vs ++ us).toArray e))): wpOp P ops Q i K a w:=
 wpOp_of hix hgd (owp_build_two t e x y ho vs us z k bytes hx hy hk hk2 hk0 hk1 hu hi h)
end Go.Proofs.YtpdmmmdkpipmkaaGreatDoor
