/-
  The mathematics of layer 12, as the program goes: by which literals variables are asked; keys of what a walk came to; how many points a walk has at most. No program in this text.
-/
import Derived.Lib.ItoaMem
import Derived.Lib.ItoaLen
import Derived.Test.YtpdmmmdkpipmkaaGreatDoorQNf
namespace Go.Proofs.YtpdmmmdkpipmkaaGreatDoor
namespace Ml
open Mt (Tx Env uni unis by1 lit lits head nm val nul place vals name fact eqK eqK_iff)
abbrev SpF:= Tx → Option (Nat × Nat)
def mk1 (k: Nat) (f: SpF) (v: Tx): SpF:= fun u => if u = v then some (match f u with
 | none => (k,k)
 | some x => (x.1,k)) else f u
def mks (k: Nat) (f: SpF) (vs: List Tx): SpF:= vs.foldl (mk1 k) f
def spB: Nat → List Lt → SpF → SpF
 | _,[],f => f
 | k,l:: ls,f => spB (k + 1) ls (mks k f (lvars l))
def spans (r: Ru): SpF:= mks r.body.length (spB 0 r.body fun _ => none) (hvars r)
def fsOf (f: SpF) (v: Tx): Nat:= ((f v).getD (0,0)).1
def laOf (f: SpF) (v: Tx): Nat:= ((f v).getD (0,0)).2
def GoodS (K: Nat) (f: SpF): Prop:= ∀ v x,f v = some x → x.1 ≤ x.2 ∧ x.2 ≤ K
def HasS (j: Nat) (v: Tx) (f: SpF): Prop:= ∃ x,f v = some x ∧ x.1 ≤ j ∧ j ≤ x.2
theorem mk1_good {k: Nat} {f: SpF} (h: GoodS k f) (v: Tx): GoodS k (mk1 k f v):= fun u x hx => by
 unfold mk1 at hx
 split at hx
 ·cases hf: f u with
  | none => rw [hf] at hx;cases hx;exact ⟨Nat.le_refl _,Nat.le_refl _⟩
  | some y => rw [hf] at hx;cases hx;have:= h u y hf;exact ⟨by show y.1 ≤ k;omega,Nat.le_refl _⟩
 ·exact h u x hx
theorem mk1_has {k: Nat} {f: SpF} (h: GoodS k f) (v: Tx): HasS k v (mk1 k f v):= by
 cases hf: f v with
 | none => exact ⟨(k,k),by unfold mk1;rw [if_pos rfl,hf],Nat.le_refl _,Nat.le_refl _⟩
 | some y => have:= h v y hf;exact ⟨(y.1,k),by unfold mk1;rw [if_pos rfl,hf],by show y.1 ≤ k;omega,Nat.le_refl _⟩
theorem HasS.mk1 {j k: Nat} {u: Tx} {f: SpF} (h: HasS j u f) (hg: GoodS k f) (v: Tx): HasS j u (mk1 k f v):= by
 obtain ⟨x,hx,h1,h2⟩:= h
 by_cases e: u = v
 ·have:= hg u x hx
  exact ⟨(x.1,k),by unfold Ml.mk1;rw [if_pos e,hx],h1,by show j ≤ k;omega⟩
 ·exact ⟨x,by unfold Ml.mk1;rw [if_neg e];exact hx,h1,h2⟩
theorem mks_good {k: Nat}: ∀ {vs: List Tx} {f: SpF},GoodS k f → GoodS k (mks k f vs)
 | [],_,h => h
 | v:: vs,_,h => mks_good (vs:= vs) (mk1_good h v)
theorem HasS.mks {j k: Nat} {u: Tx}: ∀ {vs: List Tx} {f: SpF},HasS j u f → GoodS k f → HasS j u (mks k f vs)
 | [],_,h,_ => h
 | v:: vs,_,h,hg => HasS.mks (vs:= vs) (h.mk1 hg v) (mk1_good hg v)
theorem mks_has {k: Nat}: ∀ {vs: List Tx} {f: SpF},GoodS k f → ∀ v ∈ vs,HasS k v (mks k f vs)
 | [],_,_,v,hv => by cases hv
 | u:: vs,f,h,v,hv => by
  rcases List.mem_cons.1 hv with rfl | hv
  ·exact HasS.mks (vs:= vs) (mk1_has h _) (mk1_good h _)
  ·exact mks_has (vs:= vs) (mk1_good h u) v hv
theorem GoodS.mono {k k': Nat} {f: SpF} (h: GoodS k f) (hk: k ≤ k'): GoodS k' f:= fun v x hx => by have:= h v x hx;omega
theorem spB_good: ∀ {ls: List Lt} {k: Nat} {f: SpF},GoodS k f → GoodS (k + ls.length) (spB k ls f)
 | [],_,_,h => h
 | l:: ls,k,_,h => by
  have:= spB_good (ls:= ls) (k:= k + 1) ((mks_good (vs:= lvars l) h).mono (Nat.le_succ k))
  rw [List.length_cons,show k + (ls.length + 1) = k + 1 + ls.length by omega]
  exact this
theorem HasS.spB {j: Nat} {u: Tx}: ∀ {ls: List Lt} {k: Nat} {f: SpF},HasS j u f → GoodS k f → HasS j u (spB k ls f)
 | [],_,_,h,_ => h
 | l:: ls,k,_,h,hg => HasS.spB (ls:= ls) (k:= k + 1) (h.mks (vs:= lvars l) hg) ((mks_good hg).mono (Nat.le_succ k))
theorem spB_has: ∀ {ls: List Lt} {k: Nat} {f: SpF},GoodS k f → ∀ i l,ls[i]? = some l → ∀ v ∈ lvars l,HasS (k + i) v (spB k ls f)
 | [],_,_,_,i,l,h,_,_ => by cases h
 | l:: ls,k,f,hg,0,l',h,v,hv => by
  cases h
  exact HasS.spB (ls:= ls) (k:= k + 1) (mks_has hg v hv) ((mks_good hg).mono (Nat.le_succ k))
 | l:: ls,k,f,hg,i + 1,l',h,v,hv => by
  have:= spB_has (ls:= ls) (k:= k + 1) (f:= mks k f (lvars l)) ((mks_good hg).mono (Nat.le_succ k)) i l' h v hv
  rw [show k + (i + 1) = k + 1 + i by omega]
  exact this
theorem spans_spn (r: Ru): Spn r (fsOf (spans r)) (laOf (spans r)):= by
 have g0: GoodS 0 (fun _ => none: SpF):= fun v x h => by cases h
 have g1: GoodS r.body.length (spB 0 r.body fun _ => none):= by have:= spB_good (ls:= r.body) g0;rwa [Nat.zero_add] at this
 have key: ∀ {j: Nat} {v: Tx},HasS j v (spans r) → fsOf (spans r) v ≤ j ∧ j ≤ laOf (spans r) v:= fun h => by
  obtain ⟨x,hx,h1,h2⟩:= h
  unfold fsOf laOf
  rw [hx];exact ⟨h1,h2⟩
 refine ⟨fun k l hl v hv => key ?_,fun v hv => (key (j:= r.body.length) (mks_has g1 v hv)).2⟩
 have:= spB_has (ls:= r.body) g0 k l hl v hv
 rw [Nat.zero_add] at this
 exact this.mks g1
theorem cut_at {a b x y: List UInt8} (ha: (32: UInt8) ∉ a) (hb: (32: UInt8) ∉ b) (h: a ++ 32:: x = b ++ 32:: y): a = b ∧ x = y:= by
 induction a generalizing b with
 | nil =>
  cases b with
  | nil => exact ⟨rfl,by simpa using h⟩
  | cons c b => simp only [List.nil_append,List.cons_append,List.cons.injEq] at h;exact absurd (h.1 ▸ List.mem_cons_self ..) hb
 | cons c a ih =>
  cases b with
  | nil => simp only [List.nil_append,List.cons_append,List.cons.injEq] at h;exact absurd (h.1 ▸ List.mem_cons_self ..) ha
  | cons d b =>
   simp only [List.cons_append,List.cons.injEq] at h
   obtain ⟨rfl,h⟩:= h
   obtain ⟨rfl,hx⟩:= ih (fun hm => ha (List.mem_cons_of_mem _ hm)) (fun hm => hb (List.mem_cons_of_mem _ hm)) h
   exact ⟨rfl,hx⟩
structure Dec (d: Int → List UInt8): Prop where
 plain: ∀ n,(32: UInt8) ∉ d n
 inj: ∀ m n,d m = d n → m = n
def bTx (b: Bool): List UInt8:= if b = true then [116,114,117,101] else [102,97,108,115,101]
def kTx (d: Int → List UInt8) (b: Tx × K): List UInt8:= 32:: (bTx b.2.num ++ 32:: (d b.2.n ++ 32:: (d (b.2.s.length: Int) ++ 32:: b.2.s)))
def keyT (d: Int → List UInt8) (k: Nat) (e: Env): List UInt8:= d (k: Int) ++ e.flatMap (kTx d)
theorem bTx_plain (b: Bool): (32: UInt8) ∉ bTx b:= by cases b <;> decide
theorem bTx_inj {a b: Bool} (h: bTx a = bTx b): a = b:= by cases a <;> cases b <;> first | rfl | cases h
theorem flat_inj {d: Int → List UInt8} (hd: Dec d): ∀ {e p: Env},e.map (·.1) = p.map (·.1) → e.flatMap (kTx d) = p.flatMap (kTx d) → e = p
 | [],[],_,_ => rfl
 | [],_:: _,h,_ => by simp at h
 | _:: _,[],h,_ => by simp at h
 | (v,a):: e,(u,b):: p,h,hk => by
  simp only [List.map_cons,List.cons.injEq] at h
  obtain ⟨rfl,h⟩:= h
  rw [List.flatMap_cons,List.flatMap_cons] at hk
  unfold kTx at hk
  simp only [List.cons_append,List.append_assoc,List.cons.injEq,true_and] at hk
  obtain ⟨h1,hk⟩:= cut_at (bTx_plain _) (bTx_plain _) hk
  obtain ⟨h2,hk⟩:= cut_at (hd.plain _) (hd.plain _) hk
  obtain ⟨h3,hk⟩:= cut_at (hd.plain _) (hd.plain _) hk
  have h3: a.s.length = b.s.length:= by have:= hd.inj _ _ h3;omega
  obtain ⟨h4,hk⟩:= List.append_inj hk h3
  have h5:= flat_inj hd h hk
  have hab: a = b:= by
   obtain ⟨x,y,z⟩:= a;obtain ⟨x',y',z'⟩:= b
   simp only at h1 h2 h4
   rw [bTx_inj h1,hd.inj _ _ h2,h4]
  rw [hab,h5]
theorem key_k {d: Int → List UInt8} (hd: Dec d) {k j: Nat} {e p: Env} (h: keyT d k e = keyT d j p): k = j:= by
 have ends: ∀ (e: Env),e.flatMap (kTx d) = [] ∨ ∃ x,e.flatMap (kTx d) = 32:: x:= fun e => by
  cases e with
  | nil => exact .inl rfl
  | cons b e => exact .inr ⟨_,by rw [List.flatMap_cons];unfold kTx;rw [List.cons_append]⟩
 unfold keyT at h
 have key: d (k: Int) = d (j: Int):= by
  rcases ends e with h1 | ⟨x,h1⟩ <;> rcases ends p with h2 | ⟨y,h2⟩ <;> rw [h1,h2] at h
  ·simpa using h
  ·exfalso
   rw [List.append_nil] at h
   exact hd.plain k (by rw [h];simp)
  ·exfalso
   rw [List.append_nil] at h
   exact hd.plain j (by rw [← h];simp)
  ·exact (cut_at (hd.plain _) (hd.plain _) h).1
 have:= hd.inj _ _ key
 omega
theorem key_inj {d: Int → List UInt8} (hd: Dec d) {k j: Nat} {e p: Env} (hv: k = j → e.map (·.1) = p.map (·.1)) (h: keyT d k e = keyT d j p): k = j ∧ e = p:= by
 obtain rfl:= key_k hd h
 unfold keyT at h
 exact ⟨rfl,flat_inj hd (hv rfl) (List.append_cancel_left h)⟩
def parts (home: Tm) (m: List F): List Lt → Env → List Env
 | [],_ => []
 | l:: ls,e => m.flatMap fun f => match lit home l f e with
  | none => []
  | some e1 => e1:: parts home m ls e1
theorem envs_parts {home: Tm} {m: List F}: ∀ (ls: List Lt) (e: Env),(envs home m ls e).length ≤ (parts home m ls e).length + 1
 | [],e => by rw [envs,parts];simp
 | l:: ls,e => by
  rw [envs,parts]
  refine Nat.le_trans (flat_le (fun f => ?_) m) (Nat.le_succ _)
  cases lit home l f e with
  | none => simp
  | some e1 => simp only [List.length_cons];exact envs_parts ls e1
theorem frm_parts {w: Wd} {r: Ru} {m: List F}: ∀ (ls: List Lt) (e: Env) (st: Cn × List F),(frm w r m ls e st).1.heavy = false → (parts r.home m ls e).length + st.1.done ≤ (frm w r m ls e st).1.done
 | [],e,st,_ => by rw [frm,parts];simp
 | l:: ls,e,st,h => by
  rw [frm] at h ⊢
  rw [parts]
  suffices ∀ (ms: List F) (st: Cn × List F),(ms.foldl (one r.home l e (frm w r m ls)) st).1.heavy = false → (ms.flatMap fun f => match lit r.home l f e with
   | none => []
   | some e1 => e1:: parts r.home m ls e1).length + st.1.done ≤ (ms.foldl (one r.home l e (frm w r m ls)) st).1.done from this m st h
  intro ms
  induction ms with
  | nil => intro st _;simp
  | cons f ms ih =>
   intro st h
   rw [List.foldl_cons] at h ⊢
   have h2:= ih _ h
   rw [List.flatMap_cons,List.length_append]
   have h1:= fold_heavy h
   have h0: st.1.heavy = false:= by
    cases hs: st.1.heavy with
    | false => rfl
    | true => rw [one_stop hs,hs] at h1;cases h1
   suffices (match lit r.home l f e with
    | none => []
    | some e1 => e1:: parts r.home m ls e1).length + st.1.done ≤ (one r.home l e (frm w r m ls) st f).1.done by omega
   unfold one at h1 ⊢
   rw [if_neg (by rw [h0];decide)] at h1 ⊢
   cases hl: lit r.home l f e with
   | none => simp [bump]
   | some e1 =>
    rw [hl] at h1
    have h3:= frm_parts ls e1 _ h1
    simp only [bump,List.length_cons] at h3 ⊢
    omega
def Few (w: Wd) (l: List Ru) (m: List F): Prop:= ∀ r ∈ l,∀ h ∈ w.homes,∀ e0,uni r.home (nm h) [] = some e0 → (parts r.home m r.body e0).length ≤ 60000
theorem homes_mem {w: Wd} {r: Ru} {m: List F}: ∀ (hs: List Tx) {st: Cn × List F},(hs.foldl (byHome w r m) st).1.heavy = false → st.1.Ok → ∀ h ∈ hs,∀ e0,uni r.home (nm h) [] = some e0 → (parts r.home m r.body e0).length ≤ 60000
 | [],_,_,_,_,h,_,_ => by cases h
 | x:: hs,st,hh,hk,h,hm,e0,hu => by
  rw [List.foldl_cons] at hh
  rcases List.mem_cons.1 hm with rfl | hm
  ·have h1:= (homes_light hs hh).1
   have h2:= byHome_ok (w:= w) (r:= r) (m:= m) hk h
   have h3:= h2.light h1
   unfold byHome at h1 h3
   rw [hu] at h1 h3
   have:= frm_parts _ _ _ h1
   simp only at this h3
   omega
  ·exact homes_mem hs hh (byHome_ok hk x) h hm e0 hu
theorem rules_mem {w: Wd} {m: List F}: ∀ (l: List Ru) {st: Cn × List F},(l.foldl (byRule w m) st).1.heavy = false → st.1.Ok → Few w l m
 | [],_,_,_ => fun _ h => by cases h
 | r:: l,st,hh,hk => fun r' hr h hm e0 hu => by
  rw [List.foldl_cons] at hh
  rcases List.mem_cons.1 hr with rfl | hr
  ·exact homes_mem w.homes (rules_light l hh).1 hk h hm e0 hu
  ·exact rules_mem l hh (homes_ok _ hk) r' hr h hm e0 hu
theorem onceR_fewP {w: Wd} {l: List Ru} {m: List F} {c: Cn} (hc: c.Ok) (h: (onceR w l m c).1.heavy = false): Few w l m:= rules_mem l h hc
def Pw (home: Tm) (la: Tx → Nat) (m: List F): Nat → List Lt → List (List Nat) → Env → List Env
 | _,[],_,_ => []
 | _,_:: _,[],_ => []
 | k,l:: ls,ns:: nss,p => ns.flatMap fun i => match m[i]?.bind fun f => stp home la k l f p with
  | none => []
  | some q => q:: Pw home la m (k + 1) ls nss q
theorem Pw_len {r: Ru} {fs la: Tx → Nat} {e0: Env} {m: List F} (hs: Spn r fs la): ∀ (ls: List Lt) (nss: List (List Nat)) (k: Nat) (e p: Env),r.body.drop k = ls → Chs r.home fs la e0 m k ls nss → Sim la k e p → (Pw r.home la m k ls nss p).length ≤ (parts r.home m ls e).length
 | [],nss,k,e,p,_,_,_ => by rw [Pw,parts];simp
 | l:: ls,[],k,e,p,_,hc,_ => by cases hc
 | l:: ls,ns:: nss,k,e,p,hd,hc,S => by
  obtain ⟨hk,hd'⟩:= drop_get hd
  obtain ⟨c1,c2⟩:= hc
  rw [Pw,parts]
  refine Nat.le_trans (nodup_flat c1.nodup (L:= List.range m.length) fun i hi => List.mem_range.2 (c1.lt i hi)) ?_
  rw [range_flat (fun o => match o.bind fun f => stp r.home la k l f p with
   | none => []
   | some q => q:: Pw r.home la m (k + 1) ls nss q) m]
  refine flat_le (fun f => ?_) m
  simp only [Option.bind_some]
  obtain ⟨o,ho1,ho2⟩:= lit_both (f:= f) (S.agree hs hk)
  unfold stp
  rw [ho1,ho2]
  cases o with
  | none => simp
  | some mm => simp only [Option.map_some,List.length_cons];have:= Pw_len hs ls nss (k + 1) (e ++ mm) _ hd' c2 (S.step mm);omega
def Cx.P (x: Cx) (k: Nat) (p: Env): List Env:= Pw x.r.home x.la x.m k (x.r.body.drop k) (x.nums.drop k) p
def Cx.contP (x: Cx) (k: Nat) (p: Env) (i: Nat): List Env:= match x.st k i p with
 | none => []
 | some q => q:: x.P (k + 1) q
def Cx.remP (x: Cx) (k: Nat) (p: Env) (t: Nat): List Env:= if k < x.n then ((x.ns k).drop t).flatMap (x.contP k p) else []
theorem Cx.P_rem (x: Cx) (hn: x.nums.length = x.n) (k: Nat) (p: Env): x.P k p = x.remP k p 0:= by
 unfold Cx.P Cx.remP
 split
 ·rename_i hk
  have hk1: k < x.r.body.length:= hk
  have hk2: k < x.nums.length:= by rw [hn];exact hk
  rw [List.drop_eq_getElem_cons hk1,List.drop_eq_getElem_cons hk2,Pw,List.drop_zero]
  unfold Cx.ns
  rw [List.getD_eq_getElem?_getD,List.getElem?_eq_getElem hk2]
  congr 1
  funext i
  unfold Cx.contP Cx.st Cx.P
  rw [List.getElem?_eq_getElem hk1]
  rfl
 ·rename_i hk
  have: x.r.body.drop k = []:= List.drop_eq_nil_of_le (by unfold Cx.n at hk;omega)
  rw [this,Pw]
def Cx.cntP (x: Cx): Nat → List (Env × Nat) → Nat
 | _,[] => 0
 | k,a:: L => (x.remP k a.1 a.2).length + x.cntP (k + 1) L
theorem Cx.cntP_snoc (x: Cx) (a: Env × Nat): ∀ (L: List (Env × Nat)) (k: Nat),x.cntP k (L ++ [a]) = x.cntP k L + (x.remP (k + L.length) a.1 a.2).length
 | [],k => by simp [Cx.cntP]
 | b:: L,k => by
  rw [List.cons_append,Cx.cntP,Cx.cntP,Cx.cntP_snoc x a L (k + 1),List.length_cons,show k + 1 + L.length = k + (L.length + 1) by omega];omega
def Wc (x: Cx) (e0: Env) (L: List (Env × Nat)) (n: Nat): Prop:= n + x.cntP 0 L ≤ (x.P 0 e0).length
theorem Wc.start (x: Cx) (hn: x.nums.length = x.n) (e0: Env): Wc x e0 [(e0,0)] 0:= by
 unfold Wc;rw [Cx.cntP,Cx.cntP,Cx.P_rem x hn];simp
theorem Cx.remP_next (x: Cx) {k t: Nat} {p: Env} (hk: k < x.n) (ht: t < (x.ns k).length): (x.remP k p t).length = (x.contP k p (x.ns k)[t]).length + (x.remP k p (t + 1)).length:= by
 unfold Cx.remP
 rw [if_pos hk,if_pos hk,List.drop_eq_getElem_cons ht,List.flatMap_cons,List.length_append]
theorem Wc.push {x: Cx} (hn: x.nums.length = x.n) {e0 p q: Env} {t n: Nat} {L: List (Env × Nat)} (h: Wc x e0 (L ++ [(p,t)]) n) (hk: L.length < x.n) (ht: t < (x.ns L.length).length) (hs: x.st L.length (x.ns L.length)[t] p = some q): Wc x e0 (L ++ [(p,t + 1)] ++ [(q,0)]) (n + 1):= by
 unfold Wc at h ⊢
 rw [Cx.cntP_snoc] at h
 rw [Cx.cntP_snoc,Cx.cntP_snoc]
 simp only [Nat.zero_add,List.length_append,List.length_cons,List.length_nil] at h ⊢
 rw [Cx.remP_next x hk ht] at h
 have: x.contP L.length p (x.ns L.length)[t] = q:: x.remP (L.length + 1) q 0:= by unfold Cx.contP;rw [hs];simp only;rw [Cx.P_rem x hn]
 rw [this,List.length_cons] at h
 omega
theorem Wc.less {x: Cx} {e0: Env} {n n': Nat} {L: List (Env × Nat)} (h: Wc x e0 L n) (hn: n' ≤ n): Wc x e0 L n':= by unfold Wc at h ⊢;omega
theorem Wc.skip {x: Cx} {e0 p: Env} {t n: Nat} {L: List (Env × Nat)} (h: Wc x e0 (L ++ [(p,t)]) n) (hk: L.length < x.n) (ht: t < (x.ns L.length).length): Wc x e0 (L ++ [(p,t + 1)]) n:= by
 unfold Wc at h ⊢
 rw [Cx.cntP_snoc] at h ⊢
 simp only [Nat.zero_add] at h ⊢
 rw [Cx.remP_next x hk ht] at h
 omega
theorem Wc.drop {x: Cx} {e0 p: Env} {t n: Nat} {L: List (Env × Nat)} (h: Wc x e0 (L ++ [(p,t)]) n): Wc x e0 L n:= by
 unfold Wc at h ⊢
 rw [Cx.cntP_snoc] at h
 omega
end Ml
end Go.Proofs.YtpdmmmdkpipmkaaGreatDoor
namespace Go.Proofs.YtpdmmmdkpipmkaaGreatDoor
namespace Ml
open Lib (itoa decDigits)
theorem decD_rec (u: Nat) (h: 10 ≤ u): decDigits u = decDigits (u / 10) ++ [UInt8.ofNat (48 + u % 10)]:= by
 rw [decDigits,dif_neg (by omega)]
theorem decD_small (u: Nat) (h: u < 10): decDigits u = [UInt8.ofNat (48 + u)]:= by
 rw [decDigits,dif_pos h]
theorem dig_val {n: Nat} (h: n < 10): (UInt8.ofNat (48 + n)).toNat = 48 + n:= by
 simp;omega
theorem decD_digits (u: Nat): ∀ c ∈ decDigits u,48 ≤ c.toNat ∧ c.toNat ≤ 57:= by
 induction u using Nat.strongRecOn with
 | _ u ih =>
  by_cases h: u < 10
  ·rw [decD_small u h]
   intro c hc
   rw [List.mem_singleton] at hc;subst hc
   rw [dig_val h];omega
  ·rw [decD_rec u (by omega)]
   intro c hc
   rcases List.mem_append.1 hc with hc | hc
   ·exact ih (u / 10) (by omega) c hc
   ·rw [List.mem_singleton] at hc;subst hc
    rw [dig_val (Nat.mod_lt _ (by decide))];omega
theorem decD_ne (u: Nat): decDigits u ≠ []:= by
 by_cases h: u < 10
 ·rw [decD_small u h];simp
 ·rw [decD_rec u (by omega)];simp
theorem decD_inj (u: Nat): ∀ v,decDigits u = decDigits v → u = v:= by
 induction u using Nat.strongRecOn with
 | _ u ih =>
  intro v he
  by_cases hu: u < 10
  ·rw [decD_small u hu] at he
   by_cases hv: v < 10
   ·rw [decD_small v hv] at he
    have:= congrArg (fun l: List UInt8 => (l.headD 0).toNat) he
    simp only [List.headD_cons,dig_val hu,dig_val hv] at this
    omega
   ·rw [decD_rec v (by omega)] at he
    have:= congrArg List.length he
    have h2: 0 < (decDigits (v / 10)).length:= List.length_pos_iff.2 (decD_ne _)
    simp only [List.length_append,List.length_cons,List.length_nil] at this
    omega
  ·rw [decD_rec u (by omega)] at he
   by_cases hv: v < 10
   ·rw [decD_small v hv] at he
    have:= congrArg List.length he
    have h2: 0 < (decDigits (u / 10)).length:= List.length_pos_iff.2 (decD_ne _)
    simp only [List.length_append,List.length_cons,List.length_nil] at this
    omega
   ·rw [decD_rec v (by omega)] at he
    obtain ⟨h1,h2⟩:= List.append_inj' he rfl
    have h3:= ih (u / 10) (by omega) _ h1
    simp only [List.cons.injEq,and_true] at h2
    have h4:= congrArg UInt8.toNat h2
    rw [dig_val (Nat.mod_lt _ (by decide)),dig_val (Nat.mod_lt _ (by decide))] at h4
    omega
theorem dec_itoa: Dec itoa:= by
 refine ⟨fun n h => ?_,fun m n h => ?_⟩
 ·have h32: (32: UInt8).toNat = 32:= rfl
  unfold itoa at h
  split at h
  ·rcases List.mem_cons.1 h with h | h
   ·cases h
   ·have:= decD_digits _ _ h;omega
  ·have:= decD_digits _ _ h;omega
 ·have h45: (45: UInt8).toNat = 45:= rfl
  have no: ∀ (x: Nat) (l: List UInt8),decDigits x ≠ 45:: l:= fun x l he => by
   have:= decD_digits x 45 (by rw [he];exact List.mem_cons_self ..)
   omega
  unfold itoa at h
  split at h
  ·split at h
   ·simp only [List.cons.injEq,true_and] at h
    have:= decD_inj _ _ h;omega
   ·exact absurd h.symm (no _ _)
  ·split at h
   ·exact absurd h (no _ _)
   ·have:= decD_inj _ _ h;omega
end Ml
end Go.Proofs.YtpdmmmdkpipmkaaGreatDoor
namespace Go.Proofs.YtpdmmmdkpipmkaaGreatDoor
namespace Ml
open Mt (Tx Env uni lit lits head nm val)
def LstFN (w: Wd) (l: List Ru): Nat → List F → Option (List F) → Prop
 | 0,m,o => (400 < m.length ∧ o = none) ∨ (m.length ≤ 400 ∧ Few w l m ∧ step w l m = m ∧ o = some m)
 | n + 1,m,o => ((400 < m.length ∧ o = none) ∨ (m.length ≤ 400 ∧ Few w l m ∧ step w l m = m ∧ o = some m)) ∨ (m.length ≤ 400 ∧ Few w l m ∧ step w l m ≠ m ∧ LstFN w l n (step w l m) o)
def LstF (w: Wd) (l: List Ru) (m: List F) (o: Option (List F)): Prop:= ∃ n,LstFN w l n m o
theorem LstF.full {w: Wd} {l: List Ru} {m: List F} (h: 400 < m.length): LstF w l m none:= ⟨0,.inl ⟨h,rfl⟩⟩
theorem LstF.done {w: Wd} {l: List Ru} {m: List F} (h: m.length ≤ 400) (hf: Few w l m) (h2: step w l m = m): LstF w l m (some m):= ⟨0,.inr ⟨h,hf,h2,rfl⟩⟩
theorem LstF.more {w: Wd} {l: List Ru} {m: List F} {o: Option (List F)} (h: m.length ≤ 400) (hf: Few w l m) (h2: step w l m ≠ m) (h3: LstF w l (step w l m) o): LstF w l m o:= by
 obtain ⟨n,hn⟩:= h3
 exact ⟨n + 1,.inr ⟨h,hf,h2,hn⟩⟩
theorem LstF.ind {w: Wd} {l: List Ru} {motive: (m: List F) → (o: Option (List F)) → LstF w l m o → Prop}
 (full: ∀ {m: List F} (h: 400 < m.length),motive m none (LstF.full h))
 (done: ∀ {m: List F} (h: m.length ≤ 400) (hf: Few w l m) (h2: step w l m = m),motive m (some m) (LstF.done h hf h2))
 (more: ∀ {m: List F} {o: Option (List F)} (h: m.length ≤ 400) (hf: Few w l m) (h2: step w l m ≠ m) (h3: LstF w l (step w l m) o),motive (step w l m) o h3 → motive m o (LstF.more h hf h2 h3))
 {m: List F} {o: Option (List F)} (t: LstF w l m o): motive m o t:= by
 obtain ⟨n,hn⟩:= t
 induction n generalizing m o with
 | zero =>
  rcases hn with ⟨h1,rfl⟩ | ⟨h1,hf,h2,rfl⟩
  ·exact full h1
  ·exact done h1 hf h2
 | succ n ih =>
  rcases hn with (⟨h1,rfl⟩ | ⟨h1,hf,h2,rfl⟩) | ⟨h1,hf,h2,h3⟩
  ·exact full h1
  ·exact done h1 hf h2
  ·exact more h1 hf h2 ⟨n,h3⟩ (ih h3)
theorem LstF.lst {w: Wd} {l: List Ru} {m: List F} {o: Option (List F)} (h: LstF w l m o): Lst w l m o:= by
 induction h using LstF.ind with
 | full h1 => exact .full h1
 | done h1 _ h2 => exact .done h1 h2
 | more h1 _ h2 _ ih => exact .more h1 h2 ih
theorem LstF.split {w: Wd} {l: List Ru} {m: List F} {o: Option (List F)} (h: LstF w l m o): (400 < m.length ∧ o = none) ∨ (m.length ≤ 400 ∧ Few w l m ∧ ((step w l m = m ∧ o = some m) ∨ (step w l m ≠ m ∧ LstF w l (step w l m) o))):= by
 induction h using LstF.ind with
 | full h1 => exact .inl ⟨h1,rfl⟩
 | done h1 hf h2 => exact .inr ⟨h1,hf,.inl ⟨h2,rfl⟩⟩
 | more h1 hf h2 h3 _ => exact .inr ⟨h1,hf,.inr ⟨h2,h3⟩⟩
theorem LstF.few {w: Wd} {l: List Ru} {m: List F} {o: Option (List F)} (h: LstF w l m o) (h4: m.length ≤ 400): Few w l m:= by
 rcases h.split with ⟨h1,_⟩ | ⟨_,h2,_⟩
 ·omega
 ·exact h2
theorem LstF.next {w: Wd} {l: List Ru} {m: List F} {o: Option (List F)} (h: LstF w l m o) (h4: m.length ≤ 400): (step w l m = m ∧ o = some m) ∨ (step w l m ≠ m ∧ LstF w l (step w l m) o):= by
 rcases h.split with ⟨h1,_⟩ | ⟨_,_,h2⟩
 ·omega
 ·exact h2
theorem LstF.none_of {w: Wd} {l: List Ru} {m: List F} {o: Option (List F)} (h: LstF w l m o) (h4: 400 < m.length): o = none:= by
 rcases h.split with ⟨_,h1⟩ | ⟨h1,_⟩
 ·exact h1
 ·omega
theorem LstR.few {w: Wd} {l: List Ru} {m: List F} {c c2: Cn} {o: Option (List F)} (h: LstR w l m c o c2) (hs: SS m) (hc: c.Ok) (hl: c2.heavy = false): c.heavy = false ∧ LstF w l m o:= by
 induction h using LstR.ind with
 | heavy h1 => rw [h1] at hl;cases hl
 | full h1 h2 => exact ⟨h1,.full h2⟩
 | done h1 h2 h4 =>
  obtain ⟨_,i2⟩:= onceR_light hl
  rw [i2] at h4
  exact ⟨h1,.done h2 (onceR_fewP hc hl) ((step_len_iff hs).1 h4)⟩
 | more h1 h2 h4 h5 ih =>
  obtain ⟨i1,i3⟩:= ih (foldl_ins _ _ hs).1 (onceR_ok hc) hl
  obtain ⟨_,i2⟩:= onceR_light i1
  rw [i2] at i3 h4
  exact ⟨h1,.more h2 (onceR_fewP hc i1) (fun he => h4 (by show (step w l _).length = _;rw [he])) i3⟩
theorem grown_all {w: Wd} {l: List Ru} {m fs: List F} (hs: SS m) (hf: ∀ x,x ∈ fs ↔ x ∈ onceL w l m): fs.foldl ins m = step w l m:=
 (foldl_ins fs m hs).1.uniq (step_SS hs) fun x => by rw [(foldl_ins fs m hs).2,mem_step hs,hf,mem_onceL]
theorem grown_some {w: Wd} {l: List Ru} {m fs: List F} (hs: SS m) (hf: ∀ x ∈ fs,x ∈ onceL w l m): SS (fs.foldl ins m) ∧ (fs.foldl ins m).length ≤ (step w l m).length ∧ ∀ x ∈ fs.foldl ins m,x ∈ step w l m:= by
 have h1:= foldl_ins fs m hs
 have h2: ∀ x ∈ fs.foldl ins m,x ∈ step w l m:= fun x hx => by
  rw [mem_step hs]
  rcases (h1.2 x).1 hx with h | h
  ·exact .inl h
  ·exact .inr (mem_onceL.1 (hf x h))
 exact ⟨h1.1,sub_len h1.1 h2,h2⟩
theorem ins_len (f: F): ∀ l: List F,(ins l f).length ≤ l.length + 1
 | [] => by simp [ins]
 | x:: l => by
  have:= ins_len f l
  unfold ins
  repeat' split
  all_goals simp only [List.length_cons]
  all_goals omega
theorem foldl_ins_len (fs: List F): ∀ l: List F,(fs.foldl ins l).length ≤ l.length + fs.length:= by
 induction fs with
 | nil => intro l;simp
 | cons f fs ih => intro l;rw [List.foldl_cons,List.length_cons];have:= ih (ins l f);have:= ins_len f l;omega
theorem frm_len {w: Wd} {r: Ru} {m: List F}: ∀ (ls: List Lt) (e: Env) (st: Cn × List F),(frm w r m ls e st).2.length + st.1.done ≤ st.2.length + (frm w r m ls e st).1.done + cr ls
 | [],e,st => by
  rw [frm]
  have h1:= foldl_ins_len (hd w r e) st.2
  have h2:= hd_few w r e
  simp only [cr]
  omega
 | l:: ls,e,st => by
  rw [frm]
  suffices ∀ (ms: List F) (st: Cn × List F),(ms.foldl (one r.home l e (frm w r m ls)) st).2.length + st.1.done ≤ st.2.length + (ms.foldl (one r.home l e (frm w r m ls)) st).1.done by
   have:= this m st
   simp only [cr]
   omega
  intro ms
  induction ms with
  | nil => intro st;simp
  | cons f ms ih =>
   intro st
   rw [List.foldl_cons]
   have h2:= ih (one r.home l e (frm w r m ls) st f)
   suffices (one r.home l e (frm w r m ls) st f).2.length + st.1.done ≤ st.2.length + (one r.home l e (frm w r m ls) st f).1.done by omega
   unfold one
   split
   ·omega
   ·split
    ·simp only [bump];omega
    ·rename_i e1 _
     have h3:= frm_len (w:= w) (r:= r) (m:= m) ls e1 (bump st.1,st.2)
     have h4:= cr_le ls
     simp only [bump] at h3 ⊢
     omega
end Ml
end Go.Proofs.YtpdmmmdkpipmkaaGreatDoor
