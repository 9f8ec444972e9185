/-
  The mathematics of layer 13: rules rewritten so that each looks at its own place alone; their meaning is the same. No program in this text.
-/
import Derived.Test.YtpdmmmdkpipmkaaGreatDoorQNf
import Derived.Test.YtpdmmmdkpipmkaaGreatDoorQNj
import Derived.Test.YtpdmmmdkpipmkaaGreatDoorQCd
namespace Go.Proofs.YtpdmmmdkpipmkaaGreatDoor
namespace Lc
open Mt (Env nul get val uni nm unis place lit name vals fact head bodyF body lits)
open Ck (bnd vars wv wl)
open Mt (Tx)
def eqT (a b: Tm): Bool:= (a.v == b.v) && Mt.eqK a.k b.k
theorem eqT_iff (a b: Tm): eqT a b = true ↔ a = b:= by
 obtain ⟨x,y⟩:= a;obtain ⟨x',y'⟩:= b
 simp [eqT,Mt.eqK_iff]
def rem (r: Ru) (y: Lt): Bool:= !eqT y.at_ t0 && !eqT y.at_ r.home
def noAt (y: Lt): Lt:= ⟨y.by_,y.pred,y.args,t0⟩
def vts (l: List Tx): List Tm:= l.map fun v => ⟨v,k0⟩
def nms (i k: Nat): Tx:= Lib.decDigits i ++ (46:: Lib.decDigits k)
def askN (i k: Nat): Tx:= 126:: 97:: 115:: 107:: nms i k
def tellN (i k: Nat): Tx:= 126:: 116:: 101:: 108:: 108:: nms i k
def askR (i: Nat) (r: Ru) (k: Nat) (y: Lt) (L: List Lt): Ru:= ⟨r.home,askN i k,vts (bnd r k),y.at_,L⟩
def askL (i: Nat) (r: Ru) (k: Nat): Lt:= ⟨r.home,askN i k,vts (bnd r k),t0⟩
def tellR (i: Nat) (r: Ru) (k: Nat) (y: Lt): Ru:= ⟨y.at_,tellN i k,vts (bnd r (k + 1)),r.home,[askL i r k,noAt y]⟩
def tellL (i: Nat) (r: Ru) (k: Nat) (y: Lt): Lt:= ⟨y.at_,tellN i k,vts (bnd r (k + 1)),t0⟩
def lastR (r: Ru) (L: List Lt): Ru:= ⟨r.home,r.pred,r.args,r.to_,L⟩
def steps (i: Nat) (r: Ru): Nat → List Lt → List Lt → List Ru
 | _,[],L => [lastR r L]
 | k,y:: ys,L => if rem r y = true then askR i r k y L:: tellR i r k y:: steps i r (k + 1) ys [tellL i r k y] else steps i r (k + 1) ys (L ++ [noAt y])
def one (i: Nat) (r: Ru): List Ru:= steps i r 0 r.body []
def rw: Nat → List Ru → List Ru
 | _,[] => []
 | i,r:: l => one i r ++ rw (i + 1) l
def relay (p: Tx): Bool:= match p with
 | [] => false
 | c:: _ => c == 126
def seen (l: List F): List F:= l.filter fun x => !relay x.pred
theorem nms_inj {i k i' k': Nat} (h: nms i k = nms i' k'): i = i' ∧ k = k':= by
 have key: ∀ (a a' b b': Tx),(∀ c ∈ a,c.toNat ≠ 46) → (∀ c ∈ a',c.toNat ≠ 46) → a ++ 46:: b = a' ++ 46:: b' → a = a' ∧ b = b':= by
  intro a
  induction a with
  | nil =>
   intro a' b b' _ h2 he
   cases a' with
   | nil => simpa using he
   | cons c t =>
    simp only [List.nil_append,List.cons_append,List.cons.injEq] at he
    exact absurd (by rw [← he.1];rfl) (h2 c (List.mem_cons_self ..))
  | cons c t ih =>
   intro a' b b' h1 h2 he
   cases a' with
   | nil =>
    simp only [List.nil_append,List.cons_append,List.cons.injEq] at he
    exact absurd (by rw [he.1];rfl) (h1 c (List.mem_cons_self ..))
   | cons c' t' =>
    simp only [List.cons_append,List.cons.injEq] at he
    obtain ⟨rfl,he⟩:= he
    obtain ⟨rfl,rfl⟩:= ih t' b b' (fun d hd => h1 d (List.mem_cons_of_mem _ hd)) (fun d hd => h2 d (List.mem_cons_of_mem _ hd)) he
    exact ⟨rfl,rfl⟩
 have nd: ∀ u,∀ c ∈ Lib.decDigits u,c.toNat ≠ 46:= fun u c hc => by
  have:= Ml.decD_digits u c hc
  omega
 obtain ⟨h1,h2⟩:= key _ _ _ _ (nd i) (nd i') h
 exact ⟨Ml.decD_inj _ _ h1,Ml.decD_inj _ _ h2⟩
theorem askN_inj {i k i' k': Nat} (h: askN i k = askN i' k'): i = i' ∧ k = k':= by
 unfold askN at h
 simp only [List.cons.injEq,true_and] at h
 exact nms_inj h
theorem tellN_inj {i k i' k': Nat} (h: tellN i k = tellN i' k'): i = i' ∧ k = k':= by
 unfold tellN at h
 simp only [List.cons.injEq,true_and] at h
 exact nms_inj h
theorem ask_tell {i k i' k': Nat}: askN i k ≠ tellN i' k':= fun h => by
 unfold askN tellN at h
 simp only [List.cons.injEq,true_and] at h
 exact absurd h.1 (by decide)
theorem relay_ask (i k: Nat): relay (askN i k) = true:= rfl
theorem relay_tell (i k: Nat): relay (tellN i k) = true:= rfl
theorem nul_iff (t: Tm): nul t = true ↔ t = t0:= by
 obtain ⟨v,a,b,c⟩:= t
 simp [nul,t0,k0,and_assoc]
theorem place_t0 (h: Tm): place h t0 = h:= by
 unfold place;rw [if_pos ((nul_iff _).2 rfl)]
theorem place_ne {h t: Tm} (hn: t ≠ t0): place h t = t:= by
 unfold place;rw [if_neg (fun hh => hn ((nul_iff _).1 hh))]
structure Fine (r: Ru): Prop where
 home: r.home ≠ t0
 pred: relay r.pred = false
 body: ∀ y ∈ r.body,relay y.pred = false
 at_: ∀ k (h: k < r.body.length),r.body[k].at_.v ≠ [] → r.body[k].at_.v ∈ bnd r k
 args: ∀ t,(t ∈ r.args ∨ t = r.to_) → t.v ≠ [] → t.v ∈ vars r
end Lc
end Go.Proofs.YtpdmmmdkpipmkaaGreatDoor
namespace Go.Proofs.YtpdmmmdkpipmkaaGreatDoor
namespace Lc
theorem steps_rem {i: Nat} {r: Ru} {k: Nat} {L: List Lt} (hk: k < r.body.length) (hr: rem r r.body[k] = true):
 steps i r k (r.body.drop k) L = askR i r k r.body[k] L:: tellR i r k r.body[k]:: steps i r (k + 1) (r.body.drop (k + 1)) [tellL i r k r.body[k]]:= by
 rw [List.drop_eq_getElem_cons hk,steps,if_pos hr]
theorem steps_here {i: Nat} {r: Ru} {k: Nat} {L: List Lt} (hk: k < r.body.length) (hr: rem r r.body[k] = false):
 steps i r k (r.body.drop k) L = steps i r (k + 1) (r.body.drop (k + 1)) (L ++ [noAt r.body[k]]):= by
 rw [List.drop_eq_getElem_cons hk,steps,if_neg (by rw [hr];simp)]
theorem steps_end {i: Nat} {r: Ru} {k: Nat} {L: List Lt} (hk: r.body.length ≤ k): steps i r k (r.body.drop k) L = [lastR r L]:= by
 rw [List.drop_of_length_le hk,steps]
def Way (i: Nat) (r: Ru) (k: Nat) (out: List Ru) (L: List Lt): Prop:= one i r = out ++ steps i r k (r.body.drop k) L
theorem Way.start (i: Nat) (r: Ru): Way i r 0 [] []:= rfl
theorem Way.rem {i: Nat} {r: Ru} {k: Nat} {out: List Ru} {L: List Lt} (h: Way i r k out L) (hk: k < r.body.length) (hr: rem r r.body[k] = true): Way i r (k + 1) (out ++ [askR i r k r.body[k] L,tellR i r k r.body[k]]) [tellL i r k r.body[k]]:= by
 unfold Way at h ⊢
 rw [h,steps_rem hk hr,List.append_assoc];rfl
theorem Way.here {i: Nat} {r: Ru} {k: Nat} {out: List Ru} {L: List Lt} (h: Way i r k out L) (hk: k < r.body.length) (hr: Lc.rem r r.body[k] = false): Way i r (k + 1) out (L ++ [noAt r.body[k]]):= by
 unfold Way at h ⊢
 rw [h,steps_here hk hr]
theorem Way.done {i: Nat} {r: Ru} {k: Nat} {out: List Ru} {L: List Lt} (h: Way i r k out L) (hk: r.body.length ≤ k): one i r = out ++ [lastR r L]:= by
 unfold Way at h
 rw [h,steps_end hk]
def WayR (l: List Ru) (i: Nat) (out: List Ru): Prop:= rw 0 l = out ++ rw i (l.drop i)
theorem WayR.start (l: List Ru): WayR l 0 []:= rfl
theorem WayR.step {l: List Ru} {i: Nat} {out: List Ru} (h: WayR l i out) (hi: i < l.length): WayR l (i + 1) (out ++ one i l[i]):= by
 unfold WayR at h ⊢
 rw [h,List.drop_eq_getElem_cons hi,Lc.rw,List.append_assoc]
theorem WayR.done {l: List Ru} {i: Nat} {out: List Ru} (h: WayR l i out) (hi: l.length ≤ i): rw 0 l = out:= by
 unfold WayR at h
 rw [h,List.drop_of_length_le hi,Lc.rw,List.append_nil]
theorem seen_snoc {l: List F} {i: Nat} (hi: i < l.length): seen (l.take (i + 1)) = seen (l.take i) ++ (if relay l[i].pred = true then [] else [l[i]]):= by
 rw [List.take_succ_eq_append_getElem hi,seen,List.filter_append]
 congr 1
 cases h: relay l[i].pred <;> simp [h]
theorem steps_le {i: Nat} {r: Ru}: ∀ {ys: List Lt} {k: Nat} {L: List Lt},(steps i r k ys L).length ≤ 2 * ys.length + 1
 | [],_,_ => by simp [steps]
 | y:: ys,k,L => by
  rw [steps]
  split
  ·have:= steps_le (i:= i) (r:= r) (ys:= ys) (k:= k + 1) (L:= [tellL i r k y]);simp only [List.length_cons];omega
  ·have:= steps_le (i:= i) (r:= r) (ys:= ys) (k:= k + 1) (L:= L ++ [noAt y]);simp only [List.length_cons];omega
theorem one_le (i: Nat) (r: Ru): (one i r).length ≤ 2 * r.body.length + 1:= steps_le
end Lc
end Go.Proofs.YtpdmmmdkpipmkaaGreatDoor
namespace Go.Proofs.YtpdmmmdkpipmkaaGreatDoor
namespace Lc
open Mt (Tx Env nul get val uni nm unis place lit name vals fact head bodyF body lits)
open Ck (bnd vars wv wl)
def Ag (B: List Tx) (d e: Env): Prop:= ∀ v ∈ B,v ≠ [] → get v d = get v e
def In (B: List Tx) (t: Tm): Prop:= t.v = [] ∨ t.v ∈ B
def InL (B: List Tx) (y: Lt): Prop:= In B y.by_ ∧ (∀ t ∈ y.args,In B t) ∧ In B y.at_
theorem In.mono {B C: List Tx} {t: Tm} (h: In B t) (hs: ∀ v ∈ B,v ∈ C): In C t:= h.imp id (hs _)
theorem InL.mono {B C: List Tx} {y: Lt} (h: InL B y) (hs: ∀ v ∈ B,v ∈ C): InL C y:= ⟨h.1.mono hs,fun t ht => (h.2.1 t ht).mono hs,h.2.2.mono hs⟩
theorem val_ag {B: List Tx} {d e: Env} {t: Tm} (h: Ag B d e) (ht: In B t): val t d = val t e:= by
 unfold val
 by_cases hv: t.v = []
 ·rw [if_pos hv,if_pos hv]
 ·rw [if_neg hv,if_neg hv,h t.v (ht.resolve_left hv) hv]
theorem vals_ag {B: List Tx} {d e: Env} (h: Ag B d e): ∀ {ts: List Tm},(∀ t ∈ ts,In B t) → vals d ts = vals e ts
 | [],_ => rfl
 | t:: ts,hs => by
  rw [vals,vals,val_ag h (hs t (List.mem_cons_self ..)),vals_ag h fun u hu => hs u (List.mem_cons_of_mem _ hu)]
theorem fact_ag {B: List Tx} {d e: Env} (h: Ag B d e) {a b: Tm} {p: Tx} {ts: List Tm} (ha: In B a) (hb: In B b) (hs: ∀ t ∈ ts,In B t): fact a b p ts d = fact a b p ts e:= by
 unfold fact name
 rw [val_ag h ha,val_ag h hb,vals_ag h hs]
theorem place_in {B: List Tx} {a b: Tm} (ha: In B a) (hb: In B b): In B (place a b):= by
 unfold place;split
 ·exact ha
 ·exact hb
theorem bodyF_ag {B: List Tx} {d e: Env} (h: Ag B d e) {home: Tm} {y: Lt} (hh: In B home) (hy: InL B y): bodyF home y d = bodyF home y e:=
 fact_ag h (place_in hh hy.2.2) (place_in (place_in hh hy.2.2) hy.1) hy.2.1
theorem body_ag {B: List Tx} {d e: Env} (h: Ag B d e) {home: Tm} (hh: In B home): ∀ {ls: List Lt},(∀ y ∈ ls,InL B y) → body home d ls = body home e ls
 | [],_ => rfl
 | y:: ys,hs => by
  rw [body,body,bodyF_ag h hh (hs y (List.mem_cons_self ..)),body_ag h hh fun u hu => hs u (List.mem_cons_of_mem _ hu)]
theorem in_wv (l: List Tx) (t: Tm): In (wv l t) t:= by
 unfold wv;split
 ·rename_i h;exact h
 ·exact .inr (by simp)
theorem wv_sub {l: List Tx} {t: Tm} {v: Tx} (h: v ∈ l): v ∈ wv l t:= by
 obtain ⟨m,hm⟩:= Ck.wv_pre l t
 rw [hm];exact List.mem_append_left _ h
theorem fold_sub {l: List Tx} {ts: List Tm} {v: Tx} (h: v ∈ l): v ∈ ts.foldl wv l:= by
 obtain ⟨m,hm⟩:= Ck.fold_pre ts l
 rw [hm];exact List.mem_append_left _ h
theorem wl_sub {l: List Tx} {y: Lt} {v: Tx} (h: v ∈ l): v ∈ wl l y:= by
 obtain ⟨m,hm⟩:= Ck.wl_pre l y
 rw [hm];exact List.mem_append_left _ h
theorem wls_sub {v: Tx}: ∀ {ys: List Lt} {l: List Tx},v ∈ l → v ∈ ys.foldl wl l
 | [],_,h => h
 | _:: ys,_,h => wls_sub (ys:= ys) (wl_sub h)
theorem in_fold: ∀ (ts: List Tm) (l: List Tx),∀ t ∈ ts,In (ts.foldl wv l) t
 | [],_,t,h => by cases h
 | u:: ts,l,t,h => by
  rcases List.mem_cons.1 h with rfl | h
  ·exact (in_wv l t).mono fun v hv => fold_sub (ts:= ts) hv
  ·exact in_fold ts (wv l u) t h
theorem in_wl (l: List Tx) (y: Lt): InL (wl l y) y:=
 ⟨(in_wv l y.by_).mono fun _ hv => wv_sub (fold_sub hv),fun t ht => (in_fold y.args _ t ht).mono fun _ hv => wv_sub hv,in_wv _ _⟩
theorem in_wls: ∀ (ys: List Lt) (l: List Tx),∀ y ∈ ys,InL (ys.foldl wl l) y
 | [],_,y,h => by cases h
 | u:: ys,l,y,h => by
  rcases List.mem_cons.1 h with rfl | h
  ·exact (in_wl l y).mono fun v hv => wls_sub (ys:= ys) hv
  ·exact in_wls ys (wl l u) y h
theorem home_bnd (r: Ru) (k: Nat): In (bnd r k) r.home:= (in_wv [] r.home).mono fun _ hv => wls_sub hv
theorem body_bnd (r: Ru) (k: Nat): ∀ y ∈ r.body.take k,InL (bnd r k) y:= in_wls _ _
theorem ne_wv {l: List Tx} {t: Tm} (h: ∀ v ∈ l,v ≠ []): ∀ v ∈ wv l t,v ≠ []:= by
 unfold wv;split
 ·exact h
 ·rename_i hn
  intro v hv
  rcases List.mem_append.1 hv with hv | hv
  ·exact h v hv
  ·rw [List.mem_singleton] at hv;rw [hv];exact fun he => hn (.inl he)
theorem ne_fold: ∀ {ts: List Tm} {l: List Tx},(∀ v ∈ l,v ≠ []) → ∀ v ∈ ts.foldl wv l,v ≠ []
 | [],_,h => h
 | _:: ts,_,h => ne_fold (ts:= ts) (ne_wv h)
theorem ne_wls: ∀ {ys: List Lt} {l: List Tx},(∀ v ∈ l,v ≠ []) → ∀ v ∈ ys.foldl wl l,v ≠ []
 | [],_,h => h
 | y:: ys,l,h => ne_wls (ys:= ys) (l:= wl l y) (ne_wv (ne_fold (ne_wv h)))
theorem bnd_ne (r: Ru) (k: Nat): ∀ v ∈ bnd r k,v ≠ []:= ne_wls (ne_wv fun _ h => by cases h)
theorem body_mem {home: Tm} {d: Env}: ∀ {ls: List Lt} {fs: List F},body home d ls = some fs → ∀ y ∈ ls,∃ f ∈ fs,bodyF home y d = some f
 | [],_,_,y,h => by cases h
 | u:: ls,fs,hb,y,h => by
  rw [body] at hb
  obtain ⟨f,hf,hb⟩:= Option.bind_eq_some_iff.1 hb
  obtain ⟨gs,hg,rfl⟩:= Option.map_eq_some_iff.1 hb
  rcases List.mem_cons.1 h with rfl | h
  ·exact ⟨f,List.mem_cons_self ..,hf⟩
  ·obtain ⟨g,hm,hg⟩:= body_mem hg y h
   exact ⟨g,List.mem_cons_of_mem _ hm,hg⟩
theorem body_app {home: Tm} {d: Env}: ∀ {a b: List Lt} {fs: List F},body home d (a ++ b) = some fs ↔ ∃ x y,fs = x ++ y ∧ body home d a = some x ∧ body home d b = some y
 | [],b,fs => by
  constructor
  ·intro h;exact ⟨[],fs,rfl,rfl,h⟩
  ·rintro ⟨x,y,rfl,h1,h2⟩
   rw [body] at h1;cases h1;exact h2
 | u:: a,b,fs => by
  rw [List.cons_append,body,body]
  constructor
  ·intro h
   obtain ⟨f,hf,h⟩:= Option.bind_eq_some_iff.1 h
   obtain ⟨gs,hg,rfl⟩:= Option.map_eq_some_iff.1 h
   obtain ⟨x,y,rfl,h1,h2⟩:= body_app.1 hg
   exact ⟨f:: x,y,rfl,by rw [hf,h1];rfl,h2⟩
  ·rintro ⟨x,y,rfl,h1,h2⟩
   obtain ⟨f,hf,h1⟩:= Option.bind_eq_some_iff.1 h1
   obtain ⟨gs,hg,rfl⟩:= Option.map_eq_some_iff.1 h1
   rw [hf,body_app.2 ⟨gs,y,rfl,hg,h2⟩];rfl
theorem body_one {home: Tm} {d: Env} {y: Lt} {fs: List F}: body home d [y] = some fs ↔ ∃ f,fs = [f] ∧ bodyF home y d = some f:= by
 rw [body]
 constructor
 ·intro h
  obtain ⟨f,hf,h⟩:= Option.bind_eq_some_iff.1 h
  obtain ⟨gs,hg,rfl⟩:= Option.map_eq_some_iff.1 h
  rw [body] at hg;cases hg
  exact ⟨f,rfl,hf⟩
 ·rintro ⟨f,rfl,hf⟩
  rw [hf];rfl
theorem bnd_get {r: Ru} {k: Nat} {d: Env} {fs: List F} {c: K} (hb: body r.home d (r.body.take k) = some fs) (hh: val r.home d = some c): ∀ v ∈ bnd r k,∃ c,get v d = some c:= by
 intro v hv
 have hne:= bnd_ne r k v hv
 rcases Mt.mem_wls hv with h | ⟨y,hy,h⟩
 ·rcases Mt.mem_wv h with h | rfl
  ·cases h
  ·exact ⟨_,Mt.val_get hne hh⟩
 ·obtain ⟨f,_,hf⟩:= body_mem hb y hy
  obtain ⟨h1,h2,h3,h4⟩:= Mt.fact_parts hf
  rcases h with rfl | ⟨t,ht,rfl⟩ | rfl
  ·rw [place_ne (fun he => hne (by rw [he];rfl))] at h2
   exact ⟨_,Mt.val_get hne h2⟩
  ·obtain ⟨i,hi,rfl⟩:= List.getElem_of_mem ht
   obtain ⟨hl,hv⟩:= Mt.vals_val h4
   exact ⟨_,Mt.val_get hne (hv i hi (by omega))⟩
  ·rw [place_ne (fun he => hne (by rw [he];rfl))] at h1
   exact ⟨_,Mt.val_get hne h1⟩
theorem val_var {v: Tx} {d: Env} (h: v ≠ []): val ⟨v,k0⟩ d = get v d:= by
 unfold val
 rw [if_neg (by rw [Mt.nul_v (t:= ⟨v,k0⟩) h];decide),if_neg h]
theorem vals_vts {d: Env}: ∀ {B: List Tx},(∀ v ∈ B,v ≠ []) → (∀ v ∈ B,∃ c,get v d = some c) → ∃ ks,vals d (vts B) = some ks
 | [],_,_ => ⟨[],rfl⟩
 | v:: B,hn,hg => by
  obtain ⟨c,hc⟩:= hg v (List.mem_cons_self ..)
  obtain ⟨ks,hk⟩:= vals_vts (B:= B) (fun u hu => hn u (List.mem_cons_of_mem _ hu)) fun u hu => hg u (List.mem_cons_of_mem _ hu)
  refine ⟨c:: ks, ?_⟩
  show (val ⟨v,k0⟩ d).bind (fun c => (vals d (vts B)).map fun cs => c:: cs) = _
  rw [val_var (hn v (List.mem_cons_self ..)),hc,hk];rfl
theorem ag_of {d e: Env}: ∀ {B: List Tx} {ks: List K},vals d (vts B) = some ks → vals e (vts B) = some ks → Ag B d e
 | [],_,_,_ => fun v h => by cases h
 | v:: B,ks,h1,h2 => by
  replace h1: (val ⟨v,k0⟩ d).bind (fun c => (vals d (vts B)).map fun cs => c:: cs) = some ks:= h1
  replace h2: (val ⟨v,k0⟩ e).bind (fun c => (vals e (vts B)).map fun cs => c:: cs) = some ks:= h2
  obtain ⟨c,hc,h1⟩:= Option.bind_eq_some_iff.1 h1
  obtain ⟨c',hc',h2⟩:= Option.bind_eq_some_iff.1 h2
  obtain ⟨a,ha,h1⟩:= Option.map_eq_some_iff.1 h1
  obtain ⟨b,hb,h2⟩:= Option.map_eq_some_iff.1 h2
  subst h1
  simp only [List.cons.injEq] at h2
  obtain ⟨rfl,rfl⟩:= h2
  intro u hu hn
  rcases List.mem_cons.1 hu with rfl | hu
  ·rw [← val_var hn,← val_var hn,hc,hc']
  ·exact ag_of ha hb u hu hn
theorem vals_ext {e m: Env}: ∀ {ts: List Tm} {ks: List K},vals e ts = some ks → vals (e ++ m) ts = some ks
 | [],_,h => h
 | t:: ts,ks,h => by
  rw [vals] at h ⊢
  obtain ⟨c,hc,h⟩:= Option.bind_eq_some_iff.1 h
  obtain ⟨a,ha,rfl⟩:= Option.map_eq_some_iff.1 h
  rw [Mt.val_ext hc m,vals_ext ha];rfl
theorem bodyF_ext {e: Env} {home: Tm} {y: Lt} {f: F} (h: bodyF home y e = some f) (m: Env): bodyF home y (e ++ m) = some f:= by
 obtain ⟨h1,h2,h3,h4⟩:= Mt.fact_parts h
 exact Mt.parts_fact (Mt.val_ext h1 m) (Mt.val_ext h2 m) h3 (vals_ext h4)
theorem has_bodyF {home: Tm} {y: Lt} {f: F} {e: Env} (h: Mt.Has home y f e): bodyF home y e = some f:= by
 refine Mt.parts_fact h.at_ ?_ h.pred.symm (Mt.val_vals h.len h.args)
 have hb:= h.by_
 by_cases hn: nul y.by_ = true
 ·rw [if_pos hn] at hb
  have: place (place home y.at_) y.by_ = place home y.at_:= by rw [(nul_iff _).1 hn,place_t0]
  rw [this,hb];exact h.at_
 ·rw [if_neg hn] at hb
  rw [place_ne (fun he => hn ((nul_iff _).2 he))];exact hb
theorem lits_body {home: Tm}: ∀ {ls: List Lt} {fs: List F} {e e2: Env},lits home ls fs e = some e2 → body home e2 ls = some fs
 | [],[],e,e2,_ => rfl
 | l:: ls,f:: fs,e,e2,h => by
  rw [lits] at h
  obtain ⟨e1,h1,h2⟩:= Option.bind_eq_some_iff.1 h
  obtain ⟨m,rfl⟩:= Ml.lits_ext h2
  rw [body,bodyF_ext (has_bodyF (Mt.lit_has h1).2) m,lits_body h2];rfl
 | [],f:: fs,e,e2,h => by cases h
 | l:: ls,[],e,e2,h => by cases h
theorem ins_out {w: Ml.Wd} {l: List Ru} {m: List F} {f: F} (h: Ml.Ins w l m f): ∃ r ∈ l,f.by_ ∈ w.homes ∧ f.at_ ∈ w.names ∧ ∃ d fs,(∀ x ∈ fs,x ∈ m) ∧ body r.home d r.body = some fs ∧ head r d = some f:= by
 have hp:= h.place
 obtain ⟨r,hr,h,_,e,_,fs,h1,e2,h2,h3,_⟩:= h
 exact ⟨r,hr,hp.2,hp.1,e2,fs,h1,lits_body h2,h3⟩
theorem ins_in {w: Ml.Wd} {l: List Ru} {m: List F} {f: F} {r: Ru} {d: Env} {fs: List F} (hr: r ∈ l) (hb: f.by_ ∈ w.homes) (hn: f.at_ ∈ w.names) (hs: ∀ x ∈ fs,x ∈ m) (hd: body r.home d r.body = some fs) (hh: head r d = some f) (ho: ∀ t,(t ∈ r.args ∨ t = r.to_) → t.v ≠ [] → Mt.Of r t.v): Ml.Ins w l m f:= by
 obtain ⟨e1,e2,u1,u2,u3⟩:= Mt.instances hh hd ho
 exact ⟨r,hr,f.by_,hb,e1,u1,fs,hs,e2,u2,u3,hn⟩
end Lc
end Go.Proofs.YtpdmmmdkpipmkaaGreatDoor
namespace Go.Proofs.YtpdmmmdkpipmkaaGreatDoor
namespace Lc
open Mt (Tx Env nul get val nm place name vals fact head bodyF body)
open Ck (bnd vars wv wl)
theorem rem_yes {r: Ru} {y: Lt} (h: rem r y = true): y.at_ ≠ t0 ∧ y.at_ ≠ r.home:= by
 unfold rem at h
 simp only [Bool.and_eq_true,Bool.not_eq_true'] at h
 refine ⟨fun e => ?_,fun e => ?_⟩
 ·rw [(eqT_iff _ _).2 e] at h;exact Bool.noConfusion h.1
 ·rw [(eqT_iff _ _).2 e] at h;exact Bool.noConfusion h.2
theorem rem_no {r: Ru} {y: Lt} (h: ¬ rem r y = true): y.at_ = t0 ∨ y.at_ = r.home:= by
 unfold rem at h
 simp only [Bool.and_eq_true,Bool.not_eq_true',not_and,Bool.not_eq_false] at h
 by_cases he: y.at_ = t0
 ·exact .inl he
 ·exact .inr ((eqT_iff _ _).1 (h (by rw [Bool.eq_false_iff];exact fun hh => he ((eqT_iff _ _).1 hh))))
theorem noAt_same {r: Ru} {y: Lt} (h: ¬ rem r y = true) (d: Env): bodyF r.home (noAt y) d = bodyF r.home y d:= by
 have e: place r.home y.at_ = r.home:= by
  rcases rem_no h with he | he
  ·rw [he,place_t0]
  ·rw [he];unfold place;split <;> rfl
 unfold bodyF noAt
 simp only [place_t0,e]
theorem noAt_there {r: Ru} {y: Lt} (h: y.at_ ≠ t0) (d: Env): bodyF y.at_ (noAt y) d = bodyF r.home y d:= by
 unfold bodyF noAt
 simp only [place_t0,place_ne h]
theorem head_ask {i k: Nat} {r: Ru} {y: Lt} {L: List Lt} (h: y.at_ ≠ t0) (d: Env): head (askR i r k y L) d = fact y.at_ r.home (askN i k) (vts (bnd r k)) d:= by
 unfold head askR
 simp only [place_ne h]
theorem head_tell {i k: Nat} {r: Ru} {y: Lt} (h: r.home ≠ t0) (d: Env): head (tellR i r k y) d = fact r.home y.at_ (tellN i k) (vts (bnd r (k + 1))) d:= by
 unfold head tellR
 simp only [place_ne h]
theorem lit_ask {i k: Nat} {r: Ru} {y: Lt} (h: r.home ≠ t0) (d: Env): bodyF y.at_ (askL i r k) d = fact y.at_ r.home (askN i k) (vts (bnd r k)) d:= by
 unfold bodyF askL
 simp only [place_t0,place_ne h]
theorem lit_tell {i k: Nat} {r: Ru} {y: Lt} (h: y.at_ ≠ t0) (d: Env): bodyF r.home (tellL i r k y) d = fact r.home y.at_ (tellN i k) (vts (bnd r (k + 1))) d:= by
 unfold bodyF tellL
 simp only [place_t0,place_ne h]
def AskP (l: List Ru) (n: List F) (x: F) (i k: Nat): Prop:= ∃ r y,l[i]? = some r ∧ r.body[k]? = some y ∧ ∃ d fs,(∀ z ∈ fs,z ∈ n) ∧ body r.home d (r.body.take k) = some fs ∧ fact y.at_ r.home (askN i k) (vts (bnd r k)) d = some x
def TellP (l: List Ru) (n: List F) (x: F) (i k: Nat): Prop:= ∃ r y,l[i]? = some r ∧ r.body[k]? = some y ∧ ∃ d fs,(∀ z ∈ fs,z ∈ n) ∧ body r.home d (r.body.take (k + 1)) = some fs ∧ fact r.home y.at_ (tellN i k) (vts (bnd r (k + 1))) d = some x
structure P (l: List Ru) (n: List F) (x: F): Prop where
 plain: relay x.pred = false → x ∈ n
 ask: ∀ i k,x.pred = askN i k → AskP l n x i k
 tell: ∀ i k,x.pred = tellN i k → TellP l n x i k
theorem P.of {l: List Ru} {n: List F} {x: F} (h: relay x.pred = false) (hx: x ∈ n): P l n x:=
 ⟨fun _ => hx,fun i k he => (by rw [he,relay_ask] at h;cases h),fun i k he => (by rw [he,relay_tell] at h;cases h)⟩
def Good (l: List Ru) (n: List F) (r: Ru) (k: Nat) (L: List Lt): Prop:= ∀ d fs',(∀ x ∈ fs',P l n x) → body r.home d L = some fs' → ∃ fs,(∀ z ∈ fs,z ∈ n) ∧ body r.home d (r.body.take k) = some fs
theorem steps_P {w: Ml.Wd} {l: List Ru} {n: List F} {i: Nat} {r: Ru} (hi: l[i]? = some r) (hf: Fine r) (hc: Ml.Closed w l n): ∀ (ys: List Lt) (k: Nat) (L: List Lt),r.body.drop k = ys → Good l n r k L → ∀ r' ∈ steps i r k ys L,∀ d fs' f,(∀ x ∈ fs',P l n x) → body r'.home d r'.body = some fs' → head r' d = some f → f.by_ ∈ w.homes → f.at_ ∈ w.names → P l n f
 | [],k,L,hk,hg,r',hr',d,fs',f,hs,hb,hh,hby,hat => by
  rw [steps,List.mem_singleton] at hr'
  subst hr'
  obtain ⟨fs,h1,h2⟩:= hg d fs' hs hb
  have hl: r.body.length ≤ k:= by
   have:= congrArg List.length hk
   rw [List.length_drop,List.length_nil] at this
   omega
  rw [List.take_of_length_le hl] at h2
  have hp: f.pred = r.pred:= (Mt.fact_parts (show fact (place r.home r.to_) r.home r.pred r.args d = some f from hh)).2.2.1
  refine P.of (by rw [hp];exact hf.pred) (hc f (ins_in (List.mem_of_getElem? hi) hby hat h1 h2 hh fun t ht hv => Mt.mem_vars (hf.args t ht hv)))
 | y:: ys,k,L,hk,hg,r',hr',d,fs',f,hs,hb,hh,hby,hat => by
  have hkl: k < r.body.length:= by
   have:= congrArg List.length hk
   rw [List.length_drop,List.length_cons] at this
   omega
  have hd:= List.drop_eq_getElem_cons hkl
  rw [hk] at hd
  obtain ⟨hy,hys⟩:= List.cons.inj hd
  have hyk: r.body[k]? = some y:= by rw [List.getElem?_eq_getElem hkl,hy]
  have hym: y ∈ r.body:= List.mem_of_getElem? hyk
  have htk: r.body.take (k + 1) = r.body.take k ++ [y]:= by rw [List.take_succ_eq_append_getElem hkl,← hy]
  rw [steps] at hr'
  split at hr'
  ·rename_i hrem
   obtain ⟨hn0,_⟩:= rem_yes hrem
   rcases List.mem_cons.1 hr' with rfl | hr'
   ·obtain ⟨fs,h1,h2⟩:= hg d fs' hs hb
    rw [head_ask hn0] at hh
    have hp:= (Mt.fact_parts hh).2.2.1
    refine ⟨fun hr => (by rw [hp,relay_ask] at hr;cases hr),fun i' k' he => ?_,fun i' k' he => absurd (hp.symm.trans he) ask_tell⟩
    obtain ⟨rfl,rfl⟩:= askN_inj (hp.symm.trans he)
    exact ⟨r,y,hi,hyk,d,fs,h1,h2,hh⟩
   ·rcases List.mem_cons.1 hr' with rfl | hr'
    ·have hb': body y.at_ d ([askL i r k] ++ [noAt y]) = some fs':= hb
     obtain ⟨xs,zs,rfl,c1,c2⟩:= body_app.1 hb'
     obtain ⟨x1,rfl,b1⟩:= body_one.1 c1
     obtain ⟨x2,rfl,b2⟩:= body_one.1 c2
     rw [lit_ask hf.home] at b1
     rw [noAt_there hn0 (r:= r)] at b2
     have p1:= (Mt.fact_parts b1).2.2.1
     obtain ⟨r0,y0,g1,g2,d0,fs0,g3,g4,g5⟩:= (hs x1 (by simp)).ask i k p1
     rw [hi] at g1;cases g1
     rw [hyk] at g2;cases g2
     have ag: Ag (bnd r k) d0 d:= ag_of (Mt.fact_parts g5).2.2.2 (Mt.fact_parts b1).2.2.2
     rw [body_ag ag (home_bnd r k) (body_bnd r k)] at g4
     have hx2: x2 ∈ n:= (hs x2 (by simp)).plain (by
      rw [(Mt.fact_parts b2).2.2.1];exact hf.body y hym)
     rw [head_tell hf.home] at hh
     have hp:= (Mt.fact_parts hh).2.2.1
     refine ⟨fun hr => (by rw [hp,relay_tell] at hr;cases hr),fun i' k' he => absurd (he.symm.trans hp) ask_tell,fun i' k' he => ?_⟩
     obtain ⟨rfl,rfl⟩:= tellN_inj (hp.symm.trans he)
     refine ⟨r,y,hi,hyk,d,fs0 ++ [x2],fun z hz => ?_, ?_,hh⟩
     ·rcases List.mem_append.1 hz with hz | hz
      ·exact g3 z hz
      ·rw [List.mem_singleton] at hz;rw [hz];exact hx2
     ·rw [htk]
      exact body_app.2 ⟨fs0,[x2],rfl,g4,body_one.2 ⟨x2,rfl,b2⟩⟩
    ·refine steps_P hi hf hc ys (k + 1) _ hys.symm (fun e gs hgs he => ?_) r' hr' d fs' f hs hb hh hby hat
     obtain ⟨x,rfl,hx⟩:= body_one.1 he
     rw [lit_tell hn0] at hx
     obtain ⟨r0,y0,g1,g2,d0,fs0,g3,g4,g5⟩:= (hgs x (by simp)).tell i k (Mt.fact_parts hx).2.2.1
     rw [hi] at g1;cases g1
     rw [hyk] at g2;cases g2
     have ag: Ag (bnd r (k + 1)) d0 e:= ag_of (Mt.fact_parts g5).2.2.2 (Mt.fact_parts hx).2.2.2
     rw [body_ag ag (home_bnd r (k + 1)) (body_bnd r (k + 1))] at g4
     exact ⟨fs0,g3,g4⟩
  ·rename_i hrem
   refine steps_P hi hf hc ys (k + 1) _ hys.symm (fun e gs hgs he => ?_) r' hr' d fs' f hs hb hh hby hat
   obtain ⟨xs,zs,rfl,b1,c2⟩:= body_app.1 he
   obtain ⟨x,rfl,b2⟩:= body_one.1 c2
   rw [noAt_same hrem] at b2
   obtain ⟨fs,g1,g2⟩:= hg e xs (fun z hz => hgs z (List.mem_append_left _ hz)) b1
   have hx: x ∈ n:= (hgs x (List.mem_append_right _ (List.mem_singleton.2 rfl))).plain (by
    rw [(Mt.fact_parts b2).2.2.1];exact hf.body y hym)
   refine ⟨fs ++ [x],fun z hz => ?_, ?_⟩
   ·rcases List.mem_append.1 hz with hz | hz
    ·exact g1 z hz
    ·rw [List.mem_singleton] at hz;rw [hz];exact hx
   ·rw [htk]
    exact body_app.2 ⟨fs,[x],rfl,g2,body_one.2 ⟨x,rfl,b2⟩⟩
theorem mem_rw: ∀ {l: List Ru} {i0: Nat} {r': Ru},r' ∈ rw i0 l ↔ ∃ j r,l[j]? = some r ∧ r' ∈ one (i0 + j) r
 | [],i0,r' => by simp [rw]
 | r:: l,i0,r' => by
  rw [rw,List.mem_append,mem_rw]
  constructor
  ·rintro (h | ⟨j,q,hq,h⟩)
   ·exact ⟨0,r,rfl,h⟩
   ·exact ⟨j + 1,q,hq,by rw [show i0 + (j + 1) = i0 + 1 + j by omega];exact h⟩
  ·rintro ⟨j,q,hq,h⟩
   cases j with
   | zero => cases hq;exact .inl h
   | succ j => exact .inr ⟨j,q,hq,by rw [show i0 + 1 + j = i0 + (j + 1) by omega];exact h⟩
theorem rw_sub {w: Ml.Wd} {l: List Ru} {b n n': List F} (hl: ∀ r ∈ l,Fine r) (hb: ∀ x ∈ b,relay x.pred = false) (h: Ml.Lst w l (sortF b) (some n)) (h': Ml.Lst w (rw 0 l) (sortF b) (some n')): ∀ x ∈ n',P l n x:= by
 obtain ⟨_,i2,i3,_⟩:= h.got (sortF_SS _)
 refine h'.pred (sortF_SS _) (fun x hx => P.of (hb x ((mem_sortF _ _).1 hx)) (i2 x hx)) fun m' hm' f hf => ?_
 obtain ⟨r',hr',hby,hat,d,fs,hs,hd,hh⟩:= ins_out hf
 obtain ⟨j,r,hj,hr'⟩:= mem_rw.1 hr'
 rw [Nat.zero_add] at hr'
 refine steps_P hj (hl r (List.mem_of_getElem? hj)) i3 r.body 0 [] rfl (fun e gs _ he => ?_) r' hr' d fs f (fun x hx => hm' x (hs x hx)) hd hh hby hat
 exact ⟨[],(fun _ h => by cases h),rfl⟩
theorem steps_in {w: Ml.Wd} {R: List Ru} {m: List F} {i: Nat} {r: Ru} {d: Env} {fs: List F} {f: F} (hf: Fine r) (hw: w.homes = w.names) (hc: Ml.Closed w R m) (ha: ∀ x ∈ m,x.at_ ∈ w.names) (hs: ∀ x ∈ fs,x ∈ m) (hb: body r.home d r.body = some fs) (hh: head r d = some f) (hby: f.by_ ∈ w.homes) (hat: f.at_ ∈ w.names):
 ∀ (ys: List Lt) (k: Nat) (L: List Lt),r.body.drop k = ys → (∀ r' ∈ steps i r k ys L,r' ∈ R) → (∃ gs,(∀ x ∈ gs,x ∈ m) ∧ body r.home d L = some gs) → (∀ v ∈ bnd r k,Mt.Of (lastR r L) v) → f ∈ m
 | [],k,L,hk,hR,⟨gs,g1,g2⟩,ho => by
  have hl: r.body.length ≤ k:= by
   have:= congrArg List.length hk
   rw [List.length_drop,List.length_nil] at this
   omega
  refine hc f (ins_in (r:= lastR r L) (hR _ (by rw [steps];exact List.mem_singleton.2 rfl)) hby hat g1 g2 hh fun t ht hv => ho t.v ?_)
  rw [Ck.bnd_all hl]
  exact hf.args t ht hv
 | y:: ys,k,L,hk,hR,⟨gs,g1,g2⟩,ho => by
  have hkl: k < r.body.length:= by
   have:= congrArg List.length hk
   rw [List.length_drop,List.length_cons] at this
   omega
  have hd:= List.drop_eq_getElem_cons hkl
  rw [hk] at hd
  obtain ⟨hy,hys⟩:= List.cons.inj hd
  have hym: y ∈ r.body:= List.mem_of_getElem? (show r.body[k]? = some y by rw [List.getElem?_eq_getElem hkl,hy])
  have hbs: bnd r (k + 1) = wl (bnd r k) y:= by rw [Ck.bnd_succ hkl,← hy]
  obtain ⟨g,hg,hgy⟩:= body_mem hb y hym
  have hhome: val r.home d = some (nm f.by_):= (Mt.fact_parts (show fact (place r.home r.to_) r.home r.pred r.args d = some f from hh)).2.1
  have part: ∀ q,∃ ks,vals d (vts (bnd r q)) = some ks:= fun q => by
   have hq: body r.home d (r.body.take q ++ r.body.drop q) = some fs:= by rw [List.take_append_drop];exact hb
   obtain ⟨xs,_,_,h1,_⟩:= body_app.1 hq
   exact vals_vts (bnd_ne r q) (bnd_get h1 hhome)
  rw [steps] at hR
  split at hR
  ·rename_i hrem
   obtain ⟨hn0,_⟩:= rem_yes hrem
   have hgat: val y.at_ d = some (nm g.at_):= by
    have:= (Mt.fact_parts hgy).1
    rw [place_ne hn0] at this;exact this
   obtain ⟨k1,q1⟩:= part k
   obtain ⟨k2,q2⟩:= part (k + 1)
   have ask: fact y.at_ r.home (askN i k) (vts (bnd r k)) d = some ⟨g.at_,f.by_,askN i k,k1⟩:= Mt.parts_fact hgat hhome rfl q1
   have tell: fact r.home y.at_ (tellN i k) (vts (bnd r (k + 1))) d = some ⟨f.by_,g.at_,tellN i k,k2⟩:= Mt.parts_fact hhome hgat rfl q2
   have m1: (⟨g.at_,f.by_,askN i k,k1⟩: F) ∈ m:= by
    refine hc _ (ins_in (r:= askR i r k y L) (hR _ (List.mem_cons_self ..)) hby (ha g (hs g hg)) g1 g2 (by rw [head_ask hn0];exact ask) fun t ht hv => ho t.v ?_)
    rcases ht with ht | rfl
    ·obtain ⟨v,hu,rfl⟩:= List.mem_map.1 ht
     exact hu
    ·have:= hf.at_ k hkl (by rw [← hy];exact hv)
     rw [← hy] at this;exact this
   have m2: (⟨f.by_,g.at_,tellN i k,k2⟩: F) ∈ m:= by
    refine hc _ (ins_in (r:= tellR i r k y) (fs:= [⟨g.at_,f.by_,askN i k,k1⟩,g]) (d:= d) (hR _ (List.mem_cons_of_mem _ (List.mem_cons_self ..))) (by rw [hw];exact ha g (hs g hg)) (by rw [← hw];exact hby) (fun x hx => ?_) ?_ (by rw [head_tell hf.home];exact tell) fun t ht hv => ?_)
    ·rcases List.mem_cons.1 hx with rfl | hx
     ·exact m1
     ·rw [List.mem_singleton] at hx;rw [hx];exact hs g hg
    ·show body y.at_ d ([askL i r k] ++ [noAt y]) = _
     refine body_app.2 ⟨[_],[g],rfl,body_one.2 ⟨_,rfl,by rw [lit_ask hf.home];exact ask⟩,body_one.2 ⟨g,rfl,by rw [noAt_there hn0 (r:= r)];exact hgy⟩⟩
    ·rcases ht with ht | rfl
     ·obtain ⟨v,hu,rfl⟩:= List.mem_map.1 ht
      rw [hbs] at hu
      rcases Mt.mem_wl hu with hv | hv | ⟨t,ht,hv⟩ | hv
      ·exact .inr ⟨askL i r k,List.mem_cons_self ..,.inr (.inl ⟨⟨v,k0⟩,List.mem_map.2 ⟨v,hv,rfl⟩,rfl⟩)⟩
      ·exact .inr ⟨noAt y,List.mem_cons_of_mem _ (List.mem_cons_self ..),.inl hv⟩
      ·exact .inr ⟨noAt y,List.mem_cons_of_mem _ (List.mem_cons_self ..),.inr (.inl ⟨t,ht,hv⟩)⟩
      ·exact .inl hv
     ·exact .inr ⟨askL i r k,List.mem_cons_self ..,.inl rfl⟩
   refine steps_in hf hw hc ha hs hb hh hby hat ys (k + 1) _ hys.symm (fun r' hr' => hR r' (List.mem_cons_of_mem _ (List.mem_cons_of_mem _ hr'))) ⟨[_],fun x hx => ?_,body_one.2 ⟨_,rfl,by rw [lit_tell hn0];exact tell⟩⟩ fun v hv => .inr ⟨tellL i r k y,List.mem_cons_self ..,.inr (.inl ⟨⟨v,k0⟩,List.mem_map.2 ⟨v,hv,rfl⟩,rfl⟩)⟩
   rw [List.mem_singleton] at hx;rw [hx];exact m2
  ·rename_i hrem
   refine steps_in hf hw hc ha hs hb hh hby hat ys (k + 1) _ hys.symm hR ⟨gs ++ [g],fun x hx => ?_,body_app.2 ⟨gs,[g],rfl,g2,body_one.2 ⟨g,rfl,by rw [noAt_same hrem];exact hgy⟩⟩⟩ fun v hv => ?_
   ·rcases List.mem_append.1 hx with hx | hx
    ·exact g1 x hx
    ·rw [List.mem_singleton] at hx;rw [hx];exact hs g hg
   ·have hne:= bnd_ne r (k + 1) v hv
    rw [hbs] at hv
    have hin: noAt y ∈ (lastR r (L ++ [noAt y])).body:= List.mem_append_right _ (List.mem_singleton.2 rfl)
    rcases Mt.mem_wl hv with hv | hv | ⟨t,ht,hv⟩ | hv
    ·rcases ho v hv with h | ⟨z,hz,h⟩
     ·exact .inl h
     ·exact .inr ⟨z,List.mem_append_left _ hz,h⟩
    ·exact .inr ⟨noAt y,hin,.inl hv⟩
    ·exact .inr ⟨noAt y,hin,.inr (.inl ⟨t,ht,hv⟩)⟩
    ·rcases rem_no hrem with he | he
     ·exact absurd (by rw [hv,he];rfl) hne
     ·exact .inl (by rw [hv,he];rfl)
theorem rw_sup {w: Ml.Wd} {l: List Ru} {b n n': List F} (hl: ∀ r ∈ l,Fine r) (hw: w.homes = w.names) (hb: ∀ x ∈ b,x.at_ ∈ w.names) (h: Ml.Lst w l (sortF b) (some n)) (h': Ml.Lst w (rw 0 l) (sortF b) (some n')): ∀ x ∈ n,x ∈ n':= by
 obtain ⟨_,i2,i3,_⟩:= h'.got (sortF_SS _)
 have ha: ∀ x ∈ n',x.at_ ∈ w.names:= fun x hx => (Ml.names h' x hx).elim (hb x) (·.1)
 refine h.least (sortF_SS _) i2 fun f hf => ?_
 obtain ⟨r,hr,hby,hat,d,fs,hs,hd,hh⟩:= ins_out hf
 obtain ⟨j,hj,rfl⟩:= List.getElem_of_mem hr
 refine steps_in (i:= j) (hl _ hr) hw i3 ha hs hd hh hby hat l[j].body 0 [] rfl (fun r' hr' => mem_rw.2 ⟨j,l[j],List.getElem?_eq_getElem hj,by rw [Nat.zero_add];exact hr'⟩) ⟨[],(fun _ h => by cases h),rfl⟩ fun v hv => ?_
 rcases Mt.mem_wv (show v ∈ wv [] l[j].home from hv) with h | h
 ·cases h
 ·exact .inl h
theorem same {w: Ml.Wd} {l: List Ru} {b n n': List F} (hl: ∀ r ∈ l,Fine r) (hw: w.homes = w.names) (hb: ∀ x ∈ b,relay x.pred = false ∧ x.at_ ∈ w.names) (h: Ml.Lst w l (sortF b) (some n)) (h': Ml.Lst w (rw 0 l) (sortF b) (some n')): seen n' = n:= by
 have h1:= rw_sub hl (fun x hx => (hb x hx).1) h h'
 have h2:= rw_sup hl hw (fun x hx => (hb x hx).2) h h'
 obtain ⟨s1,_,_,_⟩:= h.got (sortF_SS _)
 obtain ⟨s2,_,_,_⟩:= h'.got (sortF_SS _)
 have hr: ∀ x ∈ n,relay x.pred = false:= by
  refine h.pred (sortF_SS _) (fun x hx => (hb x ((mem_sortF _ _).1 hx)).1) fun m' hm' f hf => ?_
  obtain ⟨r,hr,_,_,d,fs,_,_,hh⟩:= ins_out hf
  rw [(Mt.fact_parts (show fact (place r.home r.to_) r.home r.pred r.args d = some f from hh)).2.2.1]
  exact (hl r hr).pred
 have s3: SS (seen n'):= List.Pairwise.filter _ s2
 refine s3.uniq s1 fun x => ?_
 unfold seen
 rw [List.mem_filter]
 constructor
 ·rintro ⟨hx,hp⟩
  exact (h1 x hx).plain (by simpa using hp)
 ·intro hx
  exact ⟨h2 x hx,by rw [hr x hx];rfl⟩
end Lc
end Go.Proofs.YtpdmmmdkpipmkaaGreatDoor
namespace Go.Proofs.YtpdmmmdkpipmkaaGreatDoor
namespace Lc
open Mt (Tx)
open Ck (bnd)
def cnt (r: Ru) (ys: List Lt): Nat:= (ys.filter (rem r)).length
def ends (l: List Ru) (j: Nat): Nat:= ((l.take j).map fun r => 2 * cnt r r.body + 1).sum
def Nm (i k: Nat) (p: Tx): Prop:= relay p = false ∨ ∃ a b,(p = askN a b ∨ p = tellN a b) ∧ (i < a ∨ (i = a ∧ k ≤ b))
def Ap (a b: Ru): Prop:= relay a.pred = true ∨ relay b.pred = true → a.pred ≠ b.pred
end Lc
end Go.Proofs.YtpdmmmdkpipmkaaGreatDoor
namespace Go.Proofs.YtpdmmmdkpipmkaaGreatDoor
namespace Lc
open Mt (Tx)
open Ck (bnd vars Well)
theorem word_relay {p: Tx} (h: Sh.wordB p = true): relay p = false:= by
 unfold Sh.wordB Sh.namedB at h
 cases p with
 | nil => rfl
 | cons c r =>
  simp only [Bool.and_eq_true,Lx.small,decide_eq_true_eq] at h
  have h1:= h.1.1.2
  unfold relay
  simp only [beq_eq_false_iff_ne,ne_eq]
  rintro rfl
  have: (126: UInt8).toNat = 126:= rfl
  omega
theorem atom_word {p: Tx} {ts: List Tm} (h: (Sh.atomS p ts).isSome = true): Sh.wordB p = true:= by
 unfold Sh.atomS at h
 split at h
 ·rename_i hp;exact hp.1
 ·cases h
theorem lit_word {y: Lt} (h: (Sh.litS y).isSome = true): Sh.wordB y.pred = true:= by
 unfold Sh.litS at h
 obtain ⟨s,hs⟩:= Option.isSome_iff_exists.1 h
 obtain ⟨b,_,hs⟩:= Option.bind_eq_some_iff.1 hs
 obtain ⟨x,hx,_⟩:= Option.bind_eq_some_iff.1 hs
 exact atom_word (by rw [hx];rfl)
theorem lits_word: ∀ {l: List Lt},(Sh.litsS l).isSome = true → ∀ y ∈ l,(Sh.litS y).isSome = true
 | [],_,y,h => by cases h
 | [a],h,y,hy => by
  rw [List.mem_singleton] at hy;subst hy
  exact h
 | a:: u:: r,h,y,hy => by
  rw [Sh.litsS] at h
  obtain ⟨s,hs⟩:= Option.isSome_iff_exists.1 h
  obtain ⟨b,hb,hs⟩:= Option.bind_eq_some_iff.1 hs
  rcases List.mem_cons.1 hy with rfl | hy
  ·rw [hb];rfl
  ·refine lits_word (l:= u:: r) ?_ y hy
   cases hx: Sh.litsS (u:: r) with
   | none => rw [hx] at hs;cases hs
   | some _ => rfl
theorem term_t0: Sh.termS t0 = none:= by
 unfold Sh.termS
 rw [if_neg (by simp [t0]),if_neg (by simp [t0,k0]),if_neg (by simp [t0,k0,Sh.plainB])]
theorem well_fine {r: Ru} (h: Well r): Fine r:= by
 have hs:= h.shape
 unfold Sh.ruleS at hs
 split at hs
 ·obtain ⟨s,hs⟩:= Option.isSome_iff_exists.1 hs
  obtain ⟨a,ha,hs⟩:= Option.bind_eq_some_iff.1 hs
  obtain ⟨b,hb,hs⟩:= Option.bind_eq_some_iff.1 hs
  obtain ⟨c,_,hs⟩:= Option.bind_eq_some_iff.1 hs
  obtain ⟨d,hd,_⟩:= Option.map_eq_some_iff.1 hs
  refine ⟨fun he => ?_,word_relay (atom_word (by rw [hb];rfl)),fun y hy => word_relay (lit_word (lits_word (by rw [hd];rfl) y hy)),fun k hk hv => Ck.well_at h hk hv,fun t ht hv => ?_⟩
  ·rw [he,term_t0] at ha;cases ha
  ·rcases ht with ht | rfl
   ·exact Ck.well_arg h ht hv
   ·have:= h.opn
    unfold Ck.opn at this
    rw [Bool.or_eq_false_iff] at this
    have h1:= this.1
    unfold Ck.outV at h1
    simp only [Bool.and_eq_false_iff,Bool.not_eq_false'] at h1
    rcases h1 with h1 | h1
    ·exact absurd (by simpa using h1) hv
    ·simpa using h1
 ·cases hs
theorem prog_fine {l: List Ru} (h: (Ck.prog l).1 = 0): ∀ r ∈ l,Fine r:= fun r hr => well_fine ((Ck.prog_ok h).2.1 r hr)
end Lc
end Go.Proofs.YtpdmmmdkpipmkaaGreatDoor
