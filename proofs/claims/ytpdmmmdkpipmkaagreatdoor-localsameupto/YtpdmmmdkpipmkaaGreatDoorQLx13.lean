/-
  The example of chapter 13, by the mathematics: its text is a rule that may be run, and what that becomes. No program in this text.
-/
import Derived.WalkKit
import Derived.Test.YtpdmmmdkpipmkaaGreatDoorQLw
import Derived.Test.YtpdmmmdkpipmkaaGreatDoorQSk
import Derived.Test.YtpdmmmdkpipmkaaGreatDoorQCd
set_option maxRecDepth 100000
namespace Go.Proofs.YtpdmmmdkpipmkaaGreatDoor
namespace Lc
abbrev lx13: List UInt8:= [65,58,32,112,40,88,41,32,58,45,32,113,40,66,41,44,32,114,40,88,41,32,97,116,32,66,46]
def ex13: Ru:= ⟨⟨[65],k0⟩,[112],[⟨[88],k0⟩],t0,[⟨t0,[113],[⟨[66],k0⟩],t0⟩,⟨t0,[114],[⟨[88],k0⟩],⟨[66],k0⟩⟩]⟩
theorem px13: Ps.prog lx13 = .ok [ex13]:= by kernel_rfl
theorem ck13: Ck.prog [ex13] = (0,-1,-1):= by kernel_rfl
def ask13: Ru:= ⟨⟨[65],k0⟩,[126,97,115,107,48,46,49],[⟨[65],k0⟩,⟨[66],k0⟩],⟨[66],k0⟩,[⟨t0,[113],[⟨[66],k0⟩],t0⟩]⟩
def tell13: Ru:= ⟨⟨[66],k0⟩,[126,116,101,108,108,48,46,49],[⟨[65],k0⟩,⟨[66],k0⟩,⟨[88],k0⟩],⟨[65],k0⟩,[⟨⟨[65],k0⟩,[126,97,115,107,48,46,49],[⟨[65],k0⟩,⟨[66],k0⟩],t0⟩,⟨t0,[114],[⟨[88],k0⟩],t0⟩]⟩
def last13: Ru:= ⟨⟨[65],k0⟩,[112],[⟨[88],k0⟩],t0,[⟨⟨[66],k0⟩,[126,116,101,108,108,48,46,49],[⟨[65],k0⟩,⟨[66],k0⟩,⟨[88],k0⟩],t0⟩]⟩
theorem rw13: rw 0 [ex13] = [ask13,tell13,last13]:= by kernel_rfl
end Lc
end Go.Proofs.YtpdmmmdkpipmkaaGreatDoor
namespace Go.Proofs.YtpdmmmdkpipmkaaGreatDoor
namespace Lc
open Mt (Env Tx)
open Ck (bnd wv wl)
theorem wv_all {Q: Tx → Prop} {l: List Tx} {t: Tm} (hl: ∀ v ∈ l,Q v) (ht: Q t.v): ∀ v ∈ wv l t,Q v:= by
 unfold wv
 split
 ·exact hl
 ·intro v hv
  rcases List.mem_append.1 hv with hv | hv
  ·exact hl v hv
  ·rw [List.mem_singleton.1 hv];exact ht
theorem fold_all {Q: Tx → Prop}: ∀ (ts: List Tm) (l: List Tx),(∀ v ∈ l,Q v) → (∀ t ∈ ts,Q t.v) → ∀ v ∈ ts.foldl wv l,Q v
 | [],_,hl,_ => hl
 | t:: r,l,hl,ht => by
  rw [List.foldl_cons]
  exact fold_all r (wv l t) (wv_all hl (ht t (List.mem_cons_self ..))) (fun u hu => ht u (List.mem_cons_of_mem _ hu))
structure GdL (P: Tm → Prop) (n: Nat) (y: Lt): Prop where
 by_: P y.by_
 at_: P y.at_
 args: ∀ t ∈ y.args,P t
 few: y.args.length ≤ n
structure Gd (P: Tm → Prop) (n: Nat) (r: Ru): Prop where
 home: P r.home
 to_: P r.to_
 args: ∀ t ∈ r.args,P t
 na: r.args.length ≤ n
 nb: r.body.length ≤ n
 body: ∀ y ∈ r.body,GdL P n y
theorem wl_all {P: Tm → Prop} {Q: Tx → Prop} (hPQ: ∀ t,P t → Q t.v) {n: Nat} {l: List Tx} {y: Lt} (hl: ∀ v ∈ l,Q v) (hy: GdL P n y): ∀ v ∈ wl l y,Q v:=
 wv_all (fold_all y.args _ (wv_all hl (hPQ _ hy.by_)) (fun t ht => hPQ t (hy.args t ht))) (hPQ _ hy.at_)
theorem bnd_all {P: Tm → Prop} {Q: Tx → Prop} (hPQ: ∀ t,P t → Q t.v) {n: Nat} {r: Ru} (h: Gd P n r) (k: Nat): ∀ v ∈ bnd r k,Q v:= by
 have key: ∀ (ys: List Lt) (l: List Tx),(∀ v ∈ l,Q v) → (∀ y ∈ ys,GdL P n y) → ∀ v ∈ ys.foldl wl l,Q v:= fun ys => by
  induction ys with
  | nil => intro l hl _;exact hl
  | cons y r ih => intro l hl hy;exact ih _ (wl_all hPQ hl (hy y (List.mem_cons_self ..))) (fun z hz => hy z (List.mem_cons_of_mem _ hz))
 exact key _ _ (wv_all (fun _ h => by cases h) (hPQ _ h.home)) (fun y hy => h.body y (List.mem_of_mem_take hy))
theorem bnd_small {P: Tm → Prop} {r: Ru} (h: Gd P 4 r) (k: Nat): (bnd r k).length ≤ 25:= by
 have key: ∀ (ys: List Lt) (l: List Tx),(∀ y ∈ ys,y.args.length ≤ 4) → (ys.foldl wl l).length ≤ l.length + 6 * ys.length:= fun ys => by
  induction ys with
  | nil => intro l _;simp
  | cons y r ih =>
   intro l hy
   have h1:= ih (wl l y) (fun z hz => hy z (List.mem_cons_of_mem _ hz))
   have h2:= Ck.wl_len l y
   have h3:= hy y (List.mem_cons_self ..)
   rw [List.foldl_cons,List.length_cons]
   omega
 have h1:= key (r.body.take k) (wv [] r.home) (fun y hy => (h.body y (List.mem_of_mem_take hy)).few)
 have h2:= Ck.wv_len [] r.home
 have h3:= h.nb
 have h4: (r.body.take k).length ≤ r.body.length:= by rw [List.length_take];omega
 have h5: bnd r k = (r.body.take k).foldl wl (wv [] r.home):= rfl
 rw [h5]
 simp only [List.length_nil] at h2
 omega
theorem vts_all {P: Tm → Prop} {B: List Tx} (h: ∀ v ∈ B,P ⟨v,k0⟩): ∀ t ∈ vts B,P t:= fun t ht => by
 obtain ⟨v,hv,rfl⟩:= List.mem_map.1 ht
 exact h v hv
theorem vts_len (B: List Tx): (vts B).length = B.length:= List.length_map ..
theorem steps_gd {P: Tm → Prop} (h0: P t0) (hv: ∀ t,P t → P ⟨t.v,k0⟩) {i: Nat} {r: Ru} (h: Gd P 4 r): ∀ (ys: List Lt) (k: Nat) (L: List Lt),(∀ y ∈ ys,GdL P 4 y) → (∀ y ∈ L,GdL P 30 y) → L.length + ys.length ≤ 5 → ∀ r' ∈ steps i r k ys L,Gd P 30 r'
 | [],k,L,_,hL,hn => fun r' hr' => by
  rw [steps,List.mem_singleton] at hr'
  subst hr'
  exact ⟨h.home,h.to_,h.args,Nat.le_trans h.na (by decide),by show L.length ≤ 30;simp only [List.length_nil] at hn;omega,hL⟩
 | y:: ys,k,L,hy,hL,hn => fun r' hr' => by
  have y1:= hy y (List.mem_cons_self ..)
  have ba: ∀ j,∀ t ∈ vts (bnd r j),P t:= fun j => vts_all (bnd_all hv h j)
  have bl: ∀ j,(vts (bnd r j)).length ≤ 30:= fun j => by rw [vts_len];have:= bnd_small h j;omega
  have yn: GdL P 30 (noAt y):= ⟨y1.by_,h0,y1.args,Nat.le_trans y1.few (by decide)⟩
  rw [steps] at hr'
  simp only [List.length_cons] at hn
  split at hr'
  ·rcases List.mem_cons.1 hr' with rfl | hr'
   ·exact ⟨h.home,y1.at_,ba k,bl k,by show L.length ≤ 30;omega,hL⟩
   ·rcases List.mem_cons.1 hr' with rfl | hr'
    ·refine ⟨y1.at_,h.home,ba (k + 1),bl (k + 1),by show 2 ≤ 30;decide,fun z hz => ?_⟩
     rcases List.mem_cons.1 hz with rfl | hz
     ·exact ⟨h.home,h0,ba k,bl k⟩
     ·rw [List.mem_singleton.1 hz];exact yn
    ·refine steps_gd h0 hv h ys (k + 1) [tellL i r k y] (fun z hz => hy z (List.mem_cons_of_mem _ hz)) (fun z hz => ?_) (by simp only [List.length_cons,List.length_nil];omega) r' hr'
     rw [List.mem_singleton.1 hz]
     exact ⟨y1.at_,h0,ba (k + 1),bl (k + 1)⟩
  ·refine steps_gd h0 hv h ys (k + 1) (L ++ [noAt y]) (fun z hz => hy z (List.mem_cons_of_mem _ hz)) (fun z hz => ?_) (by simp only [List.length_append,List.length_cons,List.length_nil];omega) r' hr'
   rcases List.mem_append.1 hz with hz | hz
   ·exact hL z hz
   ·rw [List.mem_singleton.1 hz];exact yn
theorem rw_gd {P: Tm → Prop} (h0: P t0) (hv: ∀ t,P t → P ⟨t.v,k0⟩): ∀ {l: List Ru} {i: Nat},(∀ r ∈ l,Gd P 4 r) → ∀ r' ∈ rw i l,Gd P 30 r'
 | [],_,_,r',hr' => by cases hr'
 | r:: l,i,h,r',hr' => by
  rw [rw] at hr'
  rcases List.mem_append.1 hr' with hr' | hr'
  ·have hr:= h r (List.mem_cons_self ..)
   exact steps_gd h0 hv hr r.body 0 [] hr.body (fun _ h => by cases h) (by have:= hr.nb;simp only [List.length_nil];omega) r' hr'
  ·exact rw_gd h0 hv (fun z hz => h z (List.mem_cons_of_mem _ hz)) r' hr'
theorem rw_few: ∀ {l: List Ru} {i: Nat},(∀ r ∈ l,r.body.length ≤ 4) → (rw i l).length ≤ 9 * l.length
 | [],_,_ => by simp [rw]
 | r:: l,i,h => by
  rw [rw,List.length_append,List.length_cons]
  have h1:= one_le i r
  have h2:= h r (List.mem_cons_self ..)
  have h3:= rw_few (l:= l) (i:= i + 1) (fun z hz => h z (List.mem_cons_of_mem _ hz))
  omega
theorem vals_len {d: Env}: ∀ {ts: List Tm} {ks: List K},Mt.vals d ts = some ks → ks.length = ts.length
 | [],ks,h => by
  simp only [Mt.vals,Option.some.injEq] at h
  subst h;rfl
 | t:: ts,ks,h => by
  simp only [Mt.vals] at h
  obtain ⟨c,_,h⟩:= Option.bind_eq_some_iff.1 h
  obtain ⟨cs,h1,h⟩:= Option.map_eq_some_iff.1 h
  subst h
  rw [List.length_cons,List.length_cons,vals_len h1]
theorem head_len {r: Ru} {d: Env} {f: F} (h: Mt.head r d = some f): f.ks.length = r.args.length:= by
 unfold Mt.head Mt.fact at h
 obtain ⟨a,_,h⟩:= Option.bind_eq_some_iff.1 h
 obtain ⟨b,_,h⟩:= Option.bind_eq_some_iff.1 h
 obtain ⟨ks,h1,h⟩:= Option.map_eq_some_iff.1 h
 subst h
 exact vals_len h1
theorem lst_few {w: Ml.Wd} {l: List Ru} {b n: List F} {N: Nat} (h: Ml.Lst w l (sortF b) (some n)) (hb: ∀ x ∈ b,x.ks.length ≤ N) (hl: ∀ r ∈ l,r.args.length ≤ N): ∀ x ∈ n,x.ks.length ≤ N:=
 h.pred (sortF_SS b) (fun x hx => hb x ((mem_sortF b x).1 hx)) fun m _ f hf => by
  obtain ⟨r,hr,_,_,d,_,_,_,hh⟩:= ins_out hf
  rw [head_len hh];exact hl r hr
end Lc
end Go.Proofs.YtpdmmmdkpipmkaaGreatDoor
