/-
  What rewritten rules hold, as the least model's walk asks it.
-/
import Derived.Test.YtpdmmmdkpipmkaaGreatDoorQSe13
import Derived.Test.YtpdmmmdkpipmkaaGreatDoorQWf12
import Derived.Test.YtpdmmmdkpipmkaaGreatDoorQCl12
import Derived.Test.YtpdmmmdkpipmkaaGreatDoorQLx13
import Derived.Test.YtpdmmmdkpipmkaaGreatDoorQLw
set_option maxRecDepth 100000
namespace Go.Proofs.YtpdmmmdkpipmkaaGreatDoor
open Go.RowKit Go.Lib Go.Shelf Go.ChangeShapes Go.WideShapes Go.ChangeAt
theorem ltr_mono {m n: Int} {x: Rv} (h: LtR m x) (hm: m ≤ n): LtR n x:= ⟨by have:= h.args;omega,by have:= h.pred;omega,by have:= h.body;omega,fun l hl => ⟨by have:= (h.each l hl).args;omega,by have:= (h.each l hl).pred;omega⟩⟩
theorem okk0: OkK k0:= ⟨by decide,by decide,by decide⟩
theorem tmb0: TmB t0:= ⟨okk0,by decide⟩
theorem tmb_var {t: Tm} (h: TmB t): TmB ⟨t.v,k0⟩:= ⟨okk0,h.v⟩
theorem RvB.rin {x: Rv} (h: RvB x): Sh.RIn x.r:= by
 refine ⟨⟨h.home.k.1,h.home.k.2.1⟩,fun t ht => ⟨(h.args t ht).k.1,(h.args t ht).k.2.1⟩,⟨h.to_.k.1,h.to_.k.2.1⟩,fun l hl => ?_⟩
 obtain ⟨y,hy,rfl⟩:= List.mem_map.1 hl
 have hb:= h.body y hy
 exact ⟨⟨hb.by_.k.1,hb.by_.k.2.1⟩,fun t ht => ⟨(hb.args t ht).k.1,(hb.args t ht).k.2.1⟩,⟨hb.at_.k.1,hb.at_.k.2.1⟩⟩
theorem RvB.gd {x: Rv} (h: RvB x) (s: Ck.Shown x.r): Lc.Gd TmB 4 x.r:= by
 refine ⟨h.home,h.to_,h.args,s.head.args,s.few,fun l hl => ?_⟩
 have sl:= (s.body l hl).args
 obtain ⟨y,hy,rfl⟩:= List.mem_map.1 hl
 have hb:= h.body y hy
 exact ⟨hb.by_,hb.at_,hb.args,sl⟩
theorem gd_smh {r: Ru} {n: Nat} (h: Lc.Gd TmB n r): SmH r:= ⟨h.home.k,h.to_.k,fun t ht => (h.args t ht).k⟩
theorem gd_smr {x: Rv} (h: Lc.Gd TmB 30 x.r): SmR x:= by
 have l1: x.body.length ≤ 30:= by have:= h.nb;rwa [show x.r.body.length = x.body.length from List.length_map ..] at this
 have l2: x.args.length ≤ 30:= h.na
 have hb: ∀ y ∈ x.body,Lc.GdL TmB 30 y.l:= fun y hy => h.body y.l (List.mem_map_of_mem hy)
 refine ⟨by omega,by omega,fun y hy => by have: y.args.length ≤ 30:= (hb y hy).few;omega,fun v hv => ?_,fun y hy v hv => ?_⟩
 ·unfold Ml.hvars at hv
  simp only [List.mem_cons,List.mem_map] at hv
  rcases hv with rfl | rfl | ⟨t,ht,rfl⟩
  ·exact tm_le h.home
  ·exact tm_le h.to_
  ·exact tm_le (h.args t ht)
 ·have hq:= hb y hy
  unfold Ml.lvars at hv
  simp only [List.mem_cons,List.mem_map] at hv
  rcases hv with rfl | rfl | ⟨t,ht,rfl⟩
  ·first | exact tm_le hq.by_ | exact tm_le hq.at_
  ·first | exact tm_le hq.at_ | exact tm_le hq.by_
  ·exact tm_le (hq.args t ht)
theorem open_textsB13 {H: Type} {enc: TypeId × Value → H} {W: World} {base: Nat} {v: Value} {d: DataW H} {p: List MemPlace} (hw: Rows.uptoBulk d ≤ 1048576) (hv: Value.okWide Tryz.prog W .any base 53 v) (ht: DataW.Trod enc Tryz.prog W 0 (fun _ => true) true 53 v d p): ∃ a c xs,v = .slice a (List.length xs) c ∧ TsB W a c xs:= by
 obtain ⟨a,len,cap,rfl⟩:= okWide_slice Tryz.underlying53 hv
 obtain ⟨fuel,hf⟩:= ht
 obtain ⟨a',c',xs,h1,h2⟩:= cells_textsB hf hw
 simp only [Value.cells,List.cons.injEq,and_true] at h1
 exact ⟨a',c',xs,h1,h2⟩
structure Rwd (xs ys: List Rv): Prop where
 eq: ys.map Rv.r = Lc.rw 0 (xs.map Rv.r)
 gd: ∀ y ∈ ys,Lc.Gd TmB 30 y.r
 len: ys.length ≤ 144
theorem Rwd.of {xs ys: List Rv} (h: ys.map Rv.r = Lc.rw 0 (xs.map Rv.r)) (hx: ∀ x ∈ xs,RvB x) (ok: (Ck.prog (xs.map Rv.r)).1 = 0): Rwd xs ys:= by
 obtain ⟨h16,hW,_⟩:= Ck.prog_ok ok
 have hs: ∀ r ∈ xs.map Rv.r,Lc.Gd TmB 4 r:= fun r hr => by
  have s:= Ck.shown (hW r hr).shape
  obtain ⟨x,hx1,rfl⟩:= List.mem_map.1 hr
  exact (hx x hx1).gd s
 refine ⟨h,fun y hy => ?_, ?_⟩
 ·have: y.r ∈ Lc.rw 0 (xs.map Rv.r):= by rw [← h];exact List.mem_map_of_mem hy
  exact Lc.rw_gd tmb0 (fun _ h => tmb_var h) hs y.r this
 ·have h1:= Lc.rw_few (l:= xs.map Rv.r) (i:= 0) (fun r hr => (hs r hr).nb)
  rw [← h,List.length_map] at h1
  omega
end Go.Proofs.YtpdmmmdkpipmkaaGreatDoor
