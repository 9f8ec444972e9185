/-
  bindings: an iterator over what is bound at the ends of a rule's body.
-/
import Derived.Test.YtdehimbfcilhpaaGreatDoorQTh2
namespace Go.Proofs.YtdehimbfcilhpaaGreatDoor
open Go.RowKit Go.Lib Go.Shelf

/-- WHAT bindings CAPTURED -/
structure BCap (w0 : World) (B b1 b2 b3 : Nat) (r : Rv) (home : List UInt8) (fa : Option Addr) (fc : Nat) (zs : List Fv) (W : World) : Prop where
  rule : W.heap[b1]? = some (.cells (rv r).toArray 62)
  home : W.heap[b2]? = some (.cells #[str home] 9)
  facts : W.heap[b3]? = some (.cells #[.slice fa zs.length fc] 24)
/-- what is known of the rule, the home and the facts -/
structure BIn (w0 : World) (r : Rv) (home : List UInt8) (fa : Option Addr) (fc : Nat) (zs : List Fv) : Prop where
  rule : Rv.Aw w0 r
  sm : SmR r
  hlen : home.length ≤ 1048576
  facts : Fts w0 fa fc zs
  small : ∀ z ∈ zs, SmF z.f
  tab : TabB w0.heap.size w0
  zl : zs.length ≤ 1000000
  few : ∀ e0, Mt.uni r.home (Mt.nm home) [] = some e0 → (Ml.parts r.home (zs.map Fv.f) r.r.body e0).length ≤ 60000
/-- what comes of it: the same heads, not too many -/
def BGot (r : Ru) (home : List UInt8) (m : List F) (ys : List Mt.Env) : Prop :=
  (∀ w : Ml.Wd, ∀ x, x ∈ ys.flatMap (Ml.hd w r) ↔ x ∈ Ml.heads w r m home) ∧ ys.length ≤ 60001
theorem BGot.none {r : Ru} {home : List UInt8} {m : List F} (h : ∀ w : Ml.Wd, Ml.heads w r m home = []) : BGot r home m [] := ⟨fun w x => by rw [h w]; simp, by simp⟩
theorem heads_none {r : Ru} {home : List UInt8} {m : List F} (h : Mt.uni r.home (Mt.nm home) [] = none) (w : Ml.Wd) : Ml.heads w r m home = [] := by unfold Ml.heads; rw [h]
theorem heads_nil {r : Ru} {home : List UInt8} {m : List F} {e0 : Mt.Env} (h : Mt.uni r.home (Mt.nm home) [] = some e0) (he : Ml.envs r.home m r.body e0 = []) (w : Ml.Wd) : Ml.heads w r m home = [] := by unfold Ml.heads; rw [h]; simp only; rw [he]; rfl
theorem BGot.of {x : Wv} {home : List UInt8} {e0 : List Bd} {ys : List Mt.Env} (hu : Mt.uni x.r.home (Mt.nm home) [] = some e0) (hc : Ml.Chs x.r.home (Ml.fsOf (Ml.spans x.r.r)) (Ml.laOf (Ml.spans x.r.r)) e0 (x.zs.map Fv.f) 0 x.r.r.body (x.nvs.map Nv.ns)) (hp : (Ml.parts x.r.home (x.zs.map Fv.f) x.r.r.body e0).length ≤ 60000) (hy : ∀ y, y ∈ ys ↔ y ∈ x.cx.Y 0 e0) (hl : ys.length ≤ (x.cx.Y 0 e0).length) : BGot x.r.r home (x.zs.map Fv.f) ys := by
  have hY : x.cx.Y 0 e0 = Ml.Yw x.r.r.home (Ml.laOf (Ml.spans x.r.r)) (x.zs.map Fv.f) 0 x.r.r.body (x.nvs.map Nv.ns) e0 := by unfold Ml.Cx.Y; rw [List.drop_zero, List.drop_zero]
  refine ⟨fun w y => ?_, ?_⟩
  · have h := (Ml.Yw_heads (w := w) (Ml.spans_spn x.r.r) hu hc).1 y
    rw [← hY] at h
    have e : Ml.heads w x.r.r (x.zs.map Fv.f) home = (Ml.envs x.r.r.home (x.zs.map Fv.f) x.r.r.body e0).flatMap (Ml.hd w x.r.r) := by unfold Ml.heads; rw [show Mt.uni x.r.r.home (Mt.nm home) [] = some e0 from hu]
    rw [e, ← h, List.mem_flatMap, List.mem_flatMap]
    exact ⟨fun ⟨p, hp, hx⟩ => ⟨p, (hy p).1 hp, hx⟩, fun ⟨p, hp, hx⟩ => ⟨p, (hy p).2 hp, hx⟩⟩
  · have h := (Ml.Yw_heads (w := ⟨[], []⟩) (Ml.spans_spn x.r.r) hu hc).2
    rw [← hY] at h
    have := Ml.envs_parts (home := x.r.home) (m := x.zs.map Fv.f) x.r.r.body e0
    have h2 : (Ml.envs x.r.r.home (x.zs.map Fv.f) x.r.r.body e0).length = (Ml.envs x.r.home (x.zs.map Fv.f) x.r.r.body e0).length := rfl
    omega
/-- what p's head is, is one of the rule's heads -/
def HdIn (r : Ru) (home : List UInt8) (m : List F) (p : Mt.Env) : Prop := ∀ w : Ml.Wd, ∀ x ∈ Ml.hd w r p, x ∈ Ml.heads w r m home
theorem HdIn.of {x : Wv} {home : List UInt8} {e0 : List Bd} (hu : Mt.uni x.r.home (Mt.nm home) [] = some e0) (hc : Ml.Chs x.r.home (Ml.fsOf (Ml.spans x.r.r)) (Ml.laOf (Ml.spans x.r.r)) e0 (x.zs.map Fv.f) 0 x.r.r.body (x.nvs.map Nv.ns)) {p : Mt.Env} (hp : p ∈ x.cx.Y 0 e0) : HdIn x.r.r home (x.zs.map Fv.f) p := fun w y hy => by
  have hY : x.cx.Y 0 e0 = Ml.Yw x.r.r.home (Ml.laOf (Ml.spans x.r.r)) (x.zs.map Fv.f) 0 x.r.r.body (x.nvs.map Nv.ns) e0 := by unfold Ml.Cx.Y; rw [List.drop_zero, List.drop_zero]
  have h := (Ml.Yw_heads (w := w) (Ml.spans_spn x.r.r) hu hc).1 y
  rw [← hY] at h
  have e : Ml.heads w x.r.r (x.zs.map Fv.f) home = (Ml.envs x.r.r.home (x.zs.map Fv.f) x.r.r.body e0).flatMap (Ml.hd w x.r.r) := by unfold Ml.heads; rw [show Mt.uni x.r.r.home (Mt.nm home) [] = some e0 from hu]
  rw [e, ← h, List.mem_flatMap]
  exact ⟨p, hp, hy⟩
theorem iR11 : (Tryz.prog.info? 62).map (·.size) = some 11 := by kernel_rfl

set_option maxRecDepth 100000 in
set_option maxHeartbeats 2000000 in
theorem bind_at (w0 : World) (b1 b2 b3 : Nat) (r : Rv) (home : List UInt8) (fa : Option Addr) (fc : Nat) (zs : List Fv) (X : Nat → Prop) (l : Nat) (J Jx : List Mt.Env → World → Prop) (W : World) (hi : BIn w0 r home fa fc zs) (hc : BCap w0 W.heap.size b1 b2 b3 r home fa fc zs W) (hX : ∀ k, X k → w0.heap.size ≤ k ∧ k < W.heap.size)
    (hJ : ∀ s A A', J s A → Itr 166 W.heap.size A A' → J s A') (hJx : ∀ s A A', Jx s A → Itr 166 W.heap.size A A' → Jx s A')
    (hY : ∀ pre p v W1, J pre W1 → EltE W.heap.size p v W1 → pre.length < 60001 → HdIn r.r home (zs.map Fv.f) p → YieldAt Fence.wide 0 Tryz.prog l #[v] W1 fun e W' => (e = .returned (.bool true) ∧ J (pre ++ [p]) W' ∧ Rnd w0.heap.size X W1 W') ∨ (e = .returned (.bool false) ∧ Jx (pre ++ [p]) W'))
    (hb : Below w0.heap.size w0 W) (h0 : J [] W) :
    Calls Tryz.prog 78 #[.func (.yield l) #[] #[], ptr b1, ptr b2, ptr b3] W fun e W' => (∃ v, e = .returned v) ∧ ((∃ ys, BGot r.r home (zs.map Fv.f) ys ∧ J ys W') ∨ (∃ pre, Jx pre W')) := by
  have TRu := Tryz.underlying62
  have TTu := Tryz.underlying58
  have RB : ∀ W', Below W.heap.size W W' → BCap w0 W.heap.size b1 b2 b3 r home fa fc zs W' := fun W' h => ⟨below_heap h hc.rule, below_heap h hc.home, below_heap h hc.facts⟩
  have hlow := hb.size
  have r0 : W.rangeAt b1 0 (tv r.home) := World.rangeAt_of_block hc.rule 0 4
  have c2 : W.cell? ⟨b2, 0, none⟩ = some (str home) := by rw [heap_cell hc.home]; rfl
  have TU := hideP (mUnifyO_at r.home (Mt.nm home) none 0 [] W (Row.nil _ _) (by simp))
  have HI := hideP hi
  have HY := hideP hY
  have HJ := hideP hJ
  have HJX := hideP hJx
  have HX := hideP hX
  have HRB := hideP RB
  clear hi hY hJ hJx hX RB hc
  go_enter Tryz.func78, Tryz.ntmps78
  go_wp2_with (refine wpList_load_mid rfl 58 _ rfl b1 0 rfl (tv r.home) _ r0 TTu rfl iT4 ?_)
  refine TU.out.mono ?_
  rintro e w1 ⟨⟨a1, c1, rfl, R1, F1⟩, B1⟩
  cases hu : Mt.uni r.home (Mt.nm home) [] with
  | none =>
    have hE : uniE r.home (Mt.nm home) [] = [] := by unfold uniE; rw [hu]; rfl
    have hB : uniB r.home (Mt.nm home) [] = false := by unfold uniB; rw [hu]; rfl
    have G := hideP (BGot.none (heads_none (r := r.r) (m := zs.map Fv.f) hu))
    have J1 := HJ.out _ _ _ h0 (Itr.below B1 (Nat.le_refl _))
    rw [hE, hB]
    clear hu hE hB R1
    go_wp2_with fail
    refine bodyPost_ret (results_none rfl _ _ _) rfl ?_
    exact ⟨⟨_, rfl⟩, .inl ⟨[], G.out, J1⟩⟩
  | some e0 =>
    have hE : uniE r.home (Mt.nm home) [] = e0 := by unfold uniE; rw [hu]; rfl
    have hB : uniB r.home (Mt.nm home) [] = true := by unfold uniB; rw [hu]; rfl
    rw [hE] at R1
    rw [hE, hB]
    have HU := hideP hu
    clear hu hE hB TU
    have C1 := HRB.out w1 B1
    have L1 : w1.heap[b1]? = some (.cells [str r.home.v, .bool r.home.k.num, .int .i64 r.home.k.n, str r.home.k.s, str r.pred, .slice r.a r.args.length r.cap, str r.to_.v, .bool r.to_.k.num, .int .i64 r.to_.k.n, str r.to_.k.s, .slice r.ba r.body.length r.bcap].toArray 62) := C1.rule
    have hbw1 : Below w0.heap.size w0 w1 := hb.trans (B1.mono hlow)
    have TS := hideP (spansOf_at r w1 (HI.out.rule.below hbw1 (Nat.le_refl _)) HI.out.sm)
    go_wp2_with (refine wpList_load_all rfl 62 _ rfl b1 11 62 [str r.home.v, .bool r.home.k.num, .int .i64 r.home.k.n, str r.home.k.s, str r.pred, .slice r.a r.args.length r.cap, str r.to_.v, .bool r.to_.k.num, .int .i64 r.to_.k.n, str r.to_.k.s, .slice r.ba r.body.length r.bcap] _ rfl (by with_reducible exact L1) rfl TRu rfl iR11 ?_)
    refine TS.out.mono ?_
    rintro e w2 ⟨bs, rfl, S2, hbs, B2⟩
    have T2 := Below.then B1 B2
    have C2 := HRB.out w2 T2
    have L2 : w2.heap[b1]? = some (.cells [str r.home.v, .bool r.home.k.num, .int .i64 r.home.k.n, str r.home.k.s, str r.pred, .slice r.a r.args.length r.cap, str r.to_.v, .bool r.to_.k.num, .int .i64 r.to_.k.n, str r.to_.k.s, .slice r.ba r.body.length r.bcap].toArray 62) := C2.rule
    have d2 : w2.cell? ⟨b3, 0, none⟩ = some (.slice fa zs.length fc) := by rw [heap_cell C2.facts]; rfl
    have hbw2 : Below w0.heap.size w0 w2 := hb.trans (T2.mono hlow)
    have R2 := R1.safe (Safe.below B2 : Safe 99 _ _)
    have TC := hideP (choices_at r a1 c1 e0 (Mt.nm home) fa fc zs bs 100000 w2 (HI.out.rule.below hbw2 (Nat.le_refl _)) HI.out.sm R2.row (HI.out.facts.below hbw2) S2 HU.out HI.out.zl)
    clear TS L1 C1 R1
    go_wp2_with (refine wpList_load_all rfl 62 _ rfl b1 11 62 [str r.home.v, .bool r.home.k.num, .int .i64 r.home.k.n, str r.home.k.s, str r.pred, .slice r.a r.args.length r.cap, str r.to_.v, .bool r.to_.k.num, .int .i64 r.to_.k.n, str r.to_.k.s, .slice r.ba r.body.length r.bcap] _ rfl (by with_reducible exact L2) rfl TRu rfl iR11 ?_)
    refine TC.out.mono ?_
    rintro e w3 ⟨hcase, B3⟩
    have T3 := Below.then T2 B3
    rcases hcase with ⟨na, nc, nvs, rfl, NU, FN, FNs, CH⟩ | ⟨rfl, hnone⟩
    · have C3 := HRB.out w3 T3
      have L3 : w3.heap[b1]? = some (.cells [str r.home.v, .bool r.home.k.num, .int .i64 r.home.k.n, str r.home.k.s, str r.pred, .slice r.a r.args.length r.cap, str r.to_.v, .bool r.to_.k.num, .int .i64 r.to_.k.n, str r.to_.k.s, .slice r.ba r.body.length r.bcap].toArray 62) := C3.rule
      have d3 : w3.cell? ⟨b3, 0, none⟩ = some (.slice fa zs.length fc) := by rw [heap_cell C3.facts]; rfl
      have hmk := @run_makeMap Tryz.prog
      have A4 := below_alloc w3 (.map #[] 0)
      have A5 := below_alloc (w3.alloc (.map #[] 0)) (.cells (Wv.cells ⟨r, fa, fc, zs, bs, na, nc, nvs, w3.heap.size⟩) 136)
      have A45 := Below.then A4 A5
      have T5 := Below.then T3 A45
      have hbw5 : Below w0.heap.size w0 _ := hb.trans (T5.mono hlow)
      have M5 := (met_new w3).next A5
      have S3 := S2.next B3
      have S5 := S3.next A45
      have hne : bs ≠ w3.heap.size := by have := S3.lt; omega
      have R5 := (R2.safe (Safe.below B3 : Safe 99 _ _)).safe (Safe.below A45 : Safe 99 _ _)
      have N5 := NU.safe (Safe.below A45) (Safe.below A45)
      have J5 := HJ.out _ _ _ h0 (Itr.below T5 (Nat.le_refl _))
      have PF := HI.out.few e0 HU.out
      have E0 := Ml.E0.of (r := r.r) HU.out
      have e0l : e0.length ≤ 1 := by have := Mt.uni_len HU.out; simpa using this
      have OK0 : OkE 0 e0 := ⟨fun b hb => ⟨by rw [E0.home b.1 (List.mem_map_of_mem hb)]; exact HI.out.sm.head _ (List.mem_cons_self ..), Ml.uni_vals (P := OkK) (fun _ h => by cases h) ⟨by show (-9223372036854775808 : Int) ≤ 0; omega, by show (0 : Int) ≤ 9223372036854775807; omega, HI.out.hlen⟩ HU.out b hb⟩, E0.nodup, by omega⟩
      have YL : (Ml.Cx.Y (Wv.cx ⟨r, fa, fc, zs, bs, na, nc, nvs, w3.heap.size⟩) 0 e0).length ≤ 60001 := by
        have h1 := (Ml.Yw_heads (w := ⟨[], []⟩) (Ml.spans_spn r.r) HU.out CH).2
        have h2 := Ml.envs_parts (home := r.home) (m := zs.map Fv.f) r.r.body e0
        have h3 : (Ml.envs r.r.home (zs.map Fv.f) r.r.body e0).length = (Ml.envs r.home (zs.map Fv.f) r.r.body e0).length := rfl
        have h4 : (Ml.Cx.Y (Wv.cx ⟨r, fa, fc, zs, bs, na, nc, nvs, w3.heap.size⟩) 0 e0).length = (Ml.Yw r.r.home (Ml.laOf (Ml.spans r.r)) (zs.map Fv.f) 0 r.r.body (nvs.map Nv.ns) e0).length := by unfold Ml.Cx.Y; rw [List.drop_zero, List.drop_zero]
        omega
      have PL : (Ml.Cx.P (Wv.cx ⟨r, fa, fc, zs, bs, na, nc, nvs, w3.heap.size⟩) 0 e0).length ≤ 60000 := by
        have h1 := Ml.Pw_len (Ml.spans_spn r.r) r.r.body (nvs.map Nv.ns) 0 e0 e0 (by simp) CH (Ml.Sim.refl _ _ _)
        have h4 : (Ml.Cx.P (Wv.cx ⟨r, fa, fc, zs, bs, na, nc, nvs, w3.heap.size⟩) 0 e0).length = (Ml.Pw r.r.home (Ml.laOf (Ml.spans r.r)) (zs.map Fv.f) 0 r.r.body (nvs.map Nv.ns) e0).length := by unfold Ml.Cx.P; rw [List.drop_zero, List.drop_zero]
        have h5 : (Ml.parts r.r.home (zs.map Fv.f) r.r.body e0).length = (Ml.parts r.home (zs.map Fv.f) r.r.body e0).length := rfl
        omega
      have WI : WkIn ⟨r, fa, fc, zs, bs, na, nc, nvs, w3.heap.size⟩ w0 W.heap.size e0 := ⟨HI.out.rule, HI.out.sm, HI.out.facts, HI.out.small, HI.out.tab, hlow, by show W.heap.size ≤ bs; have := B1.size; omega, T3.size, From.mono FN T2.size, fun y hy => From.mono (FNs y hy) T2.size, CH, PL, OK0, HI.out.zl, hne⟩
      have TT := hideP (through_at ⟨r, fa, fc, zs, bs, na, nc, nvs, w3.heap.size⟩ w0 W.heap.size 100000 X e0 a1 c1 l J Jx _ WI HX.out HJ.out HJX.out (fun pre p v W1 h1 h2 h3 h4 => HY.out pre p v W1 h1 h2 (by omega) (HdIn.of (x := ⟨r, fa, fc, zs, bs, na, nc, nvs, w3.heap.size⟩) HU.out CH h4)) hbw5 T5.size S5 N5 M5 R5 F1 J5)
      have GOT := hideP (fun ys (h : (∀ y, y ∈ ys ↔ y ∈ Ml.Cx.Y (Wv.cx ⟨r, fa, fc, zs, bs, na, nc, nvs, w3.heap.size⟩) 0 e0) ∧ ys.length ≤ (Ml.Cx.Y (Wv.cx ⟨r, fa, fc, zs, bs, na, nc, nvs, w3.heap.size⟩) 0 e0).length) => BGot.of (x := ⟨r, fa, fc, zs, bs, na, nc, nvs, w3.heap.size⟩) HU.out CH PF h.1 h.2)
      clear TC WI PL YL OK0 E0 J5 N5 R5 S5 M5 hbw5 CH PF NU FN FNs S3
      go_wp2_with (refine wpList_load_all rfl 62 _ rfl b1 11 62 [str r.home.v, .bool r.home.k.num, .int .i64 r.home.k.n, str r.home.k.s, str r.pred, .slice r.a r.args.length r.cap, str r.to_.v, .bool r.to_.k.num, .int .i64 r.to_.k.n, str r.to_.k.s, .slice r.ba r.body.length r.bcap] _ rfl (by with_reducible exact L3) rfl TRu rfl iR11 ?_)
      refine TT.out.mono ?_
      rintro e w6 ⟨⟨v, rfl⟩, ⟨ys, hys, J6⟩ | ⟨pre, J6⟩⟩
      · have G := hideP (GOT.out ys hys)
        clear hys GOT TT
        go_wp2_with fail
        go_end0
        exact ⟨⟨_, rfl⟩, .inl ⟨ys, G.out, J6⟩⟩
      · clear GOT TT
        go_wp2_with fail
        go_end0
        exact ⟨⟨_, rfl⟩, .inr ⟨pre, J6⟩⟩
    · have G := hideP (BGot.none (heads_nil (r := r.r) (m := zs.map Fv.f) HU.out hnone))
      have J3 := HJ.out _ _ _ h0 (Itr.below T3 (Nat.le_refl _))
      clear hnone TC
      go_wp2_with fail
      refine bodyPost_ret (results_none rfl _ _ _) rfl ?_
      exact ⟨⟨_, rfl⟩, .inl ⟨[], G.out, J3⟩⟩
end Go.Proofs.YtdehimbfcilhpaaGreatDoor
