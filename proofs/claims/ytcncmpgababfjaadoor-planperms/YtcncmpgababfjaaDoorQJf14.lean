/-
  An order as it grows, in memory; take.
-/
import Derived.Test.YtcncmpgababfjaaDoorQJd14
import Derived.Test.YtcncmpgababfjaaDoorQBt
namespace Go.Proofs.YtcncmpgababfjaaDoor
open Go.RowKit Go.Lib Go.Shelf

theorem row_blk14 {α : Type} (D : Kd α) {w : World} {b : Nat} {c : Array Value} {t : TypeId} (hb : w.heap[b]? = some (.cells c t)) (xs : List α) (h : c.toList = xs.flatMap D.enc) (hl : xs.length ≤ 4398046510976) : Row D w (some ⟨b, 0, none⟩) xs.length xs :=
  ⟨Nat.le_refl _, hl, (fun h => by cases h), fun ad ha j u hu => by
    cases ha
    rw [Addr.add_lit, heap_cell hb, Nat.zero_add, ← Array.getElem?_toList, h]
    exact hu⟩
/-- whether a literal was taken -/
def bvs (n : Nat) (p : List Nat) : Array Value := ((List.range n).map fun k => Value.bool (decide (k ∈ p))).toArray
theorem bvs_size (n : Nat) (p : List Nat) : (bvs n p).size = n := by simp [bvs]
theorem bvs_get {n : Nat} (p : List Nat) {k : Nat} (h : k < n) : (bvs n p)[k]? = some (.bool (decide (k ∈ p))) := by
  unfold bvs
  rw [List.getElem?_toArray, List.getElem?_map, List.getElem?_range h]; rfl
theorem bvs_set (n : Nat) (p : List Nat) (i : Nat) : (bvs n p).setIfInBounds i (.bool true) = bvs n (p ++ [i]) := by
  apply Array.ext
  · simp [bvs]
  · intro k h1 h2
    have hk : k < n := by simpa [bvs] using h2
    rw [Array.getElem_setIfInBounds (by simpa [bvs] using hk)]
    by_cases e : i = k
    · subst e
      rw [if_pos rfl]; simp [bvs]
    · rw [if_neg e]
      simp only [bvs, List.getElem_toArray, List.getElem_map, List.getElem_range, Value.bool.injEq, decide_eq_decide, List.mem_append, List.mem_singleton]
      exact ⟨.inl, fun h => h.resolve_right fun h => e h.symm⟩

/-- where an order's parts lie: from B on, ahead of the world w0 -/
structure Pl14 (B ob tb kb bm base : Nat) (w0 : World) : Prop where
  b1 : B ≤ ob
  b2 : B ≤ tb
  b3 : B ≤ kb
  b4 : B ≤ bm
  k : kb < base
  m : bm < base
  o : ob < base
  t : tb < base
  z : base ≤ w0.heap.size
abbrev oCells (x : Rv) (nu : Value) (tb kb bm : Nat) : Array Value := #[.slice x.ba x.body.length x.bcap, nu, .slice (some ⟨tb, 0, none⟩) x.body.length x.body.length, .slice (some ⟨kb, 0, none⟩) x.body.length x.body.length, .map (some bm)]
/-- AN ORDER in the world w: known are V, its numbers are o, p are told as taken -/
structure OrdAt (ob tb kb bm base : Nat) (x : Rv) (w0 w : World) (nu : Value) (V : List (List UInt8)) (o p : List Nat) : Prop where
  obj : w.heap[ob]? = some (.cells (oCells x nu tb kb bm) 48)
  nums : w.ownsInts w0.heap.size 3 .i64 nu (nInts o)
  taken : w.heap[tb]? = some (.cells (bvs x.body.length p) 4)
  known : w.heap[kb]? = some (.cells (nvs (Pn.kts x.r V)) 3)
  tell : TellAt w0 w bm base (Pn.wts x.r V)
  same : ∀ k, base ≤ k → k < w0.heap.size → w.heap[k]? = w0.heap[k]?
  size : w0.heap.size ≤ w.heap.size
/-- what a step on an order leaves -/
structure Kw14 (B : Nat) (w w' : World) : Prop where
  bel : Below B w w'
  safe : ∀ ty : TypeId, ty ≠ 3 → ty ≠ 4 → ty ≠ 48 → Safe ty w w'
theorem Kw14.refl (B : Nat) (w : World) : Kw14 B w w := ⟨Below.refl _ _, fun _ _ _ _ => Safe.refl _ _⟩
theorem Kw14.trans {B : Nat} {a b c : World} (h : Kw14 B a b) (g : Kw14 B b c) : Kw14 B a c := ⟨h.bel.trans g.bel, fun ty h1 h2 h3 => (h.safe ty h1 h2 h3).trans (g.safe ty h1 h2 h3)⟩
theorem Kw14.of {B : Nat} {w w' : World} (h : Kq14 B w w') : Kw14 B w w' := ⟨h.bel, fun ty h1 _ _ => h.safe ty h1⟩
theorem Kw14.next {B : Nat} {w w' : World} (h : Below w.heap.size w w') (hB : B ≤ w.heap.size) : Kw14 B w w' := .of (Kq14.next h hB)
theorem Kw14.heap {B : Nat} {w w' : World} (h : Kw14 B w w') {b : Nat} {C : Array Value} {ty : TypeId} (hb : w.heap[b]? = some (.cells C ty)) (h1 : ty ≠ 3) (h2 : ty ≠ 4) (h3 : ty ≠ 48) : w'.heap[b]? = some (.cells C ty) := h.safe ty h1 h2 h3 b C hb
theorem Kw14.but {B b : Nat} {w w' : World} {C : Array Value} {t : TypeId} (h : But b w w') (hb : w.heap[b]? = some (.cells C t)) (hB : B ≤ b) (ht : t = 4 ∨ t = 48) : Kw14 B w w' :=
  ⟨h.lower hB (Nat.le_trans hB (Nat.le_of_lt (heap_lt hb))), fun _ _ h2 h3 => Safe.but h hb (fun e => ht.elim (fun e' => h2 (e.trans e')) (fun e' => h3 (e.trans e')))⟩

section
variable {B ob tb kb bm base : Nat} {x : Rv} {w0 w w' : World} {nu : Value} {V : List (List UInt8)} {o p : List Nat}
theorem OrdAt.next (h : OrdAt ob tb kb bm base x w0 w nu V o p) (hb : Below w.heap.size w w') : OrdAt ob tb kb bm base x w0 w' nu V o p :=
  ⟨below_heap hb h.obj, ints_keep h.nums fun k hk _ => hb.block k hk, below_heap hb h.taken, below_heap hb h.known, h.tell.next hb, fun k h1 h2 => (hb.block k (Nat.lt_of_lt_of_le h2 h.size)).trans (h.same k h1 h2), Nat.le_trans h.size hb.size⟩
/-- a number more -/
theorem OrdAt.push (h : OrdAt ob tb kb bm base x w0 w nu V o p) (pl : Pl14 B ob tb kb bm base w0) {w4 : World} {v' : Value} {i : Nat} (hg : w.grownBy w4 nu.ownBlock) (hn : w4.ownsInts w0.heap.size 3 .i64 v' (nInts (o ++ [i]))) (hB : B ≤ w.heap.size) :
    OrdAt ob tb kb bm base x w0 (w4.setCell ⟨ob, 1, none⟩ v') v' V (o ++ [i]) p ∧ Kw14 B w (w4.setCell ⟨ob, 1, none⟩ v') := by
  have hlow : ∀ k, k < w0.heap.size → w4.heap[k]? = w.heap[k]? := fun k hk => hg.block k (Nat.lt_of_lt_of_le hk h.size) fun e => by have := (h.nums.1.lt k e.symm).1; omega
  have := pl.o
  have := pl.z
  have h4 := (hlow ob (by omega)).trans h.obj
  have bS := (But.refl ob w4).set 1 v'
  have hz : w0.heap.size ≤ w4.heap.size := Nat.le_trans h.size hg.size
  have up : ∀ k, k < w0.heap.size → k ≠ ob → (w4.setCell ⟨ob, 1, none⟩ v').heap[k]? = w.heap[k]? := fun k hk hn => (bS.block k (Nat.lt_of_lt_of_le hk hz) hn).trans (hlow k hk)
  have := pl.k
  have := pl.m
  have := pl.z
  have n1 : tb ≠ ob := fun e => by have := h.taken; rw [e, h.obj] at this; injection this with this; injection this with _ this; exact absurd this (by decide)
  have n2 : kb ≠ ob := fun e => by have := h.known; rw [e, h.obj] at this; injection this with this; injection this with _ this; exact absurd this (by decide)
  obtain ⟨es, clock, hm⟩ := h.tell.map
  have n3 : bm ≠ ob := fun e => by rw [e, h.obj] at hm; cases hm
  refine ⟨⟨?_, ?_, (up tb (by have := pl.t; omega) n1).trans h.taken, (up kb (by omega) n2).trans h.known, h.tell.keep (up bm (by omega) n3), fun k h1 h2 => ?_, Nat.le_trans hz bS.size⟩, ?_⟩
  · rw [heap_setCell_same w4 ob 1 _ _ _ h4]; rfl
  · exact ints_keep hn fun k hk hk2 => bS.block k hk (by have := pl.o; omega)
  · rw [up k h2 (by omega)]; exact h.same k h1 h2
  · exact (Kw14.of (Kq14.grown h.nums hg (by have := pl.b1; have := pl.o; omega) hB)).trans (Kw14.but bS h4 pl.b1 (.inr rfl))
/-- a literal is told as taken -/
theorem OrdAt.mark (h : OrdAt ob tb kb bm base x w0 w nu V o p) (pl : Pl14 B ob tb kb bm base w0) (i : Nat) : OrdAt ob tb kb bm base x w0 (w.setCell ⟨tb, i, none⟩ (.bool true)) nu V o (p ++ [i]) ∧ Kw14 B w (w.setCell ⟨tb, i, none⟩ (.bool true)) := by
  have bS := (But.refl tb w).set i (.bool true)
  have := pl.t
  have := pl.z
  have n1 : ob ≠ tb := fun e => by have := h.obj; rw [e, h.taken] at this; injection this with this; injection this with _ this; exact absurd this (by decide)
  have n2 : kb ≠ tb := fun e => by have := h.known; rw [e, h.taken] at this; injection this with this; injection this with _ this; exact absurd this (by decide)
  obtain ⟨es, clock, hm⟩ := h.tell.map
  have n3 : bm ≠ tb := fun e => by rw [e, h.taken] at hm; cases hm
  refine ⟨⟨bS.heap n1 h.obj, ints_keep h.nums fun k hk hk2 => bS.block k hk (by omega), ?_, bS.heap n2 h.known, h.tell.but bS n3.symm, fun k h1 h2 => ?_, Nat.le_trans h.size bS.size⟩, Kw14.but bS h.taken pl.b2 (.inl rfl)⟩
  · rw [heap_setCell_same w tb i _ _ _ h.taken, bvs_set]
  · rw [bS.block k (Nat.lt_of_lt_of_le h2 h.size) (by omega)]; exact h.same k h1 h2
/-- variables are known -/
theorem OrdAt.learn (h : OrdAt ob tb kb bm base x w0 w nu V o p) (pl : Pl14 B ob tb kb bm base w0) {U : List (List UInt8)} (hl : Lk14 kb bm w w') (hk : w'.heap[kb]? = some (.cells (nvs (Pn.kts x.r U)) 3)) (ht : TellAt w0 w' bm base (Pn.wts x.r U)) :
    OrdAt ob tb kb bm base x w0 w' nu U o p ∧ Kw14 B w w' := by
  obtain ⟨es, clock, hm⟩ := h.tell.map
  have Q := hl.kq h.known hm pl.b3 pl.b4
  have := pl.k
  have := pl.m
  have := pl.z
  exact ⟨⟨Q.heap h.obj (by decide), ints_keep h.nums fun k hk hk2 => hl.block k hk (by omega) (by omega), Q.heap h.taken (by decide), hk, ht, fun k h1 h2 => (hl.block k (Nat.lt_of_lt_of_le h2 h.size) (by omega) (by omega)).trans (h.same k h1 h2), Nat.le_trans h.size hl.size⟩, .of Q⟩
end
end Go.Proofs.YtcncmpgababfjaaDoor

/-
  take, next.
-/
namespace Go.Proofs.YtcncmpgababfjaaDoor
open Go.RowKit Go.Lib Go.Shelf

theorem Tryd.iL14 : (Tryd.prog.info? 39).map (·.size) = some 10 := by kernel_rfl
theorem Tryd.iTz14 : (Tryd.prog.info? 25).map (fun i => (i.zero, i.size, i.bytes)) = some (some (.agg #[.string .empty, .bool false, .int .i64 0, .string .empty]), 4, 48) := by kernel_rfl

set_option maxRecDepth 100000 in
set_option maxHeartbeats 2000000 in
theorem take_at (x : Rv) (wa w0 w : World) (ob tb kb bm base : Nat) (nu : Value) (V : List (List UInt8)) (o p : List Nat) (i : Nat) (hi : i < x.body.length) (h : OrdAt ob tb kb bm base x w0 w nu V o p) (pl : Pl14 wa.heap.size ob tb kb bm base w0)
    (hx : Rv.Aw wa x) (hw : Below wa.heap.size wa w) (hn : x.body.length ≤ 1000000) (hT : Pn.tot x.r x.body.length ≤ 900000) (hs : ∀ y ∈ x.body, ∀ v ∈ Pn.lvs y.l, v.length ≤ maxLen) (ho : o.length ≤ 1000000) :
    Calls Tryd.prog 12 #[ptr ob, .int .i64 (i : Int)] w fun e w' => e = .returned (.tuple #[]) ∧ (∃ nu', OrdAt ob tb kb bm base x w0 w' nu' (V ++ Pn.lvs (x.body[i]).l) (o ++ [i]) (p ++ [i])) ∧ Kw14 wa.heap.size w w' := by
  obtain ⟨i0, hi0, hz0, hz1, hz2⟩ := info_parts Tryd.iN14
  have TL := Tryd.underlying39
  have TT := Tryd.underlying25
  have wf0 := WalkArith.wf_i64 (n := (i : Int)) (by omega)
  have one0 : ∀ u ∈ [Value.int .i64 (i : Int)], u.oneCell' = true := fun u hu => by rw [List.mem_singleton] at hu; subst hu; rfl
  have app0 : ∀ l : List Nat, nInts l ++ [(i : Int)] = nInts (l ++ [i]) := fun l => by simp [nInts]
  have qi : (i : Int) < (x.body.length : Int) := by omega
  have hBw : wa.heap.size ≤ w.heap.size := hw.size
  have Rw := hx.body.below hw (Nat.le_refl _)
  obtain ⟨b, oo, hba⟩ := Rw.addr (by omega)
  rw [hba] at Rw
  have rg := Rw.range i hi
  have yA := hideP (fun W (h : Below wa.heap.size wa W) => (hx.each _ (List.getElem_mem hi)).below h (Nat.le_refl _))
  have ys := hideP (hs _ (List.getElem_mem hi))
  have O1 := h.obj
  unfold oCells at O1
  rw [hba] at O1
  have few := Rw.few
  have yfew := ((hx.each _ (List.getElem_mem hi)) : Row tK _ _ _ _).few
  generalize x.body[i] = y at *
  have H1 := heap_alloc_new w (.cells #[.string { data := #[] }, .bool false, .int .i64 0, .string { data := #[] }, .string { data := #[] }, .slice none 0 0, .string { data := #[] }, .bool false, .int .i64 0, .string { data := #[] }] 39)
  have c0 : w.cell? ⟨ob, 0, none⟩ = some (.slice (some ⟨b, oo, none⟩) x.body.length x.bcap) := by rw [heap_cell O1]; rfl
  have l63 : (nInts o).length + 1 ≤ maxLen := by rw [nInts_len]; unfold maxLen; omega
  have lby : ((nInts o).length + 1) * 8 ≤ 140737488355328 := by rw [nInts_len]; omega
  go_enter Tryd.func12, Tryd.ntmps12
  go_wp2_with (first
    | (refine wpList_load_mid rfl 39 _ rfl b (oo + i * 10) rfl (lv y) _ rg TL rfl Tryd.iL14 ?_)
    | (refine wpList_store_all rfl 39 _ _ rfl w.heap.size 10 _ 39 (lv y) rfl rfl H1 rfl rfl Tryd.iL14 rfl ?_; intro w2 H2 b2
       have B2 := below_tok b2
       have O2 := h.next B2
       have o2 := O2.obj
       have c2 : w2.cell? ⟨ob, 1, none⟩ = some nu := (by rw [heap_cell o2]; rfl)
       clear b2)
    | (at_builtin; refine wpList_append_own_at _ rfl _ _ 34 rfl w0.heap.size 3 i0 (.int .i64 0) 1 8 Tryd.underlying34 hi0 hz0 hz1 hz2 rfl (by decide) _ _ _ rfl (O2.nums.1.alloc _) ⟨w2.heap.size, 0, none⟩ 1 1 [.int .i64 (i : Int)] rfl rfl (cell_one_new _ _ _) one0 l63 lby (by have := O2.size; simp; omega) ?_; intro v' w4 hown hgrow hnil hloc
       have hi4 := O2.nums.appended hown wf0
       rw [app0] at hi4
       have hg4 := (World.grownBy_alloc w2 (.cells #[.int .i64 (i : Int)] 3) nu.ownBlock).trans hgrow
       obtain ⟨a4, c4, e4, _, _⟩ := told_slice hi4 (by simp only [List.length_append, List.length_cons, List.length_nil]; omega)
       generalize (o ++ [i]).length = nn at e4
       subst e4
       obtain ⟨O5, K5⟩ := O2.push pl hg4 hi4 (Nat.le_trans hBw B2.size)
       have o4 := Safe.grown (hown := O2.nums.1.alloc (.cells #[.int .i64 (i : Int)] 3)) hgrow (show (48 : TypeId) ≠ 3 by decide) _ _ (below_heap (below_alloc w2 (.cells #[.int .i64 (i : Int)] 3)) o2)
       have d4 : w4.cell? ⟨ob, 1, none⟩ = some nu := (by rw [heap_cell o4]; rfl)
       have z4 : w4.frozen? ⟨ob, 1, none⟩ = false := heap_frozen o4 _
       have H5 := K5.heap H2 (by decide) (by decide) (by decide)
       have o5 := O5.obj
       have t5 := O5.taken
       generalize hW5 : w4.setCell ⟨ob, 1, none⟩ (.slice a4 nn c4) = w5 at *
       have d5 : w5.cell? ⟨ob, 2, none⟩ = some (.slice (some ⟨tb, 0, none⟩) x.body.length x.body.length) := (by rw [heap_cell o5]; rfl)
       have x5 : w5.cell? ⟨tb, i, none⟩ = some (.bool (decide (i ∈ p))) := (by rw [heap_cell t5, bvs_get _ hi])
       have z5 : w5.frozen? ⟨tb, i, none⟩ = false := heap_frozen t5 _
       obtain ⟨O6, K6⟩ := O5.mark pl i
       have H6 := K6.heap H5 (by decide) (by decide) (by decide)
       generalize hW6 : w5.setCell ⟨tb, i, none⟩ (.bool true) = w6 at *
       have r0 : w6.rangeAt w.heap.size 0 (tv y.by_) := World.rangeAt_of_block H6 0 4
       have r6 : w6.rangeAt w.heap.size 6 (tv y.at_) := World.rangeAt_of_block H6 6 4
       clear hown hgrow hnil hloc hi4 hg4)
    | (refine wpList_load_mid rfl 25 _ rfl w.heap.size 0 rfl (tv y.by_) _ r0 TT rfl Tryd.iT14 ?_)
    | (refine wpList_load_mid rfl 25 _ rfl w.heap.size 6 rfl (tv y.at_) _ r6 TT rfl Tryd.iT14 ?_)
    | (refine wpList_build_two rfl 26 25 _ _ rfl (tv y.by_) (tv y.at_) _ 4 48 rfl rfl rfl rfl (by decide) (by decide) Tryd.underlying26 Tryd.iTz14 (tv y.by_ ++ tv y.at_).toArray rfl ?_; have A7 := below_alloc w6 (.cells (tv y.by_ ++ tv y.at_).toArray 25); have N7 := heap_alloc_new w6 (.cells (tv y.by_ ++ tv y.at_).toArray 25)))
  have O7 := O6.next A7
  have H7 := below_heap A7 H6
  have K7 : Kw14 wa.heap.size w (w6.alloc (.cells (tv y.by_ ++ tv y.at_).toArray 25)) := (((Kw14.next B2 hBw).trans K5).trans K6).trans (Kw14.next A7 (Nat.le_trans hBw (Nat.le_trans B2.size (Nat.le_trans K5.bel.size K6.bel.size))))
  generalize hW7 : w6.alloc (.cells (tv y.by_ ++ tv y.at_).toArray 25) = w7 at *
  refine (learn_at x.r V (some ⟨w6.heap.size, 0, none⟩) 2 [y.by_, y.at_] wa.heap.size ob kb bm base x.body.length (.slice x.ba x.body.length x.bcap) (.slice a4 nn c4) (.slice (some ⟨tb, 0, none⟩) x.body.length x.body.length) w0 w7 (fun W q => row_blk14 tK (q.heap N7 (by decide)) [y.by_, y.at_] rfl (by simp)) O7.obj O7.known (by simp [Rv.r]) O7.tell O7.same O7.size pl.k pl.m pl.b3 pl.b4 (fun t ht => ys.out _ (by
    rcases List.mem_cons.1 ht with rfl | ht
    · exact List.mem_cons_self ..
    · rw [List.mem_singleton] at ht; subst ht
      exact List.mem_cons_of_mem _ (List.mem_cons_self ..))) hT).mono ?_
  rintro e w8 ⟨rfl, L8, k8, t8⟩
  obtain ⟨O8, K8⟩ := O7.learn pl L8 k8 t8
  have H8 := K8.heap H7 (by decide) (by decide) (by decide)
  have s8 : w8.cell? ⟨w.heap.size, 5, none⟩ = some (.slice y.a y.args.length y.cap) := by rw [heap_cell H8]; rfl
  have b8 := hw.trans (K7.bel.trans K8.bel)
  go_wp2_with fail
  refine (learn_at x.r _ y.a y.cap y.args wa.heap.size ob kb bm base x.body.length (.slice x.ba x.body.length x.bcap) (.slice a4 nn c4) (.slice (some ⟨tb, 0, none⟩) x.body.length x.body.length) w0 w8 (fun W q => yA.out W (b8.trans q.bel)) O8.obj O8.known (by simp [Rv.r]) O8.tell O8.same O8.size pl.k pl.m pl.b3 pl.b4 (fun t ht => ys.out _ (List.mem_cons_of_mem _ (List.mem_cons_of_mem _ (List.mem_map_of_mem ht)))) hT).mono ?_
  rintro e w9 ⟨rfl, L9, k9, t9⟩
  obtain ⟨O9, K9⟩ := O8.learn pl L9 k9 t9
  go_wp2_with fail
  go_end0
  rw [List.append_assoc] at O9
  exact ⟨rfl, ⟨.slice a4 nn c4, O9⟩, (K7.trans K8).trans K9⟩
end Go.Proofs.YtcncmpgababfjaaDoor
