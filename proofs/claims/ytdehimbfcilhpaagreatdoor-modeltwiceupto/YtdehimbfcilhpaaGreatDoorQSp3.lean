/-
  spansOf.
-/
import Derived.Test.YtdehimbfcilhpaaGreatDoorQBt
namespace Go.Proofs.YtdehimbfcilhpaaGreatDoor
open Go.RowKit Go.Lib Go.Shelf

theorem Ml.spB_snoc (l : Lt) : ∀ (ls : List Lt) (k : Nat) (f : Ml.SpF), Ml.spB k (ls ++ [l]) f = Ml.mks (k + ls.length) (Ml.spB k ls f) (Ml.lvars l)
  | [], _, _ => rfl
  | a :: ls, k, f => by
    rw [List.cons_append, Ml.spB, Ml.spB, Ml.spB_snoc l ls (k + 1), List.length_cons, show k + 1 + ls.length = k + (ls.length + 1) by omega]
theorem SpansAt.mono {w : World} {bm n n' : Nat} {f : Ml.SpF} (h : SpansAt w bm f n) (hn : n ≤ n') : SpansAt w bm f n' := by
  obtain ⟨D, h1, h2⟩ := h.has
  exact ⟨D, h1.mono hn, h2⟩
theorem row_news {α : Type} (D : Kd α) (w : World) (c : Array Value) (t : TypeId) (xs : List α) (h : c.toList = xs.flatMap D.enc) (hl : xs.length ≤ 4398046510976) : Row D (w.alloc (.cells c t)) (some ⟨w.heap.size, 0, none⟩) xs.length xs :=
  ⟨Nat.le_refl _, hl, (fun h => by cases h), fun ad ha j u hu => by
    cases ha
    rw [Addr.add_lit, heap_cell (heap_alloc_new w (.cells c t)), Nat.zero_add, ← Array.getElem?_toList, h]
    exact hu⟩
/-- a rule of few terms -/
structure SmR (x : Rv) : Prop where
  body : x.body.length ≤ 300
  args : x.args.length ≤ 300
  each : ∀ l ∈ x.body, l.args.length ≤ 300
  head : ∀ v ∈ Ml.hvars x.r, v.length ≤ maxLen
  lits : ∀ l ∈ x.body, ∀ v ∈ Ml.lvars l.l, v.length ≤ maxLen
theorem iL10 : (Tryz.prog.info? 85).map (·.size) = some 10 := by kernel_rfl
theorem Tryz.iTz : (Tryz.prog.info? 58).map (fun i => (i.zero, i.size, i.bytes)) = some (some (.agg #[.string .empty, .bool false, .int .i64 0, .string .empty]), 4, 48) := by kernel_rfl
theorem hv_of {ts : List Tm} {V : List (List UInt8)} (h : ∀ v ∈ V, v.length ≤ maxLen) (hs : ∀ t ∈ ts, t.v ∈ V) : ∀ t ∈ ts, t.v.length ≤ maxLen := fun t ht => h _ (hs t ht)

/-- marks, one call behind the other -/
theorem mark_next {k : Nat} {a : Option Addr} {c : Nat} {ts : List Tm} {bx bm n m : Nat} {f : Ml.SpF} {w : World} (hr : Row tK w a c ts) (hx : w.heap[bx]? = some (.cells #[.map (some bm)] 129)) (S : SpansAt w bm f n)
    (hm : n + ts.length ≤ m) (hn : m ≤ 900000) (hv : ∀ t ∈ ts, t.v.length ≤ maxLen) :
    Calls Tryz.prog 112 #[.int .i64 (k : Int), .slice a ts.length c, ptr bx] w fun e w' => e = .returned (.tuple #[]) ∧ SpansAt w' bm (Ml.mks k f (ts.map (·.v))) m ∧ But bm w w' ∧ w'.heap[bx]? = some (.cells #[.map (some bm)] 129) := by
  obtain ⟨es, clock, hmm⟩ := S.map
  refine (mark_at k a c ts bx bm n f w hr hx S (by omega) hv).mono ?_
  rintro e w' ⟨rfl, h1, h2⟩
  exact ⟨rfl, h1.mono hm, h2, but_cells h2 hmm hx rfl⟩

set_option maxRecDepth 100000 in
set_option maxHeartbeats 2000000 in
theorem spansOf_at (x : Rv) (w : World) (hr : Rv.Aw w x) (hs : SmR x) :
    Calls Tryz.prog 80 #[rval x] w fun e w' => ∃ bm, e = .returned (.map (some bm)) ∧ SpansAt w' bm (Ml.spans x.r) 100000 ∧ w.heap.size ≤ bm ∧ Below w.heap.size w w' := by
  have TL := Tryz.underlying85
  have TT := Tryz.underlying58
  have few := hr.body.few
  have fewa := hr.args.few
  have hmk := @run_makeMap Tryz.prog
  obtain ⟨W0, hW⟩ : ∃ W0, ((w.alloc (.cells #[str x.home.v, .bool x.home.k.num, .int .i64 x.home.k.n, str x.home.k.s, str x.pred, .slice x.a x.args.length x.cap, str x.to_.v, .bool x.to_.k.num, .int .i64 x.to_.k.n, str x.to_.k.s, .slice x.ba x.body.length x.bcap] 62)).alloc (.map #[] 0)).alloc (.cells #[.map (some (w.heap.size + 1))] 129) = W0 := ⟨_, rfl⟩
  have A1 := below_alloc w (.cells #[str x.home.v, .bool x.home.k.num, .int .i64 x.home.k.n, str x.home.k.s, str x.pred, .slice x.a x.args.length x.cap, str x.to_.v, .bool x.to_.k.num, .int .i64 x.to_.k.n, str x.to_.k.s, .slice x.ba x.body.length x.bcap] 62)
  have A2 := below_alloc (w.alloc (.cells #[str x.home.v, .bool x.home.k.num, .int .i64 x.home.k.n, str x.home.k.s, str x.pred, .slice x.a x.args.length x.cap, str x.to_.v, .bool x.to_.k.num, .int .i64 x.to_.k.n, str x.to_.k.s, .slice x.ba x.body.length x.bcap] 62)) (.map #[] 0)
  have A3 := below_alloc ((w.alloc (.cells #[str x.home.v, .bool x.home.k.num, .int .i64 x.home.k.n, str x.home.k.s, str x.pred, .slice x.a x.args.length x.cap, str x.to_.v, .bool x.to_.k.num, .int .i64 x.to_.k.n, str x.to_.k.s, .slice x.ba x.body.length x.bcap] 62)).alloc (.map #[] 0)) (.cells #[.map (some (w.heap.size + 1))] 129)
  have A := Below.then A1 (Below.then A2 A3)
  have H0 := below_heap A3 (below_heap A2 (heap_alloc_new w (.cells #[str x.home.v, .bool x.home.k.num, .int .i64 x.home.k.n, str x.home.k.s, str x.pred, .slice x.a x.args.length x.cap, str x.to_.v, .bool x.to_.k.num, .int .i64 x.to_.k.n, str x.to_.k.s, .slice x.ba x.body.length x.bcap] 62)))
  have M0 := (spans_new (w.alloc (.cells #[str x.home.v, .bool x.home.k.num, .int .i64 x.home.k.n, str x.home.k.s, str x.pred, .slice x.a x.args.length x.cap, str x.to_.v, .bool x.to_.k.num, .int .i64 x.to_.k.n, str x.to_.k.s, .slice x.ba x.body.length x.bcap] 62))).next A3
  have X0 := heap_alloc_new ((w.alloc (.cells #[str x.home.v, .bool x.home.k.num, .int .i64 x.home.k.n, str x.home.k.s, str x.pred, .slice x.a x.args.length x.cap, str x.to_.v, .bool x.to_.k.num, .int .i64 x.to_.k.n, str x.to_.k.s, .slice x.ba x.body.length x.bcap] 62)).alloc (.map #[] 0)) (.cells #[.map (some (w.heap.size + 1))] 129)
  simp only [World.size_alloc] at M0 X0
  rw [hW] at A H0 M0 X0
  clear A1 A2 A3
  go_enter Tryz.func80, Tryz.ntmps80
  have c10 : W0.cell? ⟨w.heap.size, 10, none⟩ = some (.slice x.ba x.body.length x.bcap) := by rw [heap_cell H0]; rfl
  go_upto_region 3 with fail
  have hr0 := hr.below A (Nat.le_refl _)
  have KP := fun (wr : World) (h : But (w.heap.size + 1) W0 wr) => (⟨hr0.body.bmap h M0.map.choose_spec.choose_spec, hr0.args.bmap h M0.map.choose_spec.choose_spec, but_cells h M0.map.choose_spec.choose_spec H0 rfl, but_cells h M0.map.choose_spec.choose_spec X0 rfl⟩ : Row lK wr x.ba x.bcap x.body ∧ Row tK wr x.a x.cap x.args ∧ wr.heap[w.heap.size]? = some (.cells #[str x.home.v, .bool x.home.k.num, .int .i64 x.home.k.n, str x.home.k.s, str x.pred, .slice x.a x.args.length x.cap, str x.to_.v, .bool x.to_.k.num, .int .i64 x.to_.k.n, str x.to_.k.s, .slice x.ba x.body.length x.bcap] 62) ∧ wr.heap[w.heap.size + 1 + 1]? = some (.cells #[.map (some (w.heap.size + 1))] 129))
  have KE := fun (wr : World) (h : But (w.heap.size + 1) W0 wr) (y : Lv) (hy : y ∈ x.body) => Row.bmap (hr0.each y hy) h M0.map.choose_spec.choose_spec

  clear hr hr0 hW
  generalize x.ba = ba at *
  go_wp2_with fail
  go_loopw [12] (fun v wr => ∃ j : Nat, v = .int .i64 (j : Int) ∧ j ≤ x.body.length ∧ SpansAt wr (w.heap.size + 1) (Ml.spB 0 ((x.body.take j).map Lv.l) fun _ => none) (j * 302) ∧ But (w.heap.size + 1) W0 wr) (fun v _ => x.body.length - (intOf v).toNat)
  case atStart => exact ⟨0, rfl, Nat.zero_le _, M0, But.refl _ _⟩
  case round =>
    obtain ⟨j, rfl, hj, Sj, Bj⟩ := hrel
    obtain ⟨Rb, Ra, Hj, Xj⟩ := KP wr Bj
    have hb300 := hs.body
    by_cases hlt : j < x.body.length
    · have hq : (j : Int) < (x.body.length : Int) := by omega
      obtain ⟨b, o, rfl⟩ := Rb.addr (by omega)
      have rg := Rb.range j hlt
      have hy := List.getElem_mem hlt
      have Re := KE wr Bj _ hy
      have he := hs.each _ hy
      have hv := hs.lits _ hy
      have TK : Hid (Ml.spB 0 ((x.body.take (j + 1)).map Lv.l) (fun _ => none) = Ml.mks j (Ml.mks j (Ml.spB 0 ((x.body.take j).map Lv.l) fun _ => none) [x.body[j].by_.v, x.body[j].at_.v]) (x.body[j].args.map (·.v))) := by
        show _ = _
        rw [List.take_succ_eq_append_getElem hlt, List.map_append, List.map_cons, List.map_nil, Ml.spB_snoc, List.length_map, List.length_take, Nat.min_eq_left hj, Nat.zero_add]; rfl
      generalize x.body[j] = y at *
      generalize Ml.spB 0 ((x.body.take j).map Lv.l) (fun _ => none) = g at *
      have fewy := Re.few
      have H1 := heap_alloc_new wr (.cells #[.string { data := #[] }, .bool false, .int .i64 0, .string { data := #[] }, .string { data := #[] }, .slice none 0 0, .string { data := #[] }, .bool false, .int .i64 0, .string { data := #[] }] 85)
      go_wp2_with (first
        | (refine wpList_load_mid rfl 85 _ rfl b (o + j * 10) rfl (lv y) _ rg TL rfl iL10 ?_)
        | (refine wpList_store_all rfl 85 _ _ rfl wr.heap.size 10 _ 85 (lv y) rfl rfl H1 rfl rfl iL10 rfl ?_; intro w2 H2 b2; have B2 := below_tok b2; have x2 := below_heap B2 Xj; have S2 := Sj.next B2; have r0 : w2.rangeAt wr.heap.size 0 (tv y.by_) := World.rangeAt_of_block H2 0 4; have r6 : w2.rangeAt wr.heap.size 6 (tv y.at_) := World.rangeAt_of_block H2 6 4)
        | (refine wpList_load_mid rfl 58 _ rfl wr.heap.size 0 rfl (tv y.by_) _ r0 TT rfl iT4 ?_)
        | (refine wpList_load_mid rfl 58 _ rfl wr.heap.size 6 rfl (tv y.at_) _ r6 TT rfl iT4 ?_)
        | (refine wpList_build_two rfl 59 58 _ _ rfl (tv y.by_) (tv y.at_) _ 4 48 rfl rfl rfl rfl (by decide) (by decide) Tryz.underlying59 Tryz.iTz (tv y.by_ ++ tv y.at_).toArray rfl ?_; have A3 := below_alloc w2 (.cells (tv y.by_ ++ tv y.at_).toArray 58); have R3 : Row tK (w2.alloc (.cells (tv y.by_ ++ tv y.at_).toArray 58)) (some ⟨w2.heap.size, 0, none⟩) 2 [y.by_, y.at_] := row_news tK w2 _ _ [y.by_, y.at_] rfl (by simp); have x3 := below_heap A3 x2; have S3 := S2.next A3; have H3 := below_heap A3 H2))
      obtain ⟨es3, ck3, m3⟩ := S3.map
      refine (mark_next (k := j) (ts := [y.by_, y.at_]) (m := j * 302 + 2) R3 x3 S3 (by simp) (by omega) (fun t ht => hv _ (by rcases List.mem_cons.1 ht with rfl | ht; exact List.mem_cons_self ..; rw [List.mem_singleton] at ht; subst ht; exact List.mem_cons_of_mem _ (List.mem_cons_self ..)))).mono ?_
      rintro e w4 ⟨rfl, S4, b4, x4⟩
      have H4 := but_cells b4 m3 H3 rfl
      have T3 := Below.then B2 A3
      have R4 := (Row.below Re T3 (Nat.le_refl _)).bmap b4 m3
      have c4 : w4.cell? ⟨wr.heap.size, 5, none⟩ = some (.slice y.a y.args.length y.cap) := by rw [heap_cell H4]; rfl
      have B4 : But (w.heap.size + 1) W0 w4 := Bj.trans ((But.of_below T3).trans b4)
      clear b4 m3 H3 S3 R3 A3 x3 S2 x2 r0 r6
      go_wp2_with fail
      refine (mark_next (k := j) (ts := y.args) (m := (j + 1) * 302) R4 x4 S4 (by omega) (by omega) (fun t ht => hv _ (List.mem_cons_of_mem _ (List.mem_cons_of_mem _ (List.mem_map_of_mem ht))))).mono ?_
      rintro e w5 ⟨rfl, S5, b5, x5⟩
      go_wp2_with fail
      go_roundw
      case rel => exact ⟨j + 1, rfl, hlt, by rw [TK.out]; exact S5, B4.trans b5⟩
      case measure => simp [intOf]; omega
    · have hq : ¬ (j : Int) < (x.body.length : Int) := by omega
      obtain rfl : j = x.body.length := by omega
      rw [List.take_length] at Sj
      have SP : Hid (Ml.spans x.r = Ml.mks x.body.length (Ml.mks x.body.length (Ml.spB 0 (x.body.map Lv.l) fun _ => none) [x.home.v, x.to_.v]) (x.args.map (·.v))) := by
        show _ = _
        unfold Ml.spans
        rw [show x.r.body = x.body.map Lv.l from rfl, List.length_map]; rfl
      have hv := hs.head
      have ha := hs.args
      generalize Ml.spB 0 (x.body.map Lv.l) (fun _ => none) = g at *
      have r0 : wr.rangeAt w.heap.size 0 (tv x.home) := World.rangeAt_of_block Hj 0 4
      have r6 : wr.rangeAt w.heap.size 6 (tv x.to_) := World.rangeAt_of_block Hj 6 4
      have c1 : wr.cell? ⟨w.heap.size, 10, none⟩ = some (.slice ba x.body.length x.bcap) := by rw [heap_cell Hj]; rfl
      have A3 := below_alloc wr (.cells (tv x.home ++ tv x.to_).toArray 58)
      go_wp2_with (first
        | (refine wpList_load_mid rfl 58 _ rfl w.heap.size 0 rfl (tv x.home) _ r0 TT rfl iT4 ?_)
        | (refine wpList_load_mid rfl 58 _ rfl w.heap.size 6 rfl (tv x.to_) _ r6 TT rfl iT4 ?_)
        | (refine wpList_build_two rfl 59 58 _ _ rfl (tv x.home) (tv x.to_) _ 4 48 rfl rfl rfl rfl (by decide) (by decide) Tryz.underlying59 Tryz.iTz (tv x.home ++ tv x.to_).toArray rfl ?_))
      have R3 : Row tK (wr.alloc (.cells (tv x.home ++ tv x.to_).toArray 58)) (some ⟨wr.heap.size, 0, none⟩) 2 [x.home, x.to_] := row_news tK wr _ _ [x.home, x.to_] rfl (by simp)
      have S3 := Sj.next A3
      obtain ⟨es3, ck3, m3⟩ := S3.map
      refine (mark_next (k := x.body.length) (ts := [x.home, x.to_]) (m := x.body.length * 302 + 2) R3 (below_heap A3 Xj) S3 (by simp) (by omega) (fun t ht => hv _ (by rcases List.mem_cons.1 ht with rfl | ht; exact List.mem_cons_self ..; rw [List.mem_singleton] at ht; subst ht; exact List.mem_cons_of_mem _ (List.mem_cons_self ..)))).mono ?_
      rintro e w4 ⟨rfl, S4, b4, x4⟩
      have H4 := but_cells b4 m3 (below_heap A3 Hj) rfl
      have R4 := (Row.below Ra A3 (Nat.le_refl _)).bmap b4 m3
      have c4 : w4.cell? ⟨w.heap.size, 5, none⟩ = some (.slice x.a x.args.length x.cap) := by rw [heap_cell H4]; rfl
      have c5 : w4.cell? ⟨w.heap.size, 10, none⟩ = some (.slice ba x.body.length x.bcap) := by rw [heap_cell H4]; rfl
      have B4 : But (w.heap.size + 1) W0 w4 := Bj.trans ((But.of_below A3).trans b4)
      clear b4 m3 S3 R3 A3 r0 r6 c1
      go_wp2_with fail
      refine (mark_next (k := x.body.length) (ts := x.args) (m := 100000) R4 x4 S4 (by omega) (by omega) (fun t ht => hv _ (List.mem_cons_of_mem _ (List.mem_cons_of_mem _ (List.mem_map_of_mem ht))))).mono ?_
      rintro e w5 ⟨rfl, S5, b5, x5⟩
      have c6 : w5.cell? ⟨w.heap.size + 1 + 1, 0, none⟩ = some (.map (some (w.heap.size + 1))) := by rw [heap_cell x5]; rfl
      go_wp2_with fail
      go_ret
      refine ⟨_, rfl, by rw [SP.out]; exact S5, by omega, A.trans ?_⟩
      exact (B4.trans b5).lower (by omega) A.size
end Go.Proofs.YtdehimbfcilhpaaGreatDoor
