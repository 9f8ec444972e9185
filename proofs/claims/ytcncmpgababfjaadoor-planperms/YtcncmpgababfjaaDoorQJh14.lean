/-
  newOrder: an order of which nothing was taken.
-/
import Derived.Test.YtcncmpgababfjaaDoorQJg14
import Derived.Test.YtcncmpgababfjaaDoorQOt1
import Derived.Test.YtcncmpgababfjaaDoorQSb13
import Derived.Laws.OwnMore
namespace Go.Proofs.YtcncmpgababfjaaDoor
open Go.RowKit Go.Lib Go.Shelf

theorem Tryd.iB14 : (Tryd.prog.info? 4).map (fun i => (i.zero, i.size, i.bytes)) = some (some (.bool false), 1, 1) := by kernel_rfl
theorem made_bools (n : Nat) : madeCells (Value.cells (.bool false)) n = bvs n [] := by
  apply Array.ext
  · simp [madeCells, bvs]
  · intro k h1 h2
    simp [madeCells, bvs, Value.cells, Nat.mod_one]
theorem made_ints (n : Nat) : madeCells (Value.cells (.int .i64 0)) n = nvs ((List.range n).map fun _ => 0) := by
  apply Array.ext
  · simp [madeCells, nvs]
  · intro k h1 h2
    simp [madeCells, nvs, Value.cells, Nat.mod_one]
theorem exec_make {P : Program} {o : Oper} {a : Act} {w w' : World} {v lv cv : Value} (t : TypeId) (l c : Operand) (ho : o.op = .makeSlice t l c) (hl : a.eval l = lv) (hc : a.eval c = cv) (hr : (Instr.makeSlice t lv cv).run P w = .ok v w') : (execOp a.eval o).run P w = .ok (.value v) w' := by
  simp [execOp, ho, hl, hc, hr, Result.andThen]
/-- two rows and a map that were made, wherever they lie -/
def MbV (B n : Nat) (v : Value) (W : World) : Prop := ∃ b, v = .slice (some ⟨b, 0, none⟩) n n ∧ B ≤ b ∧ W.heap[b]? = some (.cells (bvs n []) 4)
def MiV (B n : Nat) (v : Value) (W : World) : Prop := ∃ b, v = .slice (some ⟨b, 0, none⟩) n n ∧ B ≤ b ∧ W.heap[b]? = some (.cells (nvs ((List.range n).map fun _ => 0)) 3)
def MmV (B : Nat) (v : Value) (W : World) : Prop := ∃ b, v = .map (some b) ∧ B ≤ b ∧ W.heap[b]? = some (.map #[] 0)
/-- the parts of an order, as a value; the order -/
def MoV (B : Nat) (x : Rv) (v : Value) (W : World) : Prop := ∃ tb kb bm, v = .agg (oCells x (.slice none 0 0) tb kb bm) ∧ MbV B x.body.length (.slice (some ⟨tb, 0, none⟩) x.body.length x.body.length) W ∧ MiV B x.body.length (.slice (some ⟨kb, 0, none⟩) x.body.length x.body.length) W ∧ MmV B (.map (some bm)) W
def MpV (B : Nat) (x : Rv) (v : Value) (W : World) : Prop := ∃ ob tb kb bm, v = ptr ob ∧ B ≤ ob ∧ W.heap[ob]? = some (.cells (oCells x (.slice none 0 0) tb kb bm) 48) ∧ MbV B x.body.length (.slice (some ⟨tb, 0, none⟩) x.body.length x.body.length) W ∧ MiV B x.body.length (.slice (some ⟨kb, 0, none⟩) x.body.length x.body.length) W ∧ MmV B (.map (some bm)) W
theorem MbV.next {B n : Nat} {v : Value} {w w' : World} (h : MbV B n v w) (hb : Below w.heap.size w w') : MbV B n v w' := by
  obtain ⟨b, h1, h2, h3⟩ := h
  exact ⟨b, h1, h2, below_heap hb h3⟩
theorem MiV.next {B n : Nat} {v : Value} {w w' : World} (h : MiV B n v w) (hb : Below w.heap.size w w') : MiV B n v w' := by
  obtain ⟨b, h1, h2, h3⟩ := h
  exact ⟨b, h1, h2, below_heap hb h3⟩
theorem MmV.next {B : Nat} {v : Value} {w w' : World} (h : MmV B v w) (hb : Below w.heap.size w w') : MmV B v w' := by
  obtain ⟨b, h1, h2, h3⟩ := h
  exact ⟨b, h1, h2, below_heap hb h3⟩
theorem MoV.next {B : Nat} {x : Rv} {v : Value} {w w' : World} (h : MoV B x v w) (hb : Below w.heap.size w w') : MoV B x v w' := by
  obtain ⟨tb, kb, bm, h1, h2, h3, h4⟩ := h
  exact ⟨tb, kb, bm, h1, h2.next hb, h3.next hb, h4.next hb⟩
theorem MpV.next {B : Nat} {x : Rv} {v : Value} {w w' : World} (h : MpV B x v w) (hb : Below w.heap.size w w') : MpV B x v w' := by
  obtain ⟨ob, tb, kb, bm, h1, h0, h5, h2, h3, h4⟩ := h
  exact ⟨ob, tb, kb, bm, h1, h0, below_heap hb h5, h2.next hb, h3.next hb, h4.next hb⟩
set_option maxRecDepth 100000 in
set_option maxHeartbeats 2000000 in
theorem newOrder_at (x : Rv) (w : World) (hx : Rv.Aw w x) (hn : x.body.length ≤ 1000000) (hT : Pn.tot x.r x.body.length ≤ 900000) (hs : ∀ y ∈ x.body, ∀ v ∈ Pn.lvs y.l, v.length ≤ maxLen) (hh : x.home.v.length ≤ maxLen) :
    Calls Tryd.prog 11 #[rval x] w fun e w' => ∃ ob tb kb bm base nu w0, e = .returned (ptr ob) ∧ Pl14 w.heap.size ob tb kb bm base w0 ∧ OrdAt ob tb kb bm base x w0 w' nu [x.home.v] [] [] ∧ Below w.heap.size w w' := by
  have A0 := below_alloc w (.cells (rv x).toArray 29)
  have H0 := heap_alloc_new w (.cells (rv x).toArray 29)
  go_enter Tryd.func11, Tryd.ntmps11
  go_wp2_with fail
  refine wp_region_held (S := fun X => Below (w.alloc (.cells (rv x).toArray 29)).drew.heap.size (w.alloc (.cells (rv x).toArray 29)).drew X) (by kernel_rfl) ?_
  change wpAnyH _ _ _ _ _ _ _ _ (w.alloc (.cells (rv x).toArray 29)).drew
  have H0' : (w.alloc (.cells (rv x).toArray 29)).drew.heap[w.heap.size]? = some (.cells (rv x).toArray 29) := H0
  have B0 : Below w.heap.size w (w.alloc (.cells (rv x).toArray 29)).drew := A0.drew
  generalize (w.alloc (.cells (rv x).toArray 29)).drew = W at *
  have hHeld := Below.refl W.heap.size W
  obtain ⟨iB, hB0, hB1, hB2, hB3⟩ := info_parts Tryd.iB14
  obtain ⟨iN, hN0, hN1, hN2, hN3⟩ := info_parts Tryd.iN14
  have makeB : ∀ X : World, (Instr.makeSlice 37 (.int .i64 (x.body.length : Int)) (.int .i64 (x.body.length : Int))).run Tryd.prog X = .ok (.slice (some ⟨X.heap.size, 0, none⟩) x.body.length x.body.length) (X.alloc (.cells (bvs x.body.length []) 4)) := fun X => by
    have := run_make (P := Tryd.prog) X 37 4 iB (.bool false) Tryd.underlying37 hB0 hB1 .i64 .i64 (x.body.length : Int) (x.body.length : Int) (by omega) (Int.le_refl _) (by rw [hB3]; omega) (by omega)
    rw [hB2, Int.toNat_natCast, Nat.mul_one, made_bools] at this
    exact this
  have makeI : ∀ X : World, (Instr.makeSlice 34 (.int .i64 (x.body.length : Int)) (.int .i64 (x.body.length : Int))).run Tryd.prog X = .ok (.slice (some ⟨X.heap.size, 0, none⟩) x.body.length x.body.length) (X.alloc (.cells (nvs ((List.range x.body.length).map fun _ => 0)) 3)) := fun X => by
    have := run_make (P := Tryd.prog) X 34 3 iN (.int .i64 0) Tryd.underlying34 hN0 hN1 .i64 .i64 (x.body.length : Int) (x.body.length : Int) (by omega) (Int.le_refl _) (by rw [hN3]; omega) (by omega)
    rw [hN2, Int.toNat_natCast, Nat.mul_one, made_ints] at this
    exact this
  have cB : ∀ X, Below W.heap.size W X → X.cell? ⟨w.heap.size, 10, none⟩ = some (.slice x.ba x.body.length x.bcap) := fun X h => by rw [heap_cell (below_heap h H0')]; rfl
  refine wpAnyH_take (i := 0) (v := .pointer (some ⟨w.heap.size, 10, none⟩)) rfl (by kernel_rfl) (by kernel_rfl) (by kernel_rfl) (fun _ _ _ h => h) (Or.inl ⟨by kernel_rfl, fun w hSw => by kernel_rfl⟩) hHeld ?_
  refine wpAnyH_take (i := 1) (v := .slice x.ba x.body.length x.bcap) rfl (by kernel_rfl) (by kernel_rfl) (by kernel_rfl) (fun _ _ _ h => h) (yieldsIf_load_cel (by kernel_rfl) 27 _ rfl w.heap.size 10 (.slice x.ba x.body.length x.bcap) (by kernel_rfl) Tryd.isAgg27 cB) hHeld ?_
  refine wpAnyH_take (i := 2) (v := .pointer (some ⟨w.heap.size, 10, none⟩)) rfl (by kernel_rfl) (by kernel_rfl) (by kernel_rfl) (fun _ _ _ h => h) (Or.inl ⟨by kernel_rfl, fun w hSw => by kernel_rfl⟩) hHeld ?_
  refine wpAnyH_take (i := 3) (v := .slice x.ba x.body.length x.bcap) rfl (by kernel_rfl) (by kernel_rfl) (by kernel_rfl) (fun _ _ _ h => h) (yieldsIf_load_cel (by kernel_rfl) 27 _ rfl w.heap.size 10 (.slice x.ba x.body.length x.bcap) (by kernel_rfl) Tryd.isAgg27 cB) hHeld ?_
  refine wpAnyH_take (i := 4) (v := .int .i64 (x.body.length : Int)) rfl (by kernel_rfl) (by kernel_rfl) (by kernel_rfl) (fun _ _ _ h => h) (Or.inl ⟨by kernel_rfl, fun w hSw => by kernel_rfl⟩) hHeld ?_
  refine wpAnyH_take (i := 6) (v := .pointer (some ⟨w.heap.size, 10, none⟩)) rfl (by kernel_rfl) (by kernel_rfl) (by kernel_rfl) (fun _ _ _ h => h) (Or.inl ⟨by kernel_rfl, fun w hSw => by kernel_rfl⟩) hHeld ?_
  refine wpAnyH_take (i := 7) (v := .slice x.ba x.body.length x.bcap) rfl (by kernel_rfl) (by kernel_rfl) (by kernel_rfl) (fun _ _ _ h => h) (yieldsIf_load_cel (by kernel_rfl) 27 _ rfl w.heap.size 10 (.slice x.ba x.body.length x.bcap) (by kernel_rfl) Tryd.isAgg27 cB) hHeld ?_
  refine wpAnyH_take (i := 8) (v := .int .i64 (x.body.length : Int)) rfl (by kernel_rfl) (by kernel_rfl) (by kernel_rfl) (fun _ _ _ h => h) (Or.inl ⟨by kernel_rfl, fun w hSw => by kernel_rfl⟩) hHeld ?_
  refine Sb.each (fun _ X X' => Below X.heap.size X X') (fun _ _ => true) (fun X => Below W.heap.size W X) (fun _ X X' h b => Below.then h b) [5, 9, 10, 11, 12] (fun | 5 => 11 | 9 => 15 | 10 => 16 | 11 => 17 | _ => 18) (fun | 11 => [5, 9, 10] | 12 => [11] | _ => []) (fun | 5 => MbV W.heap.size x.body.length | 9 => MiV W.heap.size x.body.length | 10 => MmV W.heap.size | 11 => MoV W.heap.size x | _ => MpV W.heap.size x) 1 _ _ (by kernel_rfl) (by kernel_rfl) (by kernel_rfl) ?st ?op ?fin W hHeld hHeld
  case st =>
    intro j _ v X X' _ hR hb
    match j with
    | 5 => exact MbV.next hR hb
    | 9 => exact MiV.next hR hb
    | 10 => exact MmV.next hR hb
    | 11 => exact MoV.next hR hb
    | 0 | 1 | 2 | 3 | 4 | 6 | 7 | 8 | _ + 12 => exact MpV.next hR hb
  case op =>
    intro j hj o ho g X hS _ hdone
    simp only [List.mem_cons, List.not_mem_nil, or_false] at hj
    rcases hj with rfl | rfl | rfl | rfl | rfl
    · have ho' := Option.some.inj ho
      have hop : o.op = .makeSlice 37 (.tmp 10) (.tmp 10) := (congrArg Oper.op ho').symm.trans (by kernel_rfl)
      have hod : o.dst = some 11 := (congrArg Oper.dst ho').symm.trans (by kernel_rfl)
      clear ho ho'
      refine Sb.val (.slice (some ⟨X.heap.size, 0, none⟩) x.body.length x.body.length) (w' := X.alloc (.cells (bvs x.body.length []) 4)) (exec_make (lv := .int .i64 (x.body.length : Int)) (cv := .int .i64 (x.body.length : Int)) 37 _ _ hop (by kernel_rfl) (by kernel_rfl) (makeB X)) ?_
      rw [hod]
      exact ⟨_, rfl, Below.then hS (below_alloc _ _), below_alloc _ _, X.heap.size, rfl, hS.size, heap_alloc_new _ _⟩
    · have ho' := Option.some.inj ho
      have hop : o.op = .makeSlice 34 (.tmp 14) (.tmp 14) := (congrArg Oper.op ho').symm.trans (by kernel_rfl)
      have hod : o.dst = some 15 := (congrArg Oper.dst ho').symm.trans (by kernel_rfl)
      clear ho ho'
      refine Sb.val (.slice (some ⟨X.heap.size, 0, none⟩) x.body.length x.body.length) (w' := X.alloc (.cells (nvs ((List.range x.body.length).map fun _ => 0)) 3)) (exec_make (lv := .int .i64 (x.body.length : Int)) (cv := .int .i64 (x.body.length : Int)) 34 _ _ hop (by kernel_rfl) (by kernel_rfl) (makeI X)) ?_
      rw [hod]
      exact ⟨_, rfl, Below.then hS (below_alloc _ _), below_alloc _ _, X.heap.size, rfl, hS.size, heap_alloc_new _ _⟩
    · obtain rfl := Option.some.inj ho
      refine Sb.val (.map (some X.heap.size)) (w' := X.alloc (.map #[] 0)) (by kernel_rfl) ?_
      exact ⟨_, rfl, Below.then hS (below_alloc _ _), below_alloc _ _, X.heap.size, rfl, hS.size, heap_alloc_new _ _⟩
    · obtain rfl := Option.some.inj ho
      have h5 := hdone 5 (by decide) (fun _ _ _ _ => rfl)
      have h9 := hdone 9 (by decide) (fun _ _ _ _ => rfl)
      have h10 := hdone 10 (by decide) (fun _ _ _ _ => rfl)
      obtain ⟨tb, e5, r5⟩ := h5
      obtain ⟨kb, e9, r9⟩ := h9
      obtain ⟨bm, e10, r10⟩ := h10
      simp only [List.foldl_cons, List.foldl_nil]
      rw [e5, e9, e10]
      refine Sb.val (.agg (oCells x (.slice none 0 0) tb kb bm)) (w' := X) (by kernel_rfl) ?_
      exact ⟨_, rfl, hS, Below.refl _ _, tb, kb, bm, rfl, ⟨tb, rfl, r5⟩, ⟨kb, rfl, r9⟩, ⟨bm, rfl, r10⟩⟩
    · obtain rfl := Option.some.inj ho
      obtain ⟨tb, kb, bm, e11, r5, r9, r10⟩ := hdone 11 (by decide) (fun _ _ _ _ => rfl)
      simp only [List.foldl_cons, List.foldl_nil]
      rw [e11]
      refine Sb.val (.pointer (some ⟨X.heap.size, 0, none⟩)) (w' := X.alloc (.cells (oCells x (.slice none 0 0) tb kb bm) 48)) (by kernel_rfl) ?_
      have b1 := below_alloc X (.cells (oCells x (.slice none 0 0) tb kb bm) 48)
      exact ⟨_, rfl, Below.then hS b1, b1, X.heap.size, tb, kb, bm, rfl, hS.size, heap_alloc_new _ _, r5.next b1, r9.next b1, r10.next b1⟩
  case fin =>
    intro g X hS _ hg
    obtain ⟨ob, tb, kb, bm, e12, ho1, HO, r5, r9, r10⟩ := hg 12 (by decide) (fun _ _ _ => rfl)
    simp only [List.foldl_cons, List.foldl_nil]
    rw [e12]
    generalize g 5 = g5
    generalize g 9 = g9
    generalize g 10 = g10
    generalize g 11 = g11
    clear hg e12 g
    refine wpAnyH_take (i := 13) (v := ptr ob) rfl (by kernel_rfl) (by kernel_rfl) (by kernel_rfl) (fun _ _ _ h => h) (Or.inl ⟨by kernel_rfl, fun w hSw => by kernel_rfl⟩) hS ?_
    refine wpAnyH_done (by kernel_rfl) ?_ _
    simp only [Act.put, List.getElem_toArray, List.getElem_cons_succ, List.getElem_cons_zero, List.setIfInBounds_toArray, List.set_cons_zero, List.set_cons_succ]
    obtain ⟨tb', e5, tb1, HB⟩ := r5
    obtain ⟨kb', e9, kb1, HK⟩ := r9
    obtain ⟨bm', e10, bm1, HM⟩ := r10
    injection e5 with e5; injection e5 with e5; injection e5 with e5; subst e5
    injection e9 with e9; injection e9 with e9; injection e9 with e9; subst e9
    injection e10 with e10; injection e10 with e10; subst e10
    have HX := below_heap hS H0'
    have hW1 : w.heap.size ≤ W.heap.size := B0.size
    have S0 := WaitAt.made HM (heap_lt HM)
    have hrl : x.r.body.length = x.body.length := List.length_map ..
    have few := hx.body.few
    have TL := Tryd.underlying39
    have TT := Tryd.underlying25
    have BX := B0.trans (hS.mono hW1)
    have lob := heap_lt HO
    have ltb := heap_lt HB
    have lkb := heap_lt HK
    have cX : X.cell? ⟨w.heap.size, 10, none⟩ = some (.slice x.ba x.body.length x.bcap) := cB X hS
    have RB := hx.body
    have HO2 : X.heap[ob]? = some (.cells #[.slice x.ba x.body.length x.bcap, .slice none 0 0, .slice (some ⟨tb, 0, none⟩) x.body.length x.body.length, .slice (some ⟨kb, 0, none⟩) x.body.length x.body.length, .map (some bm)] 48) := HO
    clear cB makeB makeI hHeld HO
    generalize hba : x.ba = ba at RB cX HO2 ⊢
    have Hba := hideP hba
    clear hba
    go_wp2_with fail
    go_loopw [22] (fun v wr => ∃ j : Nat, v = .int .i64 (j : Int) ∧ j ≤ x.body.length ∧ Kq14 w.heap.size X wr ∧ wr.heap[kb]? = some (.cells (nvs ((List.range x.r.body.length).map fun k => if k < j then Pn.kns [] (Pn.tk x.r k) else 0)) 3) ∧ WaitAt wr bm X.heap.size (Pn.tot x.r j) (fun v => Pn.occ x.r v j) ∧ X.heap.size ≤ wr.heap.size) (fun v _ => x.body.length - (RowKit.intOf v).toNat)
    case atStart => exact ⟨0, rfl, Nat.zero_le _, Kq14.refl _ _, by rw [hrl]; simpa using HK, S0, Nat.le_refl _⟩
    case round =>
      obtain ⟨j, rfl, hj, Q, HKj, Sj, hwj⟩ := hrel
      by_cases hlt : j < x.body.length
      · have hq : (j : Int) < (x.body.length : Int) := by omega
        have Rw := RB.below (BX.trans Q.bel) (Nat.le_refl _)
        obtain ⟨b, oo, rfl⟩ := Rw.addr (by omega)
        have rg := Rw.range j hlt
        have yA := hideP (fun V (h : Below w.heap.size w V) => (hx.each _ (List.getElem_mem hlt)).below h (Nat.le_refl _))
        have ys := hideP (hs _ (List.getElem_mem hlt))
        have yfew := ((hx.each _ (List.getElem_mem hlt)) : Row tK _ _ _ _).few
        have hty : Pn.tk x.r j = Pn.tms (x.body[j]).l := by
          unfold Pn.tk
          rw [List.getElem?_eq_getElem (by rw [hrl]; exact hlt)]
          simp [Rv.r]
        have htot : Pn.tot x.r (j + 1) = Pn.tot x.r j + (Pn.tk x.r j).length := rfl
        have hmon := Pn.tot_mono x.r (a := j + 1) (b := x.body.length) (by omega)
        have HN := hideP (Pn.kns_nil_kts x.r j _ rfl)
        have HO1 := hideP (Pn.addW_occ x.r j)
        generalize hKj : (List.range x.r.body.length).map (fun k => if k < j then Pn.kns [] (Pn.tk x.r k) else 0) = Kj at *
        have lKj : Kj.length = x.body.length := by rw [← hKj]; simp [hrl]
        have zKj : Kj[j]'(by omega) = 0 := by subst hKj; simp
        clear hKj
        generalize x.body[j] = y at *
        have hlen : (Pn.tms y.l).length = y.args.length + 1 := by simp [Pn.tms, Lv.l]
        rw [hty] at htot
        rw [hty] at HN HO1
        rw [hlen] at htot
        have H1 := heap_alloc_new wr (.cells #[.string { data := #[] }, .bool false, .int .i64 0, .string { data := #[] }, .string { data := #[] }, .slice none 0 0, .string { data := #[] }, .bool false, .int .i64 0, .string { data := #[] }] 39)
        have Oj := Q.heap HO2 (by decide)
        have hBw : w.heap.size ≤ wr.heap.size := Nat.le_trans hW1 (Nat.le_trans hS.size hwj)
        have RR := hideP (fun V (q : Kq14 w.heap.size wr V) => (BX.trans Q.bel).trans q.bel)
        go_wp2_with (first
          | (refine wpList_load_mid rfl 39 _ rfl b (oo + j * 10) rfl (lv y) _ rg TL rfl Tryd.iL14 ?_)
          | (refine wpList_store_all rfl 39 _ _ rfl wr.heap.size 10 _ 39 (lv y) rfl rfl H1 rfl rfl Tryd.iL14 rfl ?_; intro w2 H2 b2
             have B2 := below_tok b2
             have r0 : w2.rangeAt wr.heap.size 0 (tv y.by_) := World.rangeAt_of_block H2 0 4
             clear b2)
          | (refine wpList_load_mid rfl 25 _ rfl wr.heap.size 0 rfl (tv y.by_) _ r0 TT rfl Tryd.iT14 ?_)
          | (refine wpList_build_one rfl 26 25 _ rfl (tv y.by_) _ 4 48 rfl rfl (by decide) (by decide) Tryd.underlying26 Tryd.iTz14 ?_; have A3 := below_alloc w2 (.cells (tv y.by_).toArray 25); have N3 := heap_alloc_new w2 (.cells (tv y.by_).toArray 25)))
        have Q3 : Kq14 w.heap.size wr (w2.alloc (.cells (tv y.by_).toArray 25)) := (Kq14.next B2 hBw).trans (Kq14.next A3 (Nat.le_trans hBw B2.size))
        have O3 := Q3.heap Oj (by decide)
        have K3 := below_heap A3 (below_heap B2 HKj)
        have S3 := (Sj.next B2).next A3
        have H3 := below_heap A3 H2
        have hw3 : X.heap.size ≤ (w2.alloc (.cells (tv y.by_).toArray 25)).heap.size := Nat.le_trans hwj (Nat.le_trans B2.size A3.size)
        generalize w2.alloc (.cells (tv y.by_).toArray 25) = w3 at *
        refine (count_at (some ⟨w2.heap.size, 0, none⟩) 1 [y.by_] w.heap.size ob kb bm X.heap.size (Pn.tot x.r j) j x.body.length (.slice (some ⟨b, oo, none⟩) x.body.length x.bcap) (.slice none 0 0) (.slice (some ⟨tb, 0, none⟩) x.body.length x.body.length) Kj (fun v => Pn.occ x.r v j) w3 (fun V q => row_blk14 tK (q.heap N3 (by decide)) [y.by_] rfl (by simp)) O3 K3 lKj hn S3 lkb (by omega) (Nat.le_trans hW1 kb1) (Nat.le_trans hW1 bm1) hw3 (fun t ht => ys.out _ (by rw [List.mem_singleton] at ht; subst ht; exact List.mem_cons_self ..)) (by simp only [List.length_cons, List.length_nil]; omega) (by rw [zKj]; simp)).mono ?_
        rintro e w4 ⟨rfl, Q4, K4, S4⟩
        have O4 := Q4.heap O3 (by decide)
        have H4 := Q4.heap H3 (by decide)
        have s4 : w4.cell? ⟨wr.heap.size, 5, none⟩ = some (.slice y.a y.args.length y.cap) := by rw [heap_cell H4]; rfl
        have Q34 := Q3.trans Q4
        have hw4 := Nat.le_trans hw3 Q4.bel.size
        rw [zKj, Nat.zero_add] at K4
        have l4 : (Kj.set j (Pn.kns [] [y.by_])).length = x.body.length := by rw [List.length_set]; exact lKj
        have g4 : (Kj.set j (Pn.kns [] [y.by_]))[j]'(by omega) = Pn.kns [] [y.by_] := List.getElem_set_self _
        have kb4 := Pn.kns_le [] [y.by_]
        have HA := hideP (show Pn.addW (Pn.addW (fun v => Pn.occ x.r v j) j [y.by_]) j y.args = fun v => Pn.occ x.r v (j + 1) by rw [Pn.addW_app, ← HO1.out]; rfl)
        have HK4 := hideP (show (Kj.set j (Pn.kns [] [y.by_])).set j (Pn.kns [] [y.by_] + Pn.kns [] y.args) = (List.range x.r.body.length).map fun k => if k < j + 1 then Pn.kns [] (Pn.tk x.r k) else 0 by
          rw [List.set_set, ← HN.out, ← Pn.kns_app]; rfl)
        clear S3 K3 O3 H3 A3 N3 HN HO1
        go_wp2_with fail
        refine (count_at y.a y.cap y.args w.heap.size ob kb bm X.heap.size (Pn.tot x.r j + 1) j x.body.length (.slice (some ⟨b, oo, none⟩) x.body.length x.bcap) (.slice none 0 0) (.slice (some ⟨tb, 0, none⟩) x.body.length x.body.length) (Kj.set j (Pn.kns [] [y.by_])) (Pn.addW (fun v => Pn.occ x.r v j) j [y.by_]) w4 (fun V q => yA.out V (RR.out V (Q34.trans q))) O4 K4 l4 hn S4 lkb (by omega) (Nat.le_trans hW1 kb1) (Nat.le_trans hW1 bm1) hw4 (fun t ht => ys.out _ (List.mem_cons_of_mem _ (List.mem_cons_of_mem _ (List.mem_map_of_mem ht)))) (by omega) (by rw [g4]; simp only [List.length_cons, List.length_nil] at kb4; omega)).mono ?_
        rintro e w5 ⟨rfl, Q5, K5, S5⟩
        rw [g4, HK4.out] at K5
        rw [HA.out] at S5
        go_wp2_with fail
        go_roundw
        case rel => exact ⟨j + 1, rfl, hlt, Q.trans (Q34.trans Q5), K5, S5.mono (by omega), Nat.le_trans hw4 Q5.bel.size⟩
        case measure => simp [RowKit.intOf]; omega
      · have hq : ¬ (j : Int) < (x.body.length : Int) := by omega
        obtain rfl : j = x.body.length := by omega
        rw [← hrl, Pn.kts_nil] at HKj
        have Hw := Q.heap HX (by decide)
        have Ow := Q.heap HO2 (by decide)
        have Tw := Q.heap HB (by decide)
        have r0 : wr.rangeAt w.heap.size 0 (tv x.home) := World.rangeAt_of_block Hw 0 4
        have ltm := heap_lt HM
        go_wp2_with (first
          | (refine wpList_load_mid rfl 25 _ rfl w.heap.size 0 rfl (tv x.home) _ r0 TT rfl Tryd.iT14 ?_)
          | (refine wpList_build_one rfl 26 25 _ rfl (tv x.home) _ 4 48 rfl rfl (by decide) (by decide) Tryd.underlying26 Tryd.iTz14 ?_; have A3 := below_alloc wr (.cells (tv x.home).toArray 25); have N3 := heap_alloc_new wr (.cells (tv x.home).toArray 25)))
        have O3 := below_heap A3 Ow
        have K3 := below_heap A3 HKj
        have T3 := below_heap A3 Tw
        have S3 := ((Sj.next A3).tell : TellAt _ _ bm X.heap.size (fun v => Pn.occ x.r v x.body.length))
        rw [← hrl, ← Pn.wts_nil] at S3
        have hw3 : X.heap.size ≤ (wr.alloc (.cells (tv x.home).toArray 25)).heap.size := Nat.le_trans hwj A3.size
        have B3 : Below w.heap.size w (wr.alloc (.cells (tv x.home).toArray 25)) := (BX.trans Q.bel).trans (A3.mono (Nat.le_trans hW1 (Nat.le_trans hS.size hwj)))
        generalize wr.alloc (.cells (tv x.home).toArray 25) = w3 at *
        have pl : Pl14 w.heap.size ob tb kb bm X.heap.size w3 := ⟨Nat.le_trans hW1 ho1, Nat.le_trans hW1 tb1, Nat.le_trans hW1 kb1, Nat.le_trans hW1 bm1, lkb, ltm, lob, ltb, hw3⟩
        have OA : OrdAt ob tb kb bm X.heap.size x w3 w3 (.slice none 0 0) [] [] [] := ⟨by rw [← Hba.out] at O3; exact O3, World.ownsInts_nil _ _ _ _, T3, K3, S3, fun _ _ _ => rfl, Nat.le_refl _⟩
        refine (learn_at x.r [] (some ⟨wr.heap.size, 0, none⟩) 1 [x.home] w.heap.size ob kb bm X.heap.size x.body.length (.slice ba x.body.length x.bcap) (.slice none 0 0) (.slice (some ⟨tb, 0, none⟩) x.body.length x.body.length) w3 w3 (fun V q => row_blk14 tK (q.heap N3 (by decide)) [x.home] rfl (by simp)) O3 K3 hrl.symm S3 (fun _ _ _ => rfl) (Nat.le_refl _) lkb ltm (Nat.le_trans hW1 kb1) (Nat.le_trans hW1 bm1) (fun t ht => by rw [List.mem_singleton] at ht; subst ht; exact hh) hT).mono ?_
        rintro e w5 ⟨rfl, L5, k5, t5⟩
        obtain ⟨O5, K5⟩ := OA.learn pl L5 k5 t5
        go_wp2_with fail
        go_ret
        exact ⟨ob, tb, kb, bm, X.heap.size, .slice none 0 0, w3, rfl, pl, O5, B3.trans K5.bel⟩
end Go.Proofs.YtcncmpgababfjaaDoor
