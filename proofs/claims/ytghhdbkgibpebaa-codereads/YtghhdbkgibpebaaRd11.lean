/-
  The program's Fact and Decode.
-/
import Derived.Deep.RegionHeld3
import Derived.Test.YtghhdbkgibpebaaRd9
import Derived.Test.YtghhdbkgibpebaaChk
namespace Go.Proofs.Ytghhdbkgibpebaa
open Go.RowKit Go.Sort

theorem results_cell_two {P : Program} {fn : Func} {p q r : Tmp} {ty : TypeId} {tmps : Array Value} {w : World} {b : Nat} {C : Array Value} {d : TypeDesc} {T : TypeId} (h : fn.results = #[.cell p ty, .tmp q, .tmp r]) (hp : tmps.getD p undef = .pointer (some ⟨b, 0, none⟩)) (hc : w.heap[b]? = some (.cells C T))
    (hu : P.underlying ty = some d) (hd : d.isRow = true) (hi : (P.info? ty).map (·.size) = some C.size) : (results fn tmps).run P w = .ok (.tuple #[.agg C, tmps.getD q undef, tmps.getD r undef]) w := by
  have hr : w.rangeAt b 0 C.toList := by
    have := World.rangeAt_of_block hc 0 C.size
    simpa using this
  simp only [Array.getD_eq_getD_getElem?] at hp ⊢
  simp only [results, h]
  simp [asAddr, hp, run_loadVar_mid w b 0 ty C.toList d hr hu hd (by simpa using hi)]

/-- a whole block stored anew, at a step of a region that draws its order -/
theorem step_store_all {P : Program} {w : World} {ops : Array Oper} {o : Oper} {a : Act} {K : Act → World → Prop} {Q : Exit → Act → World → Prop} {E : Prop} (hgw : Region.wanted o (yielded ops a.tmps) = true) (ty : TypeId) (x y : Operand) (ho : o.op = .store ty x y)
    (V n : Nat) (T : TypeId) (vs : List Value) {C : Array Value} (hx : a.eval x = .pointer (some ⟨V, 0, none⟩)) (hy : a.eval y = .agg vs.toArray) (hH : w.heap[V]? = some (.cells C T))
    (hin : C.size = n) (hn : vs.length = n) (hi : (P.info? ty).map (·.size) = some n) (h1 : vs.all (·.oneCell') = true)
    (h : ∀ w', w'.heap[V]? = some (.cells vs.toArray T) → But V w w' → K (a.put o.dst undef) w') :
    if Region.wanted o (yielded ops a.tmps) = true then Oper.wp P o a w K Q else E := by
  rw [if_pos hgw]
  exact wp_store_mid ty x y ho V 0 vs.toArray hx hy (by simpa using there_block hH 0 vs.length (by omega)) (by simpa using (show (P.info? ty).map (·.size) = some vs.length by rw [hi, hn])) (by simpa using h1)
    (h _ (by have := heap_setCells V T vs 0 C w hH; rw [splice_all C vs (by omega)] at this; exact this) (But.cells _ _ _ (But.refl V w)))
theorem range_heap {w : World} {V : Nat} {vs : List Value} {T : TypeId} (h : w.heap[V]? = some (.cells vs.toArray T)) : w.rangeAt V 0 vs := by
  have := World.rangeAt_of_block h 0 vs.length
  simpa using this

theorem fact_cells {w : World} {V : Nat} {y : Fv} {T : TypeId} (h : w.heap[V]? = some (.cells (fv y).toArray T)) : w.cell? ⟨V, 0, none⟩ = some (str y.at_) ∧ w.cell? ⟨V, 1, none⟩ = some (str y.by_) ∧ w.cell? ⟨V, 2, none⟩ = some (str y.pred) ∧ w.cell? ⟨V, 3, none⟩ = some (.slice y.a y.ks.length y.cap) := by
  refine ⟨?_, ?_, ?_, ?_⟩ <;> (rw [heap_cell h]; rfl)
def f0 : F := ⟨[], [], [], []⟩
/-- the document's Fact -/
def fR (l : List UInt8) (x : Int) : F × Int × Int :=
  match pFact l x with
  | .error e => (f0, 0, e)
  | .ok (f, j) => bif okB f then (f, j, 0) else (f0, 0, 40)
theorem ArgsAt.of_row {w : World} {a : Option Addr} {c : Nat} {ks : List K} (h : Row kK w a c ks) : ArgsAt w a c ks := ⟨h.room, h.few, h.void, h.cells⟩

set_option maxRecDepth 100000 in
set_option maxHeartbeats 4000000 in
theorem fact5_at (a : Option Addr) (c : Nat) (l : List UInt8) (x : Int) (w : World) (ha : Holds w a c l) (hl : l.length ≤ 281474976710656) (h0 : -9223372036854775808 ≤ x) (h1 : x ≤ 9223372036854775807) :
    Calls Try.prog 14 #[.slice a l.length c, .int .i64 x] w fun e w' => ∃ y : Fv, e = .returned (.tuple #[y.val, .int .i64 (fR l x).2.1, .int .i64 (fR l x).2.2]) ∧ y.f = (fR l x).1 ∧ Fv.At w' y ∧ Below w.heap.size w w' := by
  have mixed : Try.prog.follows .mixedOrders = true := by kernel_rfl
  have B0 := Below.then (below_alloc w (.cells #[.string .empty, .string .empty, .string .empty, .slice none 0 0] 24)) (below_alloc _ (.cells #[.slice a l.length c, .int .i64 x, .int .i64 0, .bool false] 69))
  have H0 := below_heap (below_alloc _ (.cells #[.slice a l.length c, .int .i64 x, .int .i64 0, .bool false] 69)) (heap_alloc_new w (.cells #[.string .empty, .string .empty, .string .empty, .slice none 0 0] 24))
  have V0 := heap_alloc_new (w.alloc (.cells #[.string .empty, .string .empty, .string .empty, .slice none 0 0] 24)) (.cells #[.slice a l.length c, .int .i64 x, .int .i64 0, .bool false] 69)
  rw [show (w.alloc (.cells #[.string .empty, .string .empty, .string .empty, .slice none 0 0] 24)).heap.size = w.heap.size + 1 by simp] at V0
  have R0 : Rd 69 _ (w.heap.size + 1) a c l (.ok (x, false)) := ⟨⟨x, 0, false, V0, rfl⟩, ha.below B0, fun ad hd hl => by
      have := cell_block (ha.2.2 ad hd 0 _ (cs_get l 0 hl)); rw [addr_add_block] at this; omega, hl, fun y g hy => by cases hy; exact ⟨h0, h1⟩⟩
  have hF := fact_r (w.heap.size + 1) a c l _ _ R0
  have hC := fun y W (h : Fv.At W y) => check_at y W h
  simp only [errno] at hC
  have iN : (Try.prog.info? 24).map (·.size) = some 4 := by kernel_rfl
  go_enter Try.func14, Try.ntmps14
  go_wp2_with fail
  refine hF.mono ?_; rintro e w1 ⟨y, rfl, row1, hg1, R1, b1⟩
  have H1 := b1.heap (show w.heap.size ≠ w.heap.size + 1 by omega) H0
  obtain ⟨x1, er, g1, Q1, q1⟩ := R1.obj
  have B1 : Below w.heap.size w w1 := B0.trans (b1.lower (by omega) B0.size)
  clear B0 H0 V0 R0 hF b1 R1 ha
  have Hq1 := hideP q1; have Hg1 := hideP hg1
  clear q1 hg1
  generalize hS : w.heap.size = S at *
  have HS := hideP hS; clear hS
  have hQ : ∀ W, But S w1 W → W.heap[S + 1]? = some (.cells #[.slice a l.length c, .int .i64 x1, .int .i64 er, .bool g1] 69) ∧ W.cell? ⟨S + 1, 2, none⟩ = some (.int .i64 er) := fun W d => by
    have := d.heap (show S + 1 ≠ S by omega) Q1
    exact ⟨this, by rw [heap_cell this]; rfl⟩
  by_cases he : er = 0
  · subst he
    have hq : ((0 : Int) != 0) = false := rfl
    go_wp2_with (first
      | (refine wpList_store_all rfl 24 _ _ rfl S 4 _ 24 (fv y) rfl rfl H1 rfl rfl iN rfl ?_; intro w2 H2 b2; obtain ⟨Q2, d2⟩ := hQ w2 b2)
      | (refine wpList_load_all rfl 24 _ rfl S 4 24 (fv y) _ rfl H2 rfl Try.underlying24 rfl iN ?_))
    have row2 := row1.safe (Safe.but b2 H1 (by decide))
    have B2 : Below S w w2 := B1.trans (b2.lower (Nat.le_refl _) (by have := B1.size; rw [HS.out] at this; exact this))
    refine (hC y w2 (ArgsAt.of_row row2.row)).mono ?_; rintro e w3 ⟨rfl, b3⟩
    have H3 := below_heap b3 H2
    have Q3 := below_heap b3 Q2
    have row3 := row2.safe (Safe.below b3)
    have B3 : Below S w w3 := B2.trans (b3.mono (by have := B2.size; rw [HS.out] at this; exact this))
    clear H1 Q1 B1 row1 H2 Q2 row2 B2 b2 b3 d2 hQ hC
    have hgot : ∀ f j, pFact l x = .ok (f, j) → y.f = f := fun f j hj => Hg1.out f ⟨x, false, j, rfl, hj⟩
    have hst : ∀ f j, pFact l x = .ok (f, j) → x1 = j := fun f j hj => by
      have := Hq1.out
      rw [stp_ok hj] at this
      unfold stOf at this; rw [if_pos rfl] at this
      cases this; rfl
    have hex : ∃ f j, pFact l x = .ok (f, j) := by
      have := Hq1.out
      cases hj : pFact l x with
      | error e => rw [stp_no hj] at this; unfold stOf at this; rw [if_pos rfl] at this; cases this
      | ok r => exact ⟨r.1, r.2, rfl⟩
    obtain ⟨f, j, hj⟩ := hex
    have hf := hgot f j hj
    have hx1 := hst f j hj
    subst hf hx1
    have HR : Hid (fR l x = bif okB y.f then (y.f, x1, 0) else (f0, 0, 40)) := by
      show _ = _
      unfold fR; rw [hj]
    clear hgot hst hj Hq1 Hg1
    cases hok : okB y.f
    · have HR' : Hid (fR l x = (f0, 0, 40)) := by show _ = _; rw [HR.out, hok]; rfl
      go_wp2_with (refine wpList_store_all rfl 24 _ _ rfl S 4 _ 24 (fv nof) rfl rfl H3 rfl rfl iN rfl ?_; intro w4 H4 b4)
      refine bodyPost_ret (results_cell_two (b := S) rfl rfl H4 Try.underlying24 rfl (by kernel_rfl)) rfl ⟨nof, ?_, ?_, ArgsAt.nil _, ?_⟩
      · rw [HR'.out]; rfl
      · rw [HR'.out]; rfl
      · rw [HS.out]; exact B3.trans (b4.lower (Nat.le_refl _) (by have := B3.size; rw [HS.out] at this; exact this))
    · have HR' : Hid (fR l x = (y.f, x1, 0)) := by show _ = _; rw [HR.out, hok]; rfl
      have BD : Below w3.heap.size w3 w3.drew := (Below.refl _ _).drew
      have HD := below_heap BD H3
      obtain ⟨c0, c1, c2, c3⟩ := fact_cells H3
      have c4 : w3.cell? ⟨S + 1, 1, none⟩ = some (.int .i64 x1) := by rw [heap_cell Q3]; rfl
      have z0 := heap_frozen H3 0; have z1 := heap_frozen H3 1; have z2 := heap_frozen H3 2; have z3 := heap_frozen H3 3
      have ne1 : ¬ S + 1 = S := by omega
      have ne2 : ¬ S = S + 1 := by omega
      go_wp2_with fail
      go_region_held3 (fun W => W.cell? ⟨S, 0, none⟩ = some (str y.at_) ∧ W.cell? ⟨S, 1, none⟩ = some (str y.by_) ∧ W.cell? ⟨S, 2, none⟩ = some (str y.pred) ∧ W.cell? ⟨S, 3, none⟩ = some (.slice y.a y.ks.length y.cap) ∧ W.cell? ⟨S + 1, 1, none⟩ = some (.int .i64 x1)) (simp [World.cell?_setCell_other, World.cell?_setCell_same', c0, c1, c2, c3, c4]) (fail)
      go_wp2_with fail
      have hH4 := heap_setCells S 24 (fv y) 0 _ w3.drew HD
      rw [splice_all _ _ rfl] at hH4
      have hb4 : But S w3.drew (w3.drew.setCells S 0 (fv y)) := But.cells _ _ _ (But.refl S _)
      change (((((w3.drew.setCell ⟨S, 0, none⟩ (str y.at_)).setCell ⟨S, 1, none⟩ (str y.by_)).setCell ⟨S, 2, none⟩ (str y.pred)).setCell ⟨S, 3, none⟩ (.slice y.a y.ks.length y.cap))).heap[S]? = some _ at hH4
      change But S w3.drew (((((w3.drew.setCell ⟨S, 0, none⟩ (str y.at_)).setCell ⟨S, 1, none⟩ (str y.by_)).setCell ⟨S, 2, none⟩ (str y.pred)).setCell ⟨S, 3, none⟩ (.slice y.a y.ks.length y.cap)))  at hb4
      have H4 := hH4; have b4 := hb4
      clear hH4 hb4
      have row4 := (row3.safe (Safe.below BD)).safe (Safe.but b4 HD (by decide))
      refine bodyPost_ret (results_cell_two (b := S) rfl rfl H4 Try.underlying24 rfl (by kernel_rfl)) rfl ⟨y, ?_, ?_, ArgsAt.of_row row4.row, ?_⟩
      · rw [HR'.out]; rfl
      · rw [HR'.out]
      · have z3 := B3.size
        rw [HS.out] at z3 ⊢; exact (B3.trans (BD.mono z3)).trans (b4.lower (Nat.le_refl _) z3)
  · have hq : (er != 0) = true := by simpa using he
    have HR : Hid (fR l x = (f0, 0, er)) := by
      show _ = _
      have := Hq1.out
      unfold stOf at this; rw [if_neg he] at this
      cases hj : pFact l x with
      | error e => rw [stp_no hj] at this; cases this; unfold fR; rw [hj]
      | ok r => obtain ⟨v, j⟩ := r; rw [stp_ok hj] at this; cases this
    clear Hq1 Hg1 he
    go_wp2_with (refine wpList_store_all rfl 24 _ _ rfl S 4 _ 24 (fv y) rfl rfl H1 rfl rfl iN rfl ?_; intro w2 H2 b2; obtain ⟨Q2, d2⟩ := hQ w2 b2)
    have BD : Below w2.heap.size w2 w2.drew := (Below.refl _ _).drew
    have HD := below_heap BD H2
    obtain ⟨c0, c1, c2, c3⟩ := fact_cells H2
    have z0 := heap_frozen H2 0; have z1 := heap_frozen H2 1; have z2 := heap_frozen H2 2; have z3 := heap_frozen H2 3
    have ne1 : ¬ S + 1 = S := by omega
    have ne2 : ¬ S = S + 1 := by omega
    go_region_held3 (fun W => W.cell? ⟨S + 1, 2, none⟩ = some (.int .i64 er)) (simp [World.cell?_setCell_other, d2]) (fail)
    go_wp2_with fail
    have hH4 := heap_setCells S 24 (fv nof) 0 _ w2.drew HD
    rw [splice_all (fv y).toArray (fv nof) rfl] at hH4
    have hb4 : But S w2.drew (w2.drew.setCells S 0 (fv nof)) := But.cells _ _ _ (But.refl S _)
    change (((((w2.drew.setCell ⟨S, 0, none⟩ (.string .empty)).setCell ⟨S, 1, none⟩ (.string .empty)).setCell ⟨S, 2, none⟩ (.string .empty)).setCell ⟨S, 3, none⟩ (.slice none 0 0))).heap[S]? = some _ at hH4
    change But S w2.drew (((((w2.drew.setCell ⟨S, 0, none⟩ (.string .empty)).setCell ⟨S, 1, none⟩ (.string .empty)).setCell ⟨S, 2, none⟩ (.string .empty)).setCell ⟨S, 3, none⟩ (.slice none 0 0)))  at hb4
    have H4 := hH4; have b4 := hb4
    clear hH4 hb4
    refine bodyPost_ret (results_cell_two (b := S) rfl rfl H4 Try.underlying24 rfl (by kernel_rfl)) rfl ⟨nof, ?_, ?_, ArgsAt.nil _, ?_⟩
    · rw [HR.out]; rfl
    · rw [HR.out]; rfl
    · have z1 := B1.size
      rw [HS.out] at z1 ⊢
      have B2 := B1.trans (b2.lower (Nat.le_refl _) z1)
      have z2 := B2.size
      rw [HS.out] at z2
      exact (B2.trans (BD.mono z2)).trans (b4.lower (Nat.le_refl _) z2)
end Go.Proofs.Ytghhdbkgibpebaa

/-
  The program's Decode.
-/
namespace Go.Proofs.Ytghhdbkgibpebaa
open Go.RowKit Go.Sort

/-- the document's Decode -/
def dR (l : List UInt8) : List Ru × Int :=
  match pProg l 0 with
  | .error e => ([], e)
  | .ok (rs, j) => if j = (l.length : Int) then (rs.map Rr.r, 0) else ([], 11)

set_option maxRecDepth 100000 in
set_option maxHeartbeats 4000000 in
theorem decode5_at (a : Option Addr) (c : Nat) (l : List UInt8) (w : World) (ha : Holds w a c l) (hl : l.length ≤ 281474976710656) :
    Calls Try.prog 24 #[.slice a l.length c] w fun e w' => ∃ a' c' ys, e = .returned (.tuple #[.slice a' (List.length ys) c', .int .i64 (dR l).2]) ∧ Row rK w' a' c' ys ∧ (∀ y ∈ ys, Rv.At w' y) ∧ ys.map Rv.r = (dR l).1 ∧ Below w.heap.size w w' := by
  have mixed : Try.prog.follows .mixedOrders = true := by kernel_rfl
  have B0 := below_alloc w (.cells #[.slice a l.length c, .int .i64 0, .int .i64 0, .bool false] 69)
  have V0 := heap_alloc_new w (.cells #[.slice a l.length c, .int .i64 0, .int .i64 0, .bool false] 69)
  have R0 : Rd 69 _ w.heap.size a c l (.ok (0, false)) := ⟨⟨0, 0, false, V0, rfl⟩, ha.below B0, fun ad hd hl => by
      have := cell_block (ha.2.2 ad hd 0 _ (cs_get l 0 hl)); rw [addr_add_block] at this; exact this, hl, fun y g hy => by cases hy; omega⟩
  have hc0 : Clean (.ok (0, false)) := fun x h hs => by cases hs; rfl
  have hL := readListRule_r 768 (pRule2 l) noF Rr.B Clean w.heap.size a c l _ _ R0 (by omega) (fun W s h hp hc => rule_r w.heap.size a c l s W h hp hc) (clean_noF hc0) (fun s hs => clean_noF hs) (snd_rule2 l)
  go_enter Try.func24, Try.ntmps24
  go_wp2_with fail
  refine hL.mono ?_; rintro e w1 ⟨a1, c1, ys, rfl, row1, each1, hg1, R1, b1⟩
  obtain ⟨x1, er, g1, Q1, q1⟩ := R1.obj
  have B1 : Below w.heap.size w w1 := B0.trans (b1.lower (Nat.le_refl _) B0.size)
  have hpr : Hid (stp (pProg l) noF (.ok (0, false)) = stOf x1 er g1) := by
    show _ = _
    rw [← q1, anyF_no]; rfl
  have hgt : Hid (∀ rs, Got (pProg l) (.ok (0, false)) rs → ys.map Rv.r = rs.map Rr.r) := hg1
  clear hL R0 V0 B0 b1 R1 q1 hg1 ha hc0
  have d1 : w1.cell? ⟨w.heap.size, 1, none⟩ = some (.int .i64 x1) := by rw [heap_cell Q1]; rfl
  have d2 : w1.cell? ⟨w.heap.size, 2, none⟩ = some (.int .i64 er) := by rw [heap_cell Q1]; rfl
  by_cases he : er = 0
  · subst he
    have hex : ∃ rs, pProg l 0 = .ok (rs, x1) := by
      have := hpr.out
      cases hj : pProg l 0 with
      | error e => rw [stp_no hj] at this; unfold stOf at this; rw [if_pos rfl] at this; cases this
      | ok r =>
        obtain ⟨rs, j⟩ := r
        rw [stp_ok hj] at this; unfold stOf at this; rw [if_pos rfl] at this
        cases this; exact ⟨rs, rfl⟩
    obtain ⟨rs, hj⟩ := hex
    have hys := hgt.out rs ⟨0, false, x1, rfl, hj⟩
    have HR : Hid (dR l = if x1 = (l.length : Int) then (rs.map Rr.r, 0) else ([], 11)) := by
      show _ = _
      unfold dR; rw [hj]
    have Hys := hideP hys
    clear hj hys hpr hgt
    by_cases hx : x1 = (l.length : Int)
    · have hq : (x1 != (l.length : Int)) = false := by simp [hx]
      have Hx := hideP hx; clear hx
      go_wp2_with fail
      go_ret2
      refine ⟨a1, c1, ys, ?_, row1.row, fun y hy => (each1 y hy).at_, ?_, B1⟩
      · rw [HR.out, if_pos Hx.out]; rfl
      · rw [HR.out, if_pos Hx.out]; exact Hys.out
    · have hq : (x1 != (l.length : Int)) = true := by simpa using hx
      have Hx := hideP hx; clear hx
      go_wp2_with fail
      go_ret2
      refine ⟨none, 0, [], ?_, Row.nil _ _, fun y hy => by simp at hy, ?_, B1⟩
      · rw [HR.out, if_neg Hx.out]; rfl
      · rw [HR.out, if_neg Hx.out]; rfl
  · have hq : (er != 0) = true := by simpa using he
    have HR : Hid (dR l = ([], er)) := by
      show _ = _
      have := hpr.out
      unfold stOf at this; rw [if_neg he] at this
      cases hj : pProg l 0 with
      | error e => rw [stp_no hj] at this; cases this; unfold dR; rw [hj]
      | ok r => obtain ⟨v, j⟩ := r; rw [stp_ok hj] at this; cases this
    clear hpr hgt he
    go_wp2_with fail
    go_quiet (fail)
    go_wp2_with fail
    go_ret2
    refine ⟨none, 0, [], ?_, Row.nil _ _, fun y hy => by simp at hy, ?_, Below.then B1 (Grew.drewN w1 nq).below⟩
    · rw [HR.out]; rfl
    · rw [HR.out]; rfl
end Go.Proofs.Ytghhdbkgibpebaa
