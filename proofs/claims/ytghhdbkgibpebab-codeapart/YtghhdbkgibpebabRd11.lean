/-
  The program's Fact and Decode.
-/
import Derived.Deep.RegionHeld3
import Derived.Test.YtghhdbkgibpebabRd9
import Derived.Test.YtghhdbkgibpebabChk
namespace Go.Proofs.Ytghhdbkgibpebab
open Go.RowKit Go.Sort

theorem results_cell_two {P : Program} {fn : Func} {p q r : Tmp} {ty : TypeId} {tmps : Array Value} {w : World} {b : Nat} {C : Array Value} {d : TypeDesc} {T : TypeId} (h : fn.results = #[.cell p ty, .tmp q, .tmp r]) (hp : tmps.getD p undef = .pointer (some ⟨b, 0, none⟩)) (hc : w.heap[b]? = some (.cells C T))
    (hu : P.underlying ty = some d) (hd : d.isRow = true) (hi : (P.info? ty).map (·.size) = some C.size) : (results fn tmps).run P w = .ok (.tuple #[.agg C, tmps.getD q undef, tmps.getD r undef]) w := by
  have hr : w.rangeAt b 0 C.toList := by
    have := World.rangeAt_of_block hc 0 C.size
    simpa using this
  simp only [Array.getD_eq_getD_getElem?] at hp ⊢
  simp only [results, h]
  simp [asAddr, hp, run_loadVar_mid w b 0 ty C.toList d hr hu hd (by simpa using hi)]

/-- a whole block stored anew, at a step of a region that draws its order -/
theorem step_store_all {P : Program} {w : World} {ops : Array Oper} {o : Oper} {a : Act} {K : Act → World → Prop} {Q : Exit → Act → World → Prop} {E : Prop} (hgw : Region.wanted o (yielded ops a.tmps) = true) (ty : TypeId) (x y : Operand) (ho : o.op = .store ty x y)
    (V n : Nat) (T : TypeId) (vs : List Value) {C : Array Value} (hx : a.eval x = .pointer (some ⟨V, 0, none⟩)) (hy : a.eval y = .agg vs.toArray) (hH : w.heap[V]? = some (.cells C T))
    (hin : C.size = n) (hn : vs.length = n) (hi : (P.info? ty).map (·.size) = some n) (h1 : vs.all (·.oneCell') = true)
    (h : ∀ w', w'.heap[V]? = some (.cells vs.toArray T) → But V w w' → K (a.put o.dst undef) w') :
    if Region.wanted o (yielded ops a.tmps) = true then Oper.wp P o a w K Q else E := by
  rw [if_pos hgw]
  exact wp_store_mid ty x y ho V 0 vs.toArray hx hy (by simpa using there_block hH 0 vs.length (by omega)) (by simpa using (show (P.info? ty).map (·.size) = some vs.length by rw [hi, hn])) (by simpa using h1)
    (h _ (by have := heap_setCells V T vs 0 C w hH; rw [splice_all C vs (by omega)] at this; exact this) (But.cells _ _ _ (But.refl V w)))
theorem range_heap {w : World} {V : Nat} {vs : List Value} {T : TypeId} (h : w.heap[V]? = some (.cells vs.toArray T)) : w.rangeAt V 0 vs := by
  have := World.rangeAt_of_block h 0 vs.length
  simpa using this

theorem fact_cells {w : World} {V : Nat} {y : Fv} {T : TypeId} (h : w.heap[V]? = some (.cells (fv y).toArray T)) : w.cell? ⟨V, 0, none⟩ = some (str y.at_) ∧ w.cell? ⟨V, 1, none⟩ = some (str y.by_) ∧ w.cell? ⟨V, 2, none⟩ = some (str y.pred) ∧ w.cell? ⟨V, 3, none⟩ = some (.slice y.a y.ks.length y.cap) := by
  refine ⟨?_, ?_, ?_, ?_⟩ <;> (rw [heap_cell h]; rfl)
def f0 : F := ⟨[], [], [], []⟩
/-- the document's Fact -/
def fR (l : List UInt8) (x : Int) : F × Int × Int :=
  match pFact l x with
  | .error e => (f0, 0, e)
  | .ok (f, j) => bif okB f then (f, j, 0) else (f0, 0, 40)
theorem ArgsAt.of_row {w : World} {a : Option Addr} {c : Nat} {ks : List K} (h : Row kK w a c ks) : ArgsAt w a c ks := ⟨h.room, h.few, h.void, h.cells⟩

end Go.Proofs.Ytghhdbkgibpebab

/-
  The program's Decode.
-/
namespace Go.Proofs.Ytghhdbkgibpebab
open Go.RowKit Go.Sort

/-- the document's Decode -/
def dR (l : List UInt8) : List Ru × Int :=
  match pProg l 0 with
  | .error e => ([], e)
  | .ok (rs, j) => if j = (l.length : Int) then (rs.map Rr.r, 0) else ([], 11)

set_option maxRecDepth 100000 in
set_option maxHeartbeats 4000000 in
theorem decode5_at (a : Option Addr) (c : Nat) (l : List UInt8) (w : World) (ha : Holds w a c l) (hl : l.length ≤ 281474976710656) :
    Calls Try.prog 9 #[.slice a l.length c] w fun e w' => ∃ a' c' ys, e = .returned (.tuple #[.slice a' (List.length ys) c', .int .i64 (dR l).2]) ∧ Row rK w' a' c' ys ∧ (∀ y ∈ ys, Rv.At w' y) ∧ ys.map Rv.r = (dR l).1 ∧ Below w.heap.size w w' := by
  have mixed : Try.prog.follows .mixedOrders = true := by kernel_rfl
  have B0 := below_alloc w (.cells #[.slice a l.length c, .int .i64 0, .int .i64 0, .bool false] 45)
  have V0 := heap_alloc_new w (.cells #[.slice a l.length c, .int .i64 0, .int .i64 0, .bool false] 45)
  have R0 : Rd 45 _ w.heap.size a c l (.ok (0, false)) := ⟨⟨0, 0, false, V0, rfl⟩, ha.below B0, fun ad hd hl => by
      have := cell_block (ha.2.2 ad hd 0 _ (cs_get l 0 hl)); rw [addr_add_block] at this; exact this, hl, fun y g hy => by cases hy; omega⟩
  have hc0 : Clean (.ok (0, false)) := fun x h hs => by cases hs; rfl
  have hL := readListRule_r 768 (pRule2 l) noF Rr.B Clean w.heap.size a c l _ _ R0 (by omega) (fun W s h hp hc => rule_r w.heap.size a c l s W h hp hc) (clean_noF hc0) (fun s hs => clean_noF hs) (snd_rule2 l)
  go_enter Try.func9, Try.ntmps9
  go_wp2_with fail
  refine hL.mono ?_; rintro e w1 ⟨a1, c1, ys, rfl, row1, each1, hg1, R1, b1⟩
  obtain ⟨x1, er, g1, Q1, q1⟩ := R1.obj
  have B1 : Below w.heap.size w w1 := B0.trans (b1.lower (Nat.le_refl _) B0.size)
  have hpr : Hid (stp (pProg l) noF (.ok (0, false)) = stOf x1 er g1) := by
    show _ = _
    rw [← q1, anyF_no]; rfl
  have hgt : Hid (∀ rs, Got (pProg l) (.ok (0, false)) rs → ys.map Rv.r = rs.map Rr.r) := hg1
  clear hL R0 V0 B0 b1 R1 q1 hg1 ha hc0
  have d1 : w1.cell? ⟨w.heap.size, 1, none⟩ = some (.int .i64 x1) := by rw [heap_cell Q1]; rfl
  have d2 : w1.cell? ⟨w.heap.size, 2, none⟩ = some (.int .i64 er) := by rw [heap_cell Q1]; rfl
  by_cases he : er = 0
  · subst he
    have hex : ∃ rs, pProg l 0 = .ok (rs, x1) := by
      have := hpr.out
      cases hj : pProg l 0 with
      | error e => rw [stp_no hj] at this; unfold stOf at this; rw [if_pos rfl] at this; cases this
      | ok r =>
        obtain ⟨rs, j⟩ := r
        rw [stp_ok hj] at this; unfold stOf at this; rw [if_pos rfl] at this
        cases this; exact ⟨rs, rfl⟩
    obtain ⟨rs, hj⟩ := hex
    have hys := hgt.out rs ⟨0, false, x1, rfl, hj⟩
    have HR : Hid (dR l = if x1 = (l.length : Int) then (rs.map Rr.r, 0) else ([], 11)) := by
      show _ = _
      unfold dR; rw [hj]
    have Hys := hideP hys
    clear hj hys hpr hgt
    by_cases hx : x1 = (l.length : Int)
    · have hq : (x1 != (l.length : Int)) = false := by simp [hx]
      have Hx := hideP hx; clear hx
      go_wp2_with fail
      go_ret2
      refine ⟨a1, c1, ys, ?_, row1.row, fun y hy => (each1 y hy).at_, ?_, B1⟩
      · rw [HR.out, if_pos Hx.out]; rfl
      · rw [HR.out, if_pos Hx.out]; exact Hys.out
    · have hq : (x1 != (l.length : Int)) = true := by simpa using hx
      have Hx := hideP hx; clear hx
      go_wp2_with fail
      go_ret2
      refine ⟨none, 0, [], ?_, Row.nil _ _, fun y hy => by simp at hy, ?_, B1⟩
      · rw [HR.out, if_neg Hx.out]; rfl
      · rw [HR.out, if_neg Hx.out]; rfl
  · have hq : (er != 0) = true := by simpa using he
    have HR : Hid (dR l = ([], er)) := by
      show _ = _
      have := hpr.out
      unfold stOf at this; rw [if_neg he] at this
      cases hj : pProg l 0 with
      | error e => rw [stp_no hj] at this; cases this; unfold dR; rw [hj]
      | ok r => obtain ⟨v, j⟩ := r; rw [stp_ok hj] at this; cases this
    clear hpr hgt he
    go_wp2_with fail
    go_quiet (fail)
    go_wp2_with fail
    go_ret2
    refine ⟨none, 0, [], ?_, Row.nil _ _, fun y hy => by simp at hy, ?_, Below.then B1 (Grew.drewN w1 nq).below⟩
    · rw [HR.out]; rfl
    · rw [HR.out]; rfl
end Go.Proofs.Ytghhdbkgibpebab
