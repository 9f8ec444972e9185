/-
  Rules in memory of which nothing but their cells is known; whether two terms, literals, rules are the same.
-/
import Derived.Deep.QuietTactic
import Derived.BigQuiet
import Derived.Deep.LoopGhost
import Derived.Laws.StructEq
import Derived.Great.BuildSlice
import Derived.Test.YtcncmpgababfjaaDoorQMv
namespace Go.Proofs.YtcncmpgababfjaaDoor
open Go.RowKit Go.Lib Go.Shelf

def Lv.Aw (w : World) (x : Lv) : Prop := Row tK w x.a x.cap x.args
structure Rv.Aw (w : World) (x : Rv) : Prop where
  args : Row tK w x.a x.cap x.args
  body : Row lK w x.ba x.bcap x.body
  each : ∀ l ∈ x.body, Lv.Aw w l
theorem Lv.Aw.below {w w' : World} {x : Lv} {B : Nat} (h : Lv.Aw w x) (hb : Below B w w') (hB : w.heap.size ≤ B) : Lv.Aw w' x := Row.below h hb hB
theorem Rv.Aw.below {w w' : World} {x : Rv} {B : Nat} (h : Rv.Aw w x) (hb : Below B w w') (hB : w.heap.size ≤ B) : Rv.Aw w' x := ⟨h.args.below hb hB, h.body.below hb hB, fun l hl => (h.each l hl).below hb hB⟩
theorem Rv.At.aw {w : World} {x : Rv} (h : Rv.At w x) : Rv.Aw w x := ⟨h.args.row, h.body.row, fun l hl => (show RowT tK _ _ _ _ _ from h.each l hl).row⟩
/-- rules in memory, as a slice -/
structure Rws (w : World) (a : Option Addr) (c : Nat) (xs : List Rv) : Prop where
  row : Row rK w a c xs
  each : ∀ x ∈ xs, Rv.Aw w x
theorem Rws.below {w w' : World} {a : Option Addr} {c : Nat} {xs : List Rv} (h : Rws w a c xs) (hb : Below w.heap.size w w') : Rws w' a c xs := ⟨h.row.below hb (Nat.le_refl _), fun x hx => (h.each x hx).below hb (Nat.le_refl _)⟩
def sameT (t u : Tm) : Bool := (t.v == u.v) && ((t.k.num == u.k.num) && ((t.k.n == u.k.n) && (t.k.s == u.k.s)))
theorem sameT_iff (t u : Tm) : sameT t u = true ↔ t = u := by
  obtain ⟨v, ⟨a, b, c⟩⟩ := t; obtain ⟨v', ⟨a', b', c'⟩⟩ := u
  simp [sameT]
def sameK (k k' : K) : Bool := (k.num == k'.num) && ((k.n == k'.n) && (k.s == k'.s))
theorem beq_str (a b : List UInt8) : ((⟨a.toArray⟩ : ByteArray).toList == (⟨b.toArray⟩ : ByteArray).toList) = (a == b) := by rw [ByteArray.toList_eq, ByteArray.toList_eq]
theorem eqConst (k k' : K) (d : Nat) (w : World) : (Op.equalIn (d + 2) 23 (.agg #[.bool k.num, .int .i64 k.n, str k.s]) (.agg #[.bool k'.num, .int .i64 k'.n, str k'.s])).run Tryd.prog w = .ok (sameK k k') w := by
  rw [run_equalIn_struct w (d + 1) 23 _ _ (by kernel_rfl) (by kernel_rfl)]
  simp only [Program.fieldsOf, Tryd.underlying23, Op.eqFields]
  simp [part, Tryd.isAgg4, Tryd.isAgg3, Tryd.isAgg9, run_equalIn_bool' w d _ _ _ Tryd.underlying4, run_equalIn_int w d _ _ _ _ _ Tryd.underlying3, run_equalIn_string w d _ _ _ Tryd.underlying9, sameK]
  by_cases h1 : k.num = k'.num <;> by_cases h2 : k.n = k'.n <;> by_cases h3 : k.s = k'.s <;> simp [h1, h2, h3]
theorem eqTerm (t u : Tm) (w : World) : (Op.equalIn 10000 25 (tval t) (tval u)).run Tryd.prog w = .ok (sameT t u) w := by
  rw [run_equalIn_struct w 9999 25 _ _ (by kernel_rfl) (by kernel_rfl)]
  simp only [Program.fieldsOf, Tryd.underlying25, Op.eqFields]
  have hc := eqConst t.k u.k 9997 w
  simp [part, Tryd.isAgg9, Tryd.isAgg23, Tryd.sizeOf23, run_equalIn_string w 9998 _ _ _ Tryd.underlying9, hc]
  by_cases h1 : t.v = u.v <;> cases h2 : sameK t.k u.k <;> simp [sameT, h1] <;> simpa [sameK] using h2
def sameTs : List Tm → List Tm → Bool
  | [], [] => true
  | t :: r, u :: s => sameT t u && sameTs r s
  | _, _ => false
theorem sameTs_iff : ∀ ts us : List Tm, sameTs ts us = true ↔ ts = us
  | [], [] => by simp [sameTs]
  | t :: r, u :: s => by simp [sameTs, sameT_iff, sameTs_iff r s]
  | [], _ :: _ => by simp [sameTs]
  | _ :: _, [] => by simp [sameTs]
theorem sameTs_no {ts us : List Tm} (h : ts ≠ us) : sameTs ts us = false := by
  rw [Bool.eq_false_iff]; exact fun h' => h ((sameTs_iff _ _).1 h')
def sameL (x y : Lt) : Bool := sameT x.by_ y.by_ && ((x.pred == y.pred) && (sameTs x.args y.args && sameT x.at_ y.at_))
theorem sameL_iff (x y : Lt) : sameL x y = true ↔ x = y := by
  obtain ⟨a, b, c, d⟩ := x; obtain ⟨a', b', c', d'⟩ := y
  simp [sameL, sameT_iff, sameTs_iff]
def sameLs : List Lt → List Lt → Bool
  | [], [] => true
  | t :: r, u :: s => sameL t u && sameLs r s
  | _, _ => false
theorem sameLs_iff : ∀ ts us : List Lt, sameLs ts us = true ↔ ts = us
  | [], [] => by simp [sameLs]
  | t :: r, u :: s => by simp [sameLs, sameL_iff, sameLs_iff r s]
  | [], _ :: _ => by simp [sameLs]
  | _ :: _, [] => by simp [sameLs]
theorem sameLs_no {ts us : List Lt} (h : ts ≠ us) : sameLs ts us = false := by
  rw [Bool.eq_false_iff]; exact fun h' => h ((sameLs_iff _ _).1 h')
def sameR (x y : Ru) : Bool := sameT x.home y.home && ((x.pred == y.pred) && (sameTs x.args y.args && (sameT x.to_ y.to_ && sameLs x.body y.body)))
theorem sameR_iff (x y : Ru) : sameR x y = true ↔ x = y := by
  obtain ⟨a, b, c, d, e⟩ := x; obtain ⟨a', b', c', d', e'⟩ := y
  simp [sameR, sameT_iff, sameTs_iff, sameLs_iff]
end Go.Proofs.YtcncmpgababfjaaDoor

/-
  A row of the call's own that grew: what lay below it stands.
-/
namespace Go.Proofs.YtcncmpgababfjaaDoor
open Go.RowKit Go.Sort

theorem own_below {w w' : World} {base : Nat} {e : TypeId} {k : Nat} {v : Value} {n : Nat} {xs : List Value} (hown : w.ownsRow base e k v n xs) (hg : w.grownBy w' v.ownBlock) (hb : base ≤ w.heap.size) : Below base w w' :=
  (Below.refl _ _).grown hg hb (fun j hj => by
    rcases hown.2 with ⟨h0, _⟩ | ⟨g', c', cur, hv, hgg, _⟩
    · rw [h0] at hj; cases hj
    · rw [hv] at hj; cases hj; exact hgg)
end Go.Proofs.YtcncmpgababfjaaDoor

/-
  Rows of texts: the reference's Has.
-/
namespace Go.Proofs.YtcncmpgababfjaaDoor
open Go.RowKit Go.Lib Go.Shelf

def sK : Kd (List UInt8) := ⟨fun s => [str s], 1, fun _ => rfl, fun _ => rfl, by decide⟩
theorem Row.take {α : Type} {D : Kd α} {w : World} {a : Option Addr} {cap : Nat} {xs : List α} (h : Row D w a cap xs) (k : Nat) : Row D w a cap (xs.take k) := by
  refine ⟨Nat.le_trans (by simp; omega) h.room, Nat.le_trans (by simp; omega) h.few, fun ha => ?_, fun ad ha j u hu => h.cells ad ha j u ?_⟩
  · obtain ⟨rfl, hc⟩ := h.void ha
    exact ⟨by simp, hc⟩
  · have e : xs.flatMap D.enc = (xs.take k).flatMap D.enc ++ (xs.drop k).flatMap D.enc := by rw [← List.flatMap_append, List.take_append_drop]
    rw [e, List.getElem?_append_left (List.getElem?_eq_some_iff.1 hu).1]
    exact hu
theorem Row.text {w : World} {b o cap : Nat} {N : List (List UInt8)} (h : Row sK w (some ⟨b, o, none⟩) cap N) (k : Nat) (hk : k < N.length) : w.cell? ⟨b, o + k, none⟩ = some (str N[k]) := by
  have := h.range k hk 0 (str N[k]) rfl
  rwa [show sK.k = 1 from rfl, Nat.mul_one, Nat.add_zero] at this

end Go.Proofs.YtcncmpgababfjaaDoor

/-
  The parts of a rule and of a literal that lie in a block or a row.
-/
namespace Go.Proofs.YtcncmpgababfjaaDoor
open Go.RowKit Go.Lib Go.Shelf

theorem Tryd.iS1 : (Tryd.prog.info? 9).map (fun i => (i.zero, i.size, i.bytes)) = some (some (.string .empty), sK.k, 16) := by kernel_rfl
theorem rule_parts10 {w : World} {b : Nat} {x : Rv} (H : w.heap[b]? = some (.cells (rv x).toArray 29)) :
    w.rangeAt b 0 (tv x.home) ∧ w.rangeAt b 6 (tv x.to_) ∧ w.cell? ⟨b, 0, none⟩ = some (str x.home.v) ∧ w.cell? ⟨b, 4, none⟩ = some (str x.pred) ∧ w.cell? ⟨b, 5, none⟩ = some (.slice x.a x.args.length x.cap) ∧ w.cell? ⟨b, 6, none⟩ = some (str x.to_.v) ∧ w.cell? ⟨b, 10, none⟩ = some (.slice x.ba x.body.length x.bcap) := by
  refine ⟨?_, ?_, ?_, ?_, ?_, ?_, ?_⟩
  · exact World.rangeAt_of_block H 0 4
  · exact World.rangeAt_of_block H 6 4
  all_goals (rw [heap_cell H]; rfl)
theorem lit_parts10 {w : World} {b : Nat} {y : Lv} (H : w.heap[b]? = some (.cells (lv y).toArray 39)) :
    w.rangeAt b 0 (tv y.by_) ∧ w.rangeAt b 6 (tv y.at_) ∧ w.cell? ⟨b, 4, none⟩ = some (str y.pred) ∧ w.cell? ⟨b, 5, none⟩ = some (.slice y.a y.args.length y.cap) ∧ w.cell? ⟨b, 6, none⟩ = some (str y.at_.v) := by
  refine ⟨?_, ?_, ?_, ?_, ?_⟩
  · exact World.rangeAt_of_block H 0 4
  · exact World.rangeAt_of_block H 6 4
  all_goals (rw [heap_cell H]; rfl)
theorem lit_in {w : World} {b o : Nat} {y : Lv} (h : w.rangeAt b o (lv y)) : w.rangeAt b o (tv y.by_) ∧ w.rangeAt b (o + 6) (tv y.at_) ∧ w.cell? ⟨b, o + 4, none⟩ = some (str y.pred) ∧ w.cell? ⟨b, o + 5, none⟩ = some (.slice y.a y.args.length y.cap) ∧ w.cell? ⟨b, o + 6, none⟩ = some (str y.at_.v) := by
  refine ⟨fun j u hu => h j u ?_, fun j u hu => ?_, h 4 _ rfl, h 5 _ rfl, h 6 _ rfl⟩
  · have hj : j < 4 := (List.getElem?_eq_some_iff.1 hu).1
    match j, hj with
    | 0, _ => exact hu
    | 1, _ => exact hu
    | 2, _ => exact hu
    | 3, _ => exact hu
  · have hj : j < 4 := (List.getElem?_eq_some_iff.1 hu).1
    have e : ∀ i, o + 6 + i = o + (6 + i) := fun i => Nat.add_assoc ..
    rw [e]
    refine h (6 + j) u ?_
    match j, hj with
    | 0, _ => exact hu
    | 1, _ => exact hu
    | 2, _ => exact hu
    | 3, _ => exact hu
end Go.Proofs.YtcncmpgababfjaaDoor

/-
  A slice literal of one record.
-/
namespace Go.Proofs.YtcncmpgababfjaaDoor
open Go.RowKit Go.Sort

theorem fold_splice : ∀ (vs : List Value) (o : Nat) (C : Array Value), (vs.zipIdx o).foldl (fun cs x => cs.setIfInBounds (0 + x.2) x.1) C = splice C o vs
  | [], _, _ => rfl
  | v :: r, o, C => by
    rw [List.zipIdx_cons, List.foldl_cons, splice, ← fold_splice r (o + 1)]
    simp
theorem wpList_build_one {P : Program} {ops : Array Oper} {rest : List Oper} {o : Oper} {a : Act} {w : World} {Q : Exit → Act → World → Prop} (hg : o.guard = none) (t e : TypeId) (x : Operand) (ho : o.op = .buildSlice t 1 #[(0, x)])
    (vs : List Value) (z : Value) (k bytes : Nat) (hx : a.eval x = .agg vs.toArray) (hk : vs.length = k) (hk0 : 0 < k) (hk1 : k ≤ 1000)
    (hu : P.underlying t = some (.slice e)) (hi : (P.info? e).map (fun i => (i.zero, i.size, i.bytes)) = some (some z, k, bytes))
    (h : wpList P ops Q rest (a.put o.dst (.slice (some ⟨w.heap.size, 0, none⟩) 1 1)) (w.alloc (.cells vs.toArray e))) : wpList P ops Q (o :: rest) a w := by
  obtain ⟨i0, h0, h1, h2, h3⟩ := info_parts hi
  refine wpList_buildSlice hg t e 1 _ ho _ i0 z hu h0 h1 (by rw [h2]; omega) (by rw [h2]; omega) ?_ h
  rw [h2]
  generalize hC : (Array.range (1 * k)).map (z.cells[· % z.cells.size]!) = C
  have hs : C.size = k := by rw [← hC]; simp
  have e1 : ((#[(0, x)] : Array (Nat × Operand)).map fun (i, x) => (i, a.eval x)).toList = [(0, .agg vs.toArray)] := by simp [hx]
  rw [e1]
  have hc : (Value.agg vs.toArray).cells = vs.toArray := rfl
  unfold Instr.fill
  simp only [hc, List.size_toArray, hk]
  rw [if_neg (by simp [hs])]
  unfold Instr.fill
  have hz : vs.toArray.zipIdx = (vs.zipIdx 0).toArray := by simp
  rw [hz]
  simp only [List.foldl_toArray']
  have := fold_splice vs 0 C
  simp only [Nat.zero_mul] at *
  rw [show (fun (cs : Array Value) (x : Value × Nat) => match x with | (c, j) => cs.setIfInBounds (0 + j) c) = fun cs x => cs.setIfInBounds (0 + x.2) x.1 from rfl]
  rw [this, splice_all C vs (by omega)]
end Go.Proofs.YtcncmpgababfjaaDoor
