/-
  Rules in memory of which nothing but their cells is known; whether two terms, literals, rules are the same.
-/
import Derived.Deep.QuietTactic
import Derived.BigQuiet
import Derived.Deep.LoopGhost
import Derived.Laws.StructEq
import Derived.Lib.Builder
import Derived.Lib.AppendStr
import Derived.Lib.UnsafeStr
import Derived.Laws.Externs
import Derived.Test.YtpdmmmdkpipmkaaGreatDoorQMm8
import Derived.Test.YtpdmmmdkpipmkaaGreatDoorQLd
namespace Go.Proofs.YtpdmmmdkpipmkaaGreatDoor
open Go.RowKit Go.Lib Go.Shelf

def Lv.Aw (w : World) (x : Lv) : Prop := Row tK w x.a x.cap x.args
structure Rv.Aw (w : World) (x : Rv) : Prop where
  args : Row tK w x.a x.cap x.args
  body : Row lK w x.ba x.bcap x.body
  each : ∀ l ∈ x.body, Lv.Aw w l
theorem Lv.Aw.below {w w' : World} {x : Lv} {B : Nat} (h : Lv.Aw w x) (hb : Below B w w') (hB : w.heap.size ≤ B) : Lv.Aw w' x := Row.below h hb hB
theorem Rv.Aw.below {w w' : World} {x : Rv} {B : Nat} (h : Rv.Aw w x) (hb : Below B w w') (hB : w.heap.size ≤ B) : Rv.Aw w' x := ⟨h.args.below hb hB, h.body.below hb hB, fun l hl => (h.each l hl).below hb hB⟩
theorem Rv.At.aw {w : World} {x : Rv} (h : Rv.At w x) : Rv.Aw w x := ⟨h.args.row, h.body.row, fun l hl => (show RowT tK _ _ _ _ _ from h.each l hl).row⟩
/-- rules in memory, as a slice -/
structure Rws (w : World) (a : Option Addr) (c : Nat) (xs : List Rv) : Prop where
  row : Row rK w a c xs
  each : ∀ x ∈ xs, Rv.Aw w x
theorem Rws.below {w w' : World} {a : Option Addr} {c : Nat} {xs : List Rv} (h : Rws w a c xs) (hb : Below w.heap.size w w') : Rws w' a c xs := ⟨h.row.below hb (Nat.le_refl _), fun x hx => (h.each x hx).below hb (Nat.le_refl _)⟩
def sameT (t u : Tm) : Bool := (t.v == u.v) && ((t.k.num == u.k.num) && ((t.k.n == u.k.n) && (t.k.s == u.k.s)))
theorem sameT_iff (t u : Tm) : sameT t u = true ↔ t = u := by
  obtain ⟨v, ⟨a, b, c⟩⟩ := t; obtain ⟨v', ⟨a', b', c'⟩⟩ := u
  simp [sameT]
def sameK (k k' : K) : Bool := (k.num == k'.num) && ((k.n == k'.n) && (k.s == k'.s))
theorem beq_str (a b : List UInt8) : ((⟨a.toArray⟩ : ByteArray).toList == (⟨b.toArray⟩ : ByteArray).toList) = (a == b) := by rw [ByteArray.toList_eq, ByteArray.toList_eq]
theorem eqConst (k k' : K) (d : Nat) (w : World) : (Op.equalIn (d + 2) 42 (.agg #[.bool k.num, .int .i64 k.n, str k.s]) (.agg #[.bool k'.num, .int .i64 k'.n, str k'.s])).run Tryz.prog w = .ok (sameK k k') w := by
  rw [run_equalIn_struct w (d + 1) 42 _ _ (by kernel_rfl) (by kernel_rfl)]
  simp only [Program.fieldsOf, Tryz.underlying42, Op.eqFields]
  simp [part, Tryz.isAgg4, Tryz.isAgg3, Tryz.isAgg9, run_equalIn_bool' w d _ _ _ Tryz.underlying4, run_equalIn_int w d _ _ _ _ _ Tryz.underlying3, run_equalIn_string w d _ _ _ Tryz.underlying9, sameK]
  by_cases h1 : k.num = k'.num <;> by_cases h2 : k.n = k'.n <;> by_cases h3 : k.s = k'.s <;> simp [h1, h2, h3]
theorem eqTerm (t u : Tm) (w : World) : (Op.equalIn 10000 44 (tval t) (tval u)).run Tryz.prog w = .ok (sameT t u) w := by
  rw [run_equalIn_struct w 9999 44 _ _ (by kernel_rfl) (by kernel_rfl)]
  simp only [Program.fieldsOf, Tryz.underlying44, Op.eqFields]
  have hc := eqConst t.k u.k 9997 w
  simp [part, Tryz.isAgg9, Tryz.isAgg42, Tryz.sizeOf42, run_equalIn_string w 9998 _ _ _ Tryz.underlying9, hc]
  by_cases h1 : t.v = u.v <;> cases h2 : sameK t.k u.k <;> simp [sameT, h1] <;> simpa [sameK] using h2
def sameTs : List Tm → List Tm → Bool
  | [], [] => true
  | t :: r, u :: s => sameT t u && sameTs r s
  | _, _ => false
theorem sameTs_iff : ∀ ts us : List Tm, sameTs ts us = true ↔ ts = us
  | [], [] => by simp [sameTs]
  | t :: r, u :: s => by simp [sameTs, sameT_iff, sameTs_iff r s]
  | [], _ :: _ => by simp [sameTs]
  | _ :: _, [] => by simp [sameTs]
theorem sameTs_no {ts us : List Tm} (h : ts ≠ us) : sameTs ts us = false := by
  rw [Bool.eq_false_iff]; exact fun h' => h ((sameTs_iff _ _).1 h')
def sameL (x y : Lt) : Bool := sameT x.by_ y.by_ && ((x.pred == y.pred) && (sameTs x.args y.args && sameT x.at_ y.at_))
theorem sameL_iff (x y : Lt) : sameL x y = true ↔ x = y := by
  obtain ⟨a, b, c, d⟩ := x; obtain ⟨a', b', c', d'⟩ := y
  simp [sameL, sameT_iff, sameTs_iff]
def sameLs : List Lt → List Lt → Bool
  | [], [] => true
  | t :: r, u :: s => sameL t u && sameLs r s
  | _, _ => false
theorem sameLs_iff : ∀ ts us : List Lt, sameLs ts us = true ↔ ts = us
  | [], [] => by simp [sameLs]
  | t :: r, u :: s => by simp [sameLs, sameL_iff, sameLs_iff r s]
  | [], _ :: _ => by simp [sameLs]
  | _ :: _, [] => by simp [sameLs]
theorem sameLs_no {ts us : List Lt} (h : ts ≠ us) : sameLs ts us = false := by
  rw [Bool.eq_false_iff]; exact fun h' => h ((sameLs_iff _ _).1 h')
def sameR (x y : Ru) : Bool := sameT x.home y.home && ((x.pred == y.pred) && (sameTs x.args y.args && (sameT x.to_ y.to_ && sameLs x.body y.body)))
theorem sameR_iff (x y : Ru) : sameR x y = true ↔ x = y := by
  obtain ⟨a, b, c, d, e⟩ := x; obtain ⟨a', b', c', d', e'⟩ := y
  simp [sameR, sameT_iff, sameTs_iff, sameLs_iff]
end Go.Proofs.YtpdmmmdkpipmkaaGreatDoor

/-
  The library's text builder as the program holds it: embedded in its printer's block: what its methods do there, and what they leave alone.
-/
namespace Go.Proofs.YtpdmmmdkpipmkaaGreatDoor
open Go.RowKit Go.Lib Go.Shelf

/-- blocks that are neither b nor rows of bytes stand as they stood -/
def Kp (b : Nat) (w w' : World) : Prop := ∀ (k : Nat) (C : Array Value) (T : TypeId), w.heap[k]? = some (.cells C T) → k ≠ b → T ≠ 5 → w'.heap[k]? = some (.cells C T)
theorem Kp.refl (b : Nat) (w : World) : Kp b w w := fun _ _ _ h _ _ => h
theorem Kp.trans {b : Nat} {x y z : World} (h : Kp b x y) (k : Kp b y z) : Kp b x z := fun i C T hi hb hT => k i C T (h i C T hi hb hT) hb hT
theorem Kp.below {b : Nat} {x y z : World} (h : Kp b x y) (k : Below y.heap.size y z) : Kp b x z := fun i C T hi hb hT => below_heap k (h i C T hi hb hT)
theorem Kp.of {b : Nat} {y z : World} (k : Below y.heap.size y z) : Kp b y z := (Kp.refl b y).below k

/-- the printer in block b holds the text l; what it has made lies from B on -/
abbrev Bd (B b : Nat) (l : List UInt8) (w : World) : Prop := Lib.IsBuilder 173 5 B b (Lib.byteCells l) w

theorem Tryz.sizeBld : (Tryz.prog.info? 171).map (·.size) = some 2 := by kernel_rfl
theorem Tryz.liesBld : liesAt Tryz.prog Tryz.prog.depth 173 (2 / Tryz.prog.cellsOf 173) 0 171 1 = true := by kernel_rfl
theorem Tryz.cellsByte : Tryz.prog.cellsOf 5 = 1 := by kernel_rfl

set_option maxHeartbeats 1000000 in
set_option maxRecDepth 100000 in
theorem check_used (b : Nat) (w : World) (h0 : w.cell? ⟨b, 0, none⟩ = some (ptr b)) :
    Calls Tryz.prog 206 #[ptr b] w fun e w' => e = .returned (.tuple #[]) ∧ w = w' := by
  obtain ⟨j, hj, _⟩ := Option.map_eq_some_iff.1 Tryz.sizeBld
  go_enter Tryz.func206, Tryz.ntmps206
  go_wp2
  rw [Lib.run_neq_ptr_same w _ Tryz.underlying169 hj]
  go_wp2
  go_end0
  exact ⟨rfl, rfl⟩
set_option maxHeartbeats 1000000 in
set_option maxRecDepth 100000 in
theorem check_fresh (b : Nat) (w : World) (h0 : w.cell? ⟨b, 0, none⟩ = some (.pointer none)) (hsh : w.shape? b = some (173, 2)) (hfz : w.frozen? ⟨b, 0, none⟩ = false) :
    Calls Tryz.prog 206 #[ptr b] w fun e w' => e = .returned (.tuple #[]) ∧ w.setCell ⟨b, 0, none⟩ (ptr b) = w' := by
  obtain ⟨j, hj, hjs⟩ := Option.map_eq_some_iff.1 Tryz.sizeBld
  go_enter Tryz.func206, Tryz.ntmps206
  go_wp2
  rw [Lib.run_to_unsafe w ⟨b, 0, none⟩ Tryz.underlying169 Tryz.underlying278 hj (by rw [hjs]; decide) hsh (Nat.zero_lt_succ 1)]
  simp only [Result.andThen]
  rw [Oper.upon_value]
  go_wp2
  rw [run_callFunc_extern Tryz.func239 (by kernel_rfl) (by kernel_rfl) (by kernel_rfl) (e := Extern.AbiNoEscape.same) (by kernel_rfl)]
  rw [Lib.run_noEscape]
  simp only [Result.andThen]
  rw [Oper.upon_value]
  go_wp2
  rw [Lib.run_from_unsafe w ⟨b, 0, none⟩ Tryz.underlying278 Tryz.underlying169 hj hsh Tryz.liesBld]
  simp only [Result.andThen]
  rw [Oper.upon_value]
  go_wp2
  go_end0
  exact ⟨rfl, rfl⟩
theorem kp_set {b : Nat} {w : World} (o : Nat) (v : Value) : Kp b w (w.setCell ⟨b, o, none⟩ v) := fun k _ _ hk hb _ => (Below.heap_setCell w ⟨b, o, none⟩ v k hb).trans hk
theorem check_at (B b : Nat) (l : List UInt8) (w : World) (h : Bd B b l w) :
    Calls Tryz.prog 206 #[ptr b] w fun e w' => e = .returned (.tuple #[]) ∧ (Lib.BuilderAt 173 5 B b (ptr b) (Lib.byteCells l) w' ∧ Below B w w' ∧ Kp b w w') := by
  rcases h with h | h
  · refine (check_fresh b w h.cell0 h.shape h.frozen0).mono ?_
    rintro e w' ⟨rfl, rfl⟩
    exact ⟨rfl, h.used _, (Below.refl B w).setCell (p := ⟨b, 0, none⟩) h.1 _, kp_set 0 _⟩
  · refine (check_used b w h.cell0).mono ?_
    rintro e w' ⟨rfl, rfl⟩
    exact ⟨rfl, h, Below.refl B _, Kp.refl _ _⟩

theorem kp_grown {b : Nat} {w w' : World} {B n : Nat} {v : Value} {xs : List Value} (ho : w.ownsRow B 5 1 v n xs) (hg : w.grownBy w' v.ownBlock) : Kp b w w' := fun k C _ hk _ hT => Safe.grown ho hg hT k C hk
theorem byteCells_snoc (l m : List UInt8) : Lib.byteCells l ++ Lib.byteCells m = Lib.byteCells (l ++ m) := by simp [Lib.byteCells]
theorem strCells_byte (s : List UInt8) : Lib.strCells ⟨s.toArray⟩ = Lib.byteCells s := by simp [Lib.strCells, Lib.byteCells]

set_option maxHeartbeats 2000000 in
set_option maxRecDepth 100000 in
theorem writeString_at (B b : Nat) (l s : List UInt8) (w : World) (h : Bd B b l w) (hlen : l.length + s.length ≤ 140737488355328) (hBw : B ≤ w.heap.size) :
    Calls Tryz.prog 166 #[ptr b, str s] w fun e w' => e = .returned (.tuple #[.int .i64 (s.length : Int), .nilIface]) ∧ (Bd B b (l ++ s) w' ∧ Below B w w' ∧ Kp b w w') := by
  have hsz := str_size s
  have hbl := Lib.byteCells_length l
  obtain ⟨i0, hi, hz0, hz1, hz2⟩ := info_parts Tryz.infoU8
  go_enter Tryz.func166, Tryz.ntmps166
  go_wp2_with (go_at_call 206; refine (check_at B b l _ h).mono ?_)
  rintro e w1 ⟨rfl, h1, hb1, hk1⟩
  obtain ⟨hB, v, hbk, hown, hne⟩ := h1
  have c0 : w1.cell? ⟨b, 0, none⟩ = some (ptr b) := by rw [Lib.cell_of_heap hbk]; rfl
  have c1 : w1.cell? ⟨b, 1, none⟩ = some v := by rw [Lib.cell_of_heap hbk]; rfl
  have z1 := hb1.size
  go_wp2_with (at_builtin; refine Lib.wpList_append_own_string _ rfl _ _ 139 9 rfl B 5 i0 Tryz.underlying139 Tryz.underlying9 hi hz0 hz1 hz2 _ _ _ rfl hown ⟨s.toArray⟩ rfl ?c3 ?c4 ?c5 ?_)
  case c3 => unfold maxLen; omega
  case c4 => omega
  case c5 => omega
  intro v' w2 hown' hgrow _
  have hlt : b < w1.heap.size := heap_lt hbk
  have hb2 : w2.heap[b]? = some (.cells #[ptr b, v] 173 (0, 0)) := by
    rw [hgrow.block b hlt (fun e => hne e.symm)]
    exact hbk
  have d0 : w2.cell? ⟨b, 0, none⟩ = some (ptr b) := by rw [Lib.cell_of_heap hb2]; rfl
  have d1 : w2.cell? ⟨b, 1, none⟩ = some v := by rw [Lib.cell_of_heap hb2]; rfl
  have f1 : w2.frozen? ⟨b, 1, none⟩ = false := Lib.frozen_of_heap hb2 1
  obtain ⟨ao, n', cap, rfl⟩ : ∃ ao n' cap, v' = .slice ao n' cap := by
    rcases hown'.2 with ⟨hv, _⟩ | ⟨g, cap, cur, hv, _⟩
    · exact ⟨_, _, _, hv⟩
    · exact ⟨_, _, _, hv⟩
  go_wp2
  go_ret2
  have hkk : Kp b w1 w2 := kp_grown hown hgrow
  refine ⟨rfl, .inr ?_, ?_, (hk1.trans hkk).trans (kp_set 1 _)⟩
  · have h2 : Lib.byteCells (l ++ s) = Lib.byteCells l ++ Lib.strCells ⟨s.toArray⟩ := by rw [strCells_byte, byteCells_snoc]
    rw [h2]
    exact Lib.BuilderAt.put (T := 173) (e := 5) hB hb2 (bs' := Lib.byteCells l ++ Lib.strCells ⟨s.toArray⟩) (by rw [List.length_append, hbl, Lib.strCells_length, hsz]; simpa [hbl, hsz] using hown') (by decide)
  · exact (hb1.grown hgrow (by omega) (fun k hk => (hown.lt k hk).1)).setCell (p := ⟨b, 1, none⟩) hB _

set_option maxHeartbeats 2000000 in
set_option maxRecDepth 100000 in
theorem writeByte_at (B b : Nat) (l : List UInt8) (c : UInt8) (w : World) (h : Bd B b l w) (hlen : l.length + 1 ≤ 140737488355328) (hBw : B ≤ w.heap.size) :
    Calls Tryz.prog 170 #[ptr b, .int .u8 (c.toNat : Int)] w fun e w' => e = .returned .nilIface ∧ (Bd B b (l ++ [c]) w' ∧ Below B w w' ∧ Kp b w w') := by
  have hbl := Lib.byteCells_length l
  obtain ⟨i0, hi, hz0, hz1, hz2⟩ := info_parts Tryz.infoU8
  go_enter Tryz.func170, Tryz.ntmps170
  go_wp2_with (go_at_call 206; refine (check_at B b l _ h).mono ?_)
  rintro e w1 ⟨rfl, h1, hb1, hk1⟩
  obtain ⟨hB, v, hbk, hown, hne⟩ := h1
  have c0 : w1.cell? ⟨b, 0, none⟩ = some (ptr b) := by rw [Lib.cell_of_heap hbk]; rfl
  have c1 : w1.cell? ⟨b, 1, none⟩ = some v := by rw [Lib.cell_of_heap hbk]; rfl
  have z1 := hb1.size
  go_wp2_with (at_builtin; refine wpList_append_own _ rfl _ _ 139 rfl B 5 i0 (.int .u8 0) 1 1 Tryz.underlying139 hi hz0 hz1 hz2 rfl (by decide) _ _ _ rfl (hown.alloc _) ⟨w1.heap.size, 0, none⟩ 1 1 [.int .u8 (c.toNat : Int)] rfl rfl ?c1 ?c2 ?c3 ?c4 ?c5 ?_)
  case c1 =>
    intro j u hj
    match j, hj with
    | 0, hj => simp at hj; subst hj; simp [Addr.add]
  case c2 => intro u hu; simp at hu; subst hu; rfl
  case c3 => unfold maxLen; omega
  case c4 => omega
  case c5 => simp; omega
  intro v' w2 hown' hgrow _
  have hlt : b < w1.heap.size := heap_lt hbk
  have hb2 : w2.heap[b]? = some (.cells #[ptr b, v] 173 (0, 0)) := by
    rw [hgrow.block b (by simp; omega) (fun e => hne e.symm), Lib.alloc_old w1 _ b hlt]
    exact hbk
  have d0 : w2.cell? ⟨b, 0, none⟩ = some (ptr b) := by rw [Lib.cell_of_heap hb2]; rfl
  have d1 : w2.cell? ⟨b, 1, none⟩ = some v := by rw [Lib.cell_of_heap hb2]; rfl
  have f1 : w2.frozen? ⟨b, 1, none⟩ = false := Lib.frozen_of_heap hb2 1
  obtain ⟨ao, n', cap, rfl⟩ : ∃ ao n' cap, v' = .slice ao n' cap := by
    rcases hown'.2 with ⟨hv, _⟩ | ⟨g, cap, cur, hv, _⟩
    · exact ⟨_, _, _, hv⟩
    · exact ⟨_, _, _, hv⟩
  go_wp2
  go_ret
  have hkk : Kp b w1 w2 := (Kp.of (below_alloc w1 _)).trans (kp_grown (hown.alloc _) hgrow)
  refine ⟨rfl, .inr ?_, ?_, (hk1.trans hkk).trans (kp_set 1 _)⟩
  · have h2 : Lib.byteCells (l ++ [c]) = Lib.byteCells l ++ [.int .u8 (c.toNat : Int)] := by rw [← byteCells_snoc]; rfl
    rw [h2]
    exact Lib.BuilderAt.put (T := 173) (e := 5) hB hb2 (bs' := Lib.byteCells l ++ [.int .u8 (c.toNat : Int)]) (by rw [List.length_append, hbl]; simpa [hbl] using hown') (by decide)
  · exact ((hb1.alloc (by omega) _).grown hgrow (by simp; omega) (fun k hk => (hown.lt k hk).1)).setCell (p := ⟨b, 1, none⟩) hB _

theorem Bd.at_ {B b : Nat} {l : List UInt8} {w : World} (h : Bd B b l w) : ∃ p, Lib.BuilderAt 173 5 B b p (Lib.byteCells l) w := by
  rcases h with h | h
  · exact ⟨_, h⟩
  · exact ⟨_, h⟩
set_option maxHeartbeats 1000000 in
set_option maxRecDepth 100000 in
theorem string_at (B b : Nat) (l : List UInt8) (w : World) (h : Bd B b l w) (h0 : l ≠ []) :
    Calls Tryz.prog 123 #[ptr b] w fun e w' => e = .returned (str l) ∧ Below B w w' := by
  have mixed : Tryz.prog.follows .mixedOrders = true := by kernel_rfl
  obtain ⟨p, hB, v, hbk, hown, hne⟩ := h.at_
  have hl0 : l.length ≠ 0 := by simpa using h0
  rw [Lib.byteCells_length] at hown
  obtain ⟨g, cap, cur, rfl, hbg, hg, hnc, hcm, hcs, htake⟩ : ∃ g cap cur, v = .slice (some ⟨g, 0, none⟩) l.length cap ∧ B ≤ g ∧ w.heap[g]? = some (.cells cur 5 (0, 0)) ∧ l.length ≤ cap ∧ cap ≤ maxLen ∧ cur.size = cap * 1 ∧ cur.toList.take (l.length * 1) = Lib.byteCells l := by
    rcases hown.2 with ⟨_, hz⟩ | ⟨g, cap, cur, hv, r⟩
    · exact absurd hz hl0
    · exact ⟨g, cap, cur, hv, r⟩
  have c1 : w.drew.cell? ⟨b, 1, none⟩ = some (.slice (some ⟨g, 0, none⟩) l.length cap) := by
    have : w.drew.heap[b]? = some (.cells #[p, .slice (some ⟨g, 0, none⟩) l.length cap] 173 (0, 0)) := hbk
    rw [Lib.cell_of_heap this]; rfl
  have hSD : (Builtin.unsafeSliceData_ #[139] 217 #[.slice (some ⟨g, 0, none⟩) l.length cap]).run Tryz.prog w.drew = .ok (.pointer (some ⟨g, 0, none⟩)) w.drew :=
    Lib.run_unsafeSliceData_row _ _ _ _ _ _ (by omega)
  have hUS : (Builtin.unsafeString_ #[217, 3] 9 #[.pointer (some ⟨g, 0, none⟩), .int .i64 l.length]).run Tryz.prog w.drew = .ok (str l) (w.drew.freeze ⟨g, 0, none⟩ l.length) := by
    refine Lib.run_unsafeString_row w.drew 217 3 9 5 Tryz.underlying217 Tryz.cellsByte g cur.size (by have hg' : w.drew.heap[g]? = some (.cells cur 5 (0, 0)) := hg; simp [World.shape?, hg']) l h0 (by omega) (by unfold maxLen at hcm; omega) ?_
    intro j x hx
    have := hown.cells (g := g) rfl j (.int .u8 x.toNat) (by simp [Lib.byteCells, hx])
    exact this
  clear hcm htake hcs hne
  go_enter Tryz.func123, Tryz.ntmps123
  go_wp2
  go_region_o
  all_goals (go_wp2; go_ret; exact ⟨rfl, Lib.below_freeze (Below.drew (Below.refl B w)) (p := ⟨g, 0, none⟩) hbg _⟩)
set_option maxHeartbeats 2000000 in
set_option maxRecDepth 100000 in
theorem string_none (B b : Nat) (p : Value) (w : World) (hbk : w.heap[b]? = some (.cells #[p, .slice none 0 0] 173)) :
    Calls Tryz.prog 123 #[ptr b] w fun e w' => e = .returned (str []) ∧ Below B w w' := by
  have mixed : Tryz.prog.follows .mixedOrders = true := by kernel_rfl
  have hUS : ∀ W, (Builtin.unsafeString_ #[217, 3] 9 #[.pointer none, .int .i64 0]).run Tryz.prog W = .ok (.string .empty) W := fun W => Lib.run_unsafeString_none W _ _ _ _
  have c1 : w.drew.cell? ⟨b, 1, none⟩ = some (.slice none 0 0) := by
    have : w.drew.heap[b]? = some (.cells #[p, .slice none 0 0] 173 (0, 0)) := hbk
    rw [Lib.cell_of_heap this]; rfl
  have hSD : (Builtin.unsafeSliceData_ #[139] 217 #[.slice none 0 0]).run Tryz.prog w.drew = .ok (.pointer none) w.drew := rfl
  go_enter Tryz.func123, Tryz.ntmps123
  go_wp2
  go_region_o
  all_goals (go_wp2; go_ret; exact ⟨rfl, Below.drew (Below.refl B w)⟩)
end Go.Proofs.YtpdmmmdkpipmkaaGreatDoor
