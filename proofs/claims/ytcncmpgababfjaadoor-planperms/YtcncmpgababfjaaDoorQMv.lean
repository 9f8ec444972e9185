/-
  What every walk of any layer leans on: a slice that holds bytes, in whatever memory; strings of bytes; facts of this program's types.
-/
import Derived.WalkKit
import Derived.ProofKit
import Derived.OpenShut
import Derived.ShutString
import Derived.ChangeOld
import Derived.Below
import Derived.WalkSpells
import Derived.WalkLawsBesides
import Derived.Deep.AppendSrc
import Derived.Deep.DeepAppendRoom
import Derived.Laws.IdiomStrings
import Derived.Laws.AppendOwnNone
import Derived.Laws.Cover1
import Derived.Sort.Grow
import Derived.Deep.MidRow
import Derived.WalkMore
import Derived.Shelf.Abstract
import Derived.Test.YtcncmpgababfjaaDoorRows
import Derived.Test.YtcncmpgababfjaaDoorQMc
namespace Go.Proofs.YtcncmpgababfjaaDoor
open Go.RowKit

theorem Tryd.own : ownKnob Tryd.prog.godebug = none := by kernel_rfl
theorem Tryd.laidOut : laidOutB Tryd.prog = true := by kernel_rfl
theorem Tryd.infoU8 : (Tryd.prog.info? 5).map (fun i => (i.zero, i.size, i.bytes)) = some (some (.int .u8 0), 1, 1) := by kernel_rfl

/-- the cells of some bytes -/
def cs (l : List UInt8) : List Value := l.map fun b => Value.int .u8 (b.toNat : Int)
theorem cs_length (l : List UInt8) : (cs l).length = l.length := by simp [cs]
theorem cs_append (l m : List UInt8) : cs (l ++ m) = cs l ++ cs m := by simp [cs]
theorem cs_one (l : List UInt8) : ∀ u ∈ cs l, u.oneCell' = true := by
  intro u hu
  obtain ⟨_, _, rfl⟩ := List.mem_map.1 hu
  rfl
theorem cs_get (l : List UInt8) (j : Nat) (h : j < l.length) : (cs l)[j]? = some (.int .u8 (l[j].toNat : Int)) := by simp [cs, h]

/-- A SLICE THAT HOLDS BYTES in the world w: nil and none, or an address behind which they lie. -/
def Holds (w : World) (a : Option Addr) (cap : Nat) (l : List UInt8) : Prop :=
  l.length ≤ cap ∧ (a = none → l = [] ∧ cap = 0) ∧ ∀ ad, a = some ad → ∀ j u, (cs l)[j]? = some u → w.cell? (ad.add j) = some u

theorem Holds.nil (w : World) : Holds w none 0 [] := ⟨by simp, fun _ => ⟨rfl, rfl⟩, fun ad h => by cases h⟩

theorem cell_block {w : World} {p : Addr} {v : Value} (h : w.cell? p = some v) : p.block < w.heap.size := by
  rcases Nat.lt_or_ge p.block w.heap.size with h' | h'
  · exact h'
  · exfalso
    have e : w.heap[p.block]? = none := by simp [h']
    simp [World.cell?, e] at h

theorem Holds.below {w w' : World} {a : Option Addr} {cap : Nat} {l : List UInt8} (h : Holds w a cap l) (hb : Below w.heap.size w w') : Holds w' a cap l :=
  ⟨h.1, h.2.1, fun ad ha j u hu => by
    have hc := h.2.2 ad ha j u hu
    rw [hb.cell (cell_block hc)]
    exact hc⟩

theorem Holds.cell {w : World} {b o cap : Nat} {l : List UInt8} (h : Holds w (some ⟨b, o, none⟩) cap l) (j : Nat) (hj : j < l.length) : w.cell? ⟨b, o + j, none⟩ = some (.int .u8 (l[j].toNat : Int)) := by
  have := h.2.2 _ rfl j _ (cs_get l j hj)
  simpa [Addr.add_lit] using this

theorem Holds.addr {w : World} {a : Option Addr} {cap : Nat} {l : List UInt8} (h : Holds w a cap l) (hl : 0 < l.length) : ∃ b o, a = some ⟨b, o, none⟩ := by
  cases a with
  | none => have := (h.2.1 rfl).1; subst this; simp at hl
  | some ad =>
    have hc := h.2.2 ad rfl 0 _ (cs_get l 0 hl)
    obtain ⟨b, o, sp⟩ := ad
    have : sp = none := by simpa [Addr.add] using World.cell?_spot hc
    subst this
    exact ⟨b, o, rfl⟩

theorem Holds.drew {w : World} {a : Option Addr} {cap : Nat} {l : List UInt8} (h : Holds w a cap l) : Holds w.drew a cap l := ⟨h.1, h.2.1, fun ad ha j u hu => by simpa using h.2.2 ad ha j u hu⟩
theorem Holds.take {w : World} {a : Option Addr} {cap : Nat} {l : List UInt8} (h : Holds w a cap l) (k : Nat) : Holds w a cap (l.take k) := by
  refine ⟨Nat.le_trans (by simp; omega) h.1, fun ha => ?_, fun ad ha j u hu => h.2.2 ad ha j u ?_⟩
  · obtain ⟨rfl, hc⟩ := h.2.1 ha
    exact ⟨by simp, hc⟩
  · have hj : j < k := by
      have := (List.getElem?_eq_some_iff.1 hu).1
      rw [cs_length, List.length_take] at this; omega
    simp only [cs, List.map_take] at hu
    rw [List.getElem?_take, if_pos hj] at hu
    exact hu

/-- a row of the call's own, of bytes -/
abbrev Own (w : World) (base g n cap : Nat) (l : List UInt8) : Prop := w.ownsRow base 5 1 (.slice (some ⟨g, 0, none⟩) n cap) n (cs l)

theorem Own.len {w : World} {base g n cap : Nat} {l : List UInt8} (h : Own w base g n cap l) : l.length = n := by
  have := h.1; rw [cs_length] at this; omega

theorem Own.parts {w : World} {base g n cap : Nat} {l : List UInt8} (h : Own w base g n cap l) :
    base ≤ g ∧ g < w.heap.size ∧ n ≤ cap ∧ ∀ j u, (cs l)[j]? = some u → w.cell? ⟨g, j, none⟩ = some u := by
  rcases h.2 with ⟨h0, _⟩ | ⟨g', cap', cur, hv, hbg, hg, hnc, hcm, hcs, htake⟩
  · cases h0
  · cases hv
    have hgs : g < w.heap.size := by
      rcases Nat.lt_or_ge g w.heap.size with h' | h'
      · exact h'
      · simp [h'] at hg
    refine ⟨hbg, hgs, hnc, fun j u hu => ?_⟩
    have hj : j < n * 1 := by
      have := (List.getElem?_eq_some_iff.1 hu).1
      rw [cs_length, Own.len h] at this; omega
    rw [← htake, List.getElem?_take, if_pos hj] at hu
    simp [World.cell?, hg]
    simpa using hu

theorem Own.holds {w : World} {base g n cap : Nat} {l : List UInt8} (h : Own w base g n cap l) : Holds w (some ⟨g, 0, none⟩) cap l := by
  obtain ⟨_, _, hnc, hc⟩ := h.parts
  refine ⟨by rw [h.len]; exact hnc, fun h => (by cases h), fun ad ha j u hu => ?_⟩
  cases ha
  simpa [Addr.add_lit] using hc j u hu

/-- a string of bytes -/
abbrev str (l : List UInt8) : Value := .string ⟨l.toArray⟩

/-- []byte to string -/
theorem conv {w : World} {a : Option Addr} {cap : Nat} {l : List UInt8} (h : Holds w a cap l) :
    (convert 96 9 (.slice a l.length cap)).run Tryd.prog w = .ok (str l) w := by
  cases a with
  | none =>
    obtain ⟨rfl, rfl⟩ := h.2.1 rfl
    rw [run_convert_bytes_string w _ _ _ _ _ _ Tryd.underlying96 Tryd.underlying5 Tryd.underlying9]
    simp [Conv.bytesToString]
    rfl
  | some ad =>
    exact run_convert_bytes_back w _ _ _ ad cap l Tryd.underlying96 Tryd.underlying5 Tryd.underlying9 fun j hj => h.2.2 ad rfl j _ (cs_get l j hj)

theorem ret_bool {a b : Bool} (h : a = b) : Ending.returned (.bool a) = .returned (.bool b) := by rw [h]
theorem ret_int {k : IntKind} {a b : Int} (h : a = b) : Ending.returned (.int k a) = .returned (.int k b) := by rw [h]
theorem holds_new (w : World) (l : List UInt8) (A : Array Value) (t : TypeId) (hA : A.toList = cs l) : Holds (w.alloc (.cells A t)) (some ⟨w.heap.size, 0, none⟩) l.length l := by
  refine ⟨Nat.le_refl _, fun h => (by cases h), fun ad had j u hu => ?_⟩
  cases had
  rw [← hA] at hu
  rw [Addr.add_lit, Nat.zero_add]
  simpa using hu

theorem below_alloc (w : World) (o : Obj) : Below w.heap.size w (w.alloc o) := (Below.refl _ _).alloc (Nat.le_refl _) o
/-- one step behind another: what the later one's own start says is more than enough -/
theorem Below.then {w w1 w2 : World} (h1 : Below w.heap.size w w1) (h2 : Below w1.heap.size w1 w2) : Below w.heap.size w w2 := h1.trans (h2.mono h1.size)

theorem own_new (w : World) (l : List UInt8) (A : Array Value) (hA : A.toList = cs l) (hm : l.length ≤ maxLen) : Own (w.alloc (.cells A 5)) w.heap.size w.heap.size l.length l.length l := by
  have hs : A.size = l.length := by rw [← Array.length_toList, hA, cs_length]
  exact ⟨by rw [cs_length]; omega, .inr ⟨w.heap.size, l.length, A, rfl, Nat.le_refl _, heap_alloc_new w _, Nat.le_refl _, hm, by omega, by rw [hA, Nat.mul_one, ← cs_length l]; exact List.take_length⟩⟩

theorem Own.base_le {w : World} {base g n cap : Nat} {l : List UInt8} (h : Own w base g n cap l) : base ≤ w.heap.size := Nat.le_trans h.parts.1 (Nat.le_of_lt h.parts.2.1)

/-- append(row, bytes...) -/
theorem wpList_append_bytes (w : World) {ops : Array Oper} {rest : List Oper} {o : Oper} {a : Act} {Q : Exit → Act → World → Prop} (hgd : o.guard = none) (s x : Operand)
    (ho : o.op = .call { callee := .builtin .append, args := #[s, x], argTypes := #[96, 96] })
    (base g n cap : Nat) (xs l : List UInt8) (ao : Option Addr) (m c : Nat) (hs : a.eval s = .slice (some ⟨g, 0, none⟩) n cap) (hown : Own w base g n cap xs) (hx : a.eval x = .slice ao m c) (hm : l.length = m) (hl : Holds w ao c l)
    (hb : n + m ≤ 140737488355328)
    (h : ∀ g' cap' w', Own w' base g' (n + m) cap' (xs ++ l) → Below base w w' → wpList Tryd.prog ops Q rest (a.put o.dst (.slice (some ⟨g', 0, none⟩) (n + m) cap')) w') : wpList Tryd.prog ops Q (o :: rest) a w := by
  obtain ⟨i0, hi, hz0, hz1, hz2⟩ := info_parts Tryd.infoU8
  subst hm
  cases ao with
  | none =>
    obtain ⟨rfl, rfl⟩ := hl.2.1 rfl
    refine wpList_append_own_none hgd s x 96 ho base 5 i0 1 Tryd.underlying96 hi _ n (cs xs) hs hown hx ?_
    have := h g cap w (by simpa using hown) (Below.refl _ _)
    simpa using this
  | some ad =>
    refine wpList_append_own w hgd s x 96 ho base 5 i0 (.int .u8 0) 1 1 Tryd.underlying96 hi hz0 hz1 hz2 rfl (by decide) _ n (cs xs) hs hown ad l.length c (cs l) hx (by rw [cs_length]; omega) (hl.2.2 ad rfl) (cs_one l) (by unfold maxLen; omega) (by omega) hown.base_le ?_
    intro v' w' ho' hg' hn'
    have hbel : Below base w w' := (Below.refl _ _).grown hg' hown.base_le (fun k hk => by cases hk; exact hown.parts.1)
    rcases ho'.2 with ⟨h0, _⟩ | ⟨g', cap', cur, hv, _⟩
    · have := (hn'.1 h0).1; cases this
    · subst hv
      exact h g' cap' w' (by unfold Own; rw [cs_append]; exact ho') hbel

end Go.Proofs.YtcncmpgababfjaaDoor

/-
  Worlds that only grew; flat lists.
-/
namespace Go.Proofs.YtcncmpgababfjaaDoor
open Go.RowKit Go.Sort

/-! worlds that only grew: draws, blocks laid behind -/
def Grew (w w' : World) : Prop := ∃ q os, w' = grow (w.drewN q) os
theorem Grew.refl (w : World) : Grew w w := ⟨0, #[], by rw [grow_empty]; rfl⟩
theorem Grew.trans {a b c : World} (h : Grew a b) (k : Grew b c) : Grew a c := by
  obtain ⟨q, os, rfl⟩ := h; obtain ⟨q', os', rfl⟩ := k
  refine ⟨q + q', os ++ os', ?_⟩
  show grow (grow ((a.drewN q).drewN q') os) os' = _
  rw [grow_grow, World.drewN_drewN]
theorem Grew.alloc (w : World) (o : Obj) : Grew w (w.alloc o) := ⟨0, #[o], by rw [alloc_eq_grow]; rfl⟩
theorem Grew.drew (w : World) : Grew w w.drew := ⟨1, #[], by rw [grow_empty]; rfl⟩
theorem Grew.drewN (w : World) (q : Nat) : Grew w (w.drewN q) := ⟨q, #[], by rw [grow_empty]⟩
theorem Grew.grow (w : World) (q : Nat) (os : Array Obj) : Grew w (grow (w.drewN q) os) := ⟨q, os, rfl⟩
theorem Grew.below {w w' : World} (h : Grew w w') : Below w.heap.size w w' := by
  obtain ⟨q, os, rfl⟩ := h
  exact ⟨rfl, rfl, rfl, by simp [Sort.grow], fun k hk => by rw [heap_grow_old _ _ (show k < (w.drewN q).heap.size from hk)]; rfl⟩
theorem Grew.allocs {w w' : World} (h : Grew w w') (o : Obj) : Grew w (w'.alloc o) := h.trans (Grew.alloc _ _)

/-! flat lists -/
theorem flat_len {α β : Type} (f : α → List β) (k : Nat) (hk : ∀ x, (f x).length = k) : ∀ l : List α, (l.flatMap f).length = l.length * k
  | [] => by simp
  | x :: l => by rw [List.flatMap_cons, List.length_append, hk, flat_len f k hk l, List.length_cons, Nat.succ_mul]; omega
theorem flat_get {α β : Type} (f : α → List β) (k : Nat) (hk : ∀ x, (f x).length = k) : ∀ (l : List α) (i c : Nat) (hi : i < l.length), c < k → (l.flatMap f)[i * k + c]? = (f l[i])[c]?
  | x :: l, 0, c, _, hc => by rw [List.flatMap_cons, Nat.zero_mul, Nat.zero_add, List.getElem?_append_left (by rw [hk]; exact hc)]; rfl
  | x :: l, i + 1, c, hi, hc => by
    rw [List.flatMap_cons, List.getElem?_append_right (by rw [hk, Nat.succ_mul]; omega), hk, show (i + 1) * k + c - k = i * k + c by rw [Nat.succ_mul]; omega]
    exact flat_get f k hk l i c (by simpa using hi) hc

theorem hideP {p : Prop} (h : p) : Hid p := h
theorem str_size (l : List UInt8) : (⟨l.toArray⟩ : ByteArray).size = l.length := by simp [ByteArray.size]
end Go.Proofs.YtcncmpgababfjaaDoor

/-
  Rows of records of any kind in memory; blocks that are known whole, what a store makes of them; worlds in which of what was there only one block turned.
-/
namespace Go.Proofs.YtcncmpgababfjaaDoor
open Go.RowKit Go.Sort

/-! of what was there only block h turned -/
structure But (h : Nat) (w w' : World) : Prop where
  os : w'.os = w.os
  tape : w'.tape = w.tape
  output : w'.output = w.output
  size : w.heap.size ≤ w'.heap.size
  block : ∀ k, k < w.heap.size → k ≠ h → w'.heap[k]? = w.heap[k]?
theorem But.refl (h : Nat) (w : World) : But h w w := ⟨rfl, rfl, rfl, Nat.le_refl _, fun _ _ _ => rfl⟩
theorem But.trans {h : Nat} {a b c : World} (x : But h a b) (y : But h b c) : But h a c :=
  ⟨y.os.trans x.os, y.tape.trans x.tape, y.output.trans x.output, Nat.le_trans x.size y.size, fun k hk hn => (y.block k (Nat.lt_of_lt_of_le hk x.size) hn).trans (x.block k hk hn)⟩
theorem But.of_below {h : Nat} {b c : World} (y : Below b.heap.size b c) : But h b c := ⟨y.os, y.tape, y.output, y.size, fun k hk _ => y.block k hk⟩
theorem But.below {h : Nat} {a b c : World} (x : But h a b) (y : Below b.heap.size b c) : But h a c := x.trans (But.of_below y)
theorem But.set {h : Nat} {a b : World} (x : But h a b) (o : Nat) (v : Value) : But h a (b.setCell ⟨h, o, none⟩ v) :=
  x.trans (by
    have s : Below 0 b (b.setCell ⟨h, o, none⟩ v) := (Below.refl 0 b).setCell (p := ⟨h, o, none⟩) (Nat.zero_le _) v
    exact ⟨s.os, s.tape, s.output, s.size, fun k _ hn => Below.heap_setCell b ⟨h, o, none⟩ v k hn⟩)
theorem But.cells {h : Nat} {a : World} : ∀ (V : List Value) (o : Nat) (b : World), But h a b → But h a (b.setCells h o V)
  | [], _, _, x => x
  | v :: r, o, b, x => by rw [World.setCells]; exact But.cells r (o + 1) _ (x.set o v)
theorem But.lower {h B : Nat} {w w' : World} (x : But h w w') (hB : B ≤ h) (hw : B ≤ w.heap.size) : Below B w w' :=
  ⟨x.os, x.tape, x.output, x.size, fun k hk => x.block k (Nat.lt_of_lt_of_le hk hw) (by omega)⟩
/-- what turned was made by the call itself -/
theorem But.fresh {h g : Nat} {a b c : World} (x : But h a b) (y : But g b c) (hg : a.heap.size ≤ g) : But h a c :=
  ⟨y.os.trans x.os, y.tape.trans x.tape, y.output.trans x.output, Nat.le_trans x.size y.size, fun k hk hn => (y.block k (Nat.lt_of_lt_of_le hk x.size) (by omega)).trans (x.block k hk hn)⟩
theorem But.of_lower {h : Nat} {w w' : World} {B : Nat} (x : Below B w w') (hB : w.heap.size ≤ B) : But h w w' := ⟨x.os, x.tape, x.output, x.size, fun k hk _ => x.block k (Nat.lt_of_lt_of_le hk hB)⟩
theorem But.heap {h : Nat} {w w' : World} (x : But h w w') {k : Nat} {o : Obj} (hn : k ≠ h) (hk : w.heap[k]? = some o) : w'.heap[k]? = some o := by
  rw [x.block k (by rcases Nat.lt_or_ge k w.heap.size with h' | h'
                    · exact h'
                    · simp [h'] at hk) hn]; exact hk
theorem But.holds {h : Nat} {w w' : World} (x : But h w w') {a : Option Addr} {c : Nat} {l : List UInt8} (hl : Holds w a c l) (hne : ∀ ad, a = some ad → ad.block ≠ h) : Holds w' a c l :=
  ⟨hl.1, hl.2.1, fun ad ha j u hu => by
    have hc := hl.2.2 ad ha j u hu
    have hb : (ad.add j).block = ad.block := by unfold Addr.add; split <;> rfl
    rw [World.cell?_of_block (w := w) (x.block _ (cell_block hc) (by rw [hb]; exact hne ad ha))]
    exact hc⟩
theorem heap_lt {w : World} {b : Nat} {o : Obj} (h : w.heap[b]? = some o) : b < w.heap.size := by
  rcases Nat.lt_or_ge b w.heap.size with h' | h'
  · exact h'
  · simp [h'] at h
theorem below_heap {w w' : World} {b : Nat} {o : Obj} (hb : Below w.heap.size w w') (h : w.heap[b]? = some o) : w'.heap[b]? = some o := (hb.block b (heap_lt h)).trans h
theorem heap_cell {w : World} {b : Nat} {c : Array Value} {t : TypeId} (h : w.heap[b]? = some (.cells c t)) (j : Nat) : w.cell? ⟨b, j, none⟩ = c[j]? := by simp [World.cell?, h]
theorem heap_frozen {w : World} {b : Nat} {c : Array Value} {t : TypeId} (h : w.heap[b]? = some (.cells c t)) (j : Nat) : w.frozen? ⟨b, j, none⟩ = false := by simp [World.frozen?, h]

/-! blocks that are known whole -/
def splice : Array Value → Nat → List Value → Array Value
  | C, _, [] => C
  | C, o, v :: r => splice (C.setIfInBounds o v) (o + 1) r
theorem heap_setCells (V : Nat) (T : TypeId) : ∀ (vs : List Value) (o : Nat) (C : Array Value) (w : World), w.heap[V]? = some (.cells C T) → (w.setCells V o vs).heap[V]? = some (.cells (splice C o vs) T)
  | [], _, _, _, h => h
  | v :: r, o, C, w, h => by rw [World.setCells, splice]; exact heap_setCells V T r (o + 1) _ _ (heap_setCell_same w V o C T v h)
theorem there_block {w : World} {V : Nat} {C : Array Value} {T : TypeId} (h : w.heap[V]? = some (.cells C T)) (o n : Nat) (hn : o + n ≤ C.size) : w.there V o n := fun j hj => by
  rw [heap_cell h, heap_frozen h, Array.getElem?_eq_getElem (show o + j < C.size by omega)]; exact ⟨rfl, rfl⟩

/-- a record stored into a block that is known whole -/
theorem wpList_store_blk {P : Program} {ops : Array Oper} {rest : List Oper} {op : Oper} {a : Act} {w : World} {Q : Exit → Act → World → Prop} (hgd : op.guard = none) (ty : TypeId) (x y : Operand) (ho : op.op = .store ty x y)
    (V o : Nat) (C : Array Value) (T : TypeId) (vs : List Value) (C' : Array Value) (hx : a.eval x = .pointer (some ⟨V, o, none⟩)) (hy : a.eval y = .agg vs.toArray) (hH : w.heap[V]? = some (.cells C T))
    (hin : o + vs.length ≤ C.size) (hi : (P.info? ty).map (·.size) = some vs.length) (h1 : vs.all (·.oneCell') = true) (hC : splice C o vs = C')
    (h : ∀ w', w'.heap[V]? = some (.cells C' T) → But V w w' → wpList P ops Q rest (a.put op.dst undef) w') : wpList P ops Q (op :: rest) a w :=
  wpList_store_mid hgd ty x y ho V o vs.toArray hx hy (by simpa using there_block hH o vs.length hin) (by simpa using hi) (by simpa using h1)
    (h _ (by rw [← hC]; exact heap_setCells V T vs o C w hH) (But.cells _ _ _ (But.refl V w)))
theorem splice_list : ∀ (vs a b : List Value), b.length = vs.length → splice (a ++ b).toArray a.length vs = (a ++ vs).toArray
  | [], a, b, h => by
    have : b = [] := List.eq_nil_of_length_eq_zero h
    subst this; rfl
  | v :: r, a, [], h => by simp at h
  | v :: r, a, u :: b, h => by
    rw [splice]
    have e : (a ++ u :: b).toArray.setIfInBounds a.length v = ((a ++ [v]) ++ b).toArray := by
      rw [List.setIfInBounds_toArray]; congr 1
      rw [List.set_append_right _ _ (Nat.le_refl _)]; simp
    rw [e, show a.length + 1 = (a ++ [v]).length by simp, splice_list r (a ++ [v]) b (by simpa using h)]
    simp
theorem splice_all (C : Array Value) (vs : List Value) (h : C.size = vs.length) : splice C 0 vs = vs.toArray := by
  have := splice_list vs [] C.toList (by simpa using h)
  simpa using this
/-- a whole block stored anew -/
theorem wpList_store_all {P : Program} {ops : Array Oper} {rest : List Oper} {op : Oper} {a : Act} {w : World} {Q : Exit → Act → World → Prop} (hgd : op.guard = none) (ty : TypeId) (x y : Operand) (ho : op.op = .store ty x y)
    (V n : Nat) (C : Array Value) (T : TypeId) (vs : List Value) (hx : a.eval x = .pointer (some ⟨V, 0, none⟩)) (hy : a.eval y = .agg vs.toArray) (hH : w.heap[V]? = some (.cells C T))
    (hin : C.size = n) (hn : vs.length = n) (hi : (P.info? ty).map (·.size) = some n) (h1 : vs.all (·.oneCell') = true)
    (h : ∀ w', w'.heap[V]? = some (.cells vs.toArray T) → But V w w' → wpList P ops Q rest (a.put op.dst undef) w') : wpList P ops Q (op :: rest) a w :=
  wpList_store_blk hgd ty x y ho V 0 C T vs vs.toArray hx hy hH (by omega) (by rw [hi, hn]) h1 (splice_all C vs (by omega)) h
/-- a whole block read -/
theorem wpList_load_all {P : Program} {ops : Array Oper} {rest : List Oper} {op : Oper} {a : Act} {w : World} {Q : Exit → Act → World → Prop} (hgd : op.guard = none) (ty : TypeId) (x : Operand) (ho : op.op = .load ty x)
    (V n : Nat) (T : TypeId) (vs : List Value) (d : TypeDesc) (hx : a.eval x = .pointer (some ⟨V, 0, none⟩)) (hH : w.heap[V]? = some (.cells vs.toArray T)) (hn : vs.length = n)
    (hu : P.underlying ty = some d) (hd : d.isRow = true) (hi : (P.info? ty).map (·.size) = some n)
    (h : wpList P ops Q rest (a.put op.dst (.agg vs.toArray)) w) : wpList P ops Q (op :: rest) a w :=
  wpList_load_mid hgd ty x ho V 0 hx vs d (by have := World.rangeAt_of_block hH 0 vs.length; simpa using this) hu hd (by rw [hi, hn]) h
/-- one cell stored into a block that is known whole -/
theorem wpList_store_cel {P : Program} {ops : Array Oper} {rest : List Oper} {op : Oper} {a : Act} {w : World} {Q : Exit → Act → World → Prop} (hgd : op.guard = none) (ty : TypeId) (x y : Operand) (ho : op.op = .store ty x y)
    (V o n : Nat) (T : TypeId) (v : Value) (C' : Array Value) {C : Array Value} (hx : a.eval x = .pointer (some ⟨V, o, none⟩)) (hy : a.eval y = v) (hH : w.heap[V]? = some (.cells C T))
    (hsz : C.size = n) (hin : o < n) (hi : (P.info? ty).map (·.size) = some 1) (h1 : v.oneCell' = true) (hC : C.setIfInBounds o v = C')
    (h : ∀ w', w'.heap[V]? = some (.cells C' T) → But V w w' → wpList P ops Q rest (a.put op.dst undef) w') : wpList P ops Q (op :: rest) a w :=
  wpList_plain hgd fun _ hK => by
    have hc : v.cells = #[v] := by cases v <;> first | rfl | cases h1
    have ht := there_block hH o 1 (by omega)
    have hst : (storeVar ty ⟨V, o, none⟩ v).run P w = .ok () (w.setCells V o [v]) := by
      have := run_storeCells_cells (P := P) V o [v] 0 w (fun j hj => by simpa using (ht j (by simpa using hj)).1) (fun j hj => by simpa using (ht j (by simpa using hj)).2) (fun u hu => by simp at hu; subst hu; exact h1)
      cases hq : P.info? ty with
      | none => simp [hq] at hi
      | some i =>
        have hs : i.size = 1 := by simpa [hq] using hi
        simpa [storeVar, sizeOf, typeInfo, hq, hc, hs] using this
    unfold Oper.wp execOp
    simp only [ho, hx, hy, Instr.storeAt, Instr.sureAddr, Sem.run_bind, Sem.run_pure, Result.andThen_ok, hst]
    exact hK _ _ (h _ (by rw [← hC]; exact heap_setCells V T [v] o C w hH) (But.cells _ _ _ (But.refl V w)))
/-- a record stored into a block that is known whole, its size said -/
theorem wpList_store_rec {P : Program} {ops : Array Oper} {rest : List Oper} {op : Oper} {a : Act} {w : World} {Q : Exit → Act → World → Prop} (hgd : op.guard = none) (ty : TypeId) (x y : Operand) (ho : op.op = .store ty x y)
    (V o n m : Nat) (T : TypeId) (vs : List Value) (C' : Array Value) {C : Array Value} (hx : a.eval x = .pointer (some ⟨V, o, none⟩)) (hy : a.eval y = .agg vs.toArray) (hH : w.heap[V]? = some (.cells C T))
    (hsz : C.size = n) (hm : vs.length = m) (hin : o + m ≤ n) (hi : (P.info? ty).map (·.size) = some m) (h1 : vs.all (·.oneCell') = true) (hC : splice C o vs = C')
    (h : ∀ w', w'.heap[V]? = some (.cells C' T) → But V w w' → wpList P ops Q rest (a.put op.dst undef) w') : wpList P ops Q (op :: rest) a w :=
  wpList_store_blk hgd ty x y ho V o C T vs C' hx hy hH (by omega) (by rw [hi, hm]) h1 hC h
/-- a record read out of a block that is known whole -/
theorem wpList_load_blk {P : Program} {ops : Array Oper} {rest : List Oper} {op : Oper} {a : Act} {w : World} {Q : Exit → Act → World → Prop} (hgd : op.guard = none) (ty : TypeId) (x : Operand) (ho : op.op = .load ty x)
    (V o : Nat) (C : Array Value) (T : TypeId) (vs : List Value) (d : TypeDesc) (hx : a.eval x = .pointer (some ⟨V, o, none⟩)) (hH : w.heap[V]? = some (.cells C T)) (hC : (C.extract o (o + vs.length)).toList = vs)
    (hu : P.underlying ty = some d) (hd : d.isRow = true) (hi : (P.info? ty).map (·.size) = some vs.length)
    (h : wpList P ops Q rest (a.put op.dst (.agg vs.toArray)) w) : wpList P ops Q (op :: rest) a w :=
  wpList_load_mid hgd ty x ho V o hx vs d (by have := World.rangeAt_of_block hH o vs.length; rwa [hC] at this) hu hd hi h
theorem results_cell {P : Program} {fn : Func} {p : Tmp} {ty : TypeId} {tmps : Array Value} {w : World} {b : Nat} {C : Array Value} {d : TypeDesc} {T : TypeId} (h : fn.results = #[.cell p ty]) (hp : tmps.getD p undef = .pointer (some ⟨b, 0, none⟩)) (hc : w.heap[b]? = some (.cells C T))
    (hu : P.underlying ty = some d) (hd : d.isRow = true) (hi : (P.info? ty).map (·.size) = some C.size) : (results fn tmps).run P w = .ok (.agg C) w := by
  have hr : w.rangeAt b 0 C.toList := by
    have := World.rangeAt_of_block hc 0 C.size
    simpa using this
  simp only [Array.getD_eq_getD_getElem?] at hp
  simp only [results, h]
  simp [asAddr, hp, run_loadVar_mid w b 0 ty C.toList d hr hu hd (by simpa using hi)]

/-! kinds of records -/
structure Kd (α : Type) where
  enc : α → List Value
  k : Nat
  len : ∀ x, (enc x).length = k
  one : ∀ x, (enc x).all (·.oneCell') = true
  pos : 0 < k

/-- A SLICE OF RECORDS in the world w: its own cells alone -/
structure Row {α : Type} (D : Kd α) (w : World) (a : Option Addr) (cap : Nat) (xs : List α) : Prop where
  room : xs.length ≤ cap
  few : xs.length ≤ 4398046510976
  void : a = none → xs = [] ∧ cap = 0
  cells : ∀ ad, a = some ad → ∀ j u, (xs.flatMap D.enc)[j]? = some u → w.cell? (ad.add j) = some u
theorem Row.nil {α : Type} (D : Kd α) (w : World) : Row D w none 0 [] := ⟨Nat.le_refl _, by simp, fun _ => ⟨rfl, rfl⟩, fun _ h => by cases h⟩
theorem Row.below {α : Type} {D : Kd α} {w w' : World} {a : Option Addr} {cap : Nat} {xs : List α} {B : Nat} (h : Row D w a cap xs) (hb : Below B w w') (hB : w.heap.size ≤ B) : Row D w' a cap xs :=
  ⟨h.room, h.few, h.void, fun ad ha j u hu => by
    have hc := h.cells ad ha j u hu
    rw [hb.cell (Nat.lt_of_lt_of_le (cell_block hc) hB)]
    exact hc⟩
theorem Row.flat_one {α : Type} (D : Kd α) (xs : List α) : ∀ u ∈ xs.flatMap D.enc, u.oneCell' = true := by
  intro u hu
  obtain ⟨x, _, hx⟩ := List.mem_flatMap.1 hu
  exact List.all_eq_true.1 (D.one x) u hx
theorem Row.addr {α : Type} {D : Kd α} {w : World} {a : Option Addr} {cap : Nat} {xs : List α} (h : Row D w a cap xs) (hl : 0 < xs.length) : ∃ b o, a = some ⟨b, o, none⟩ := by
  cases a with
  | none => have := (h.void rfl).1; subst this; simp at hl
  | some ad =>
    have hj : 0 < (xs.flatMap D.enc).length := by rw [flat_len D.enc D.k D.len]; exact Nat.mul_pos hl D.pos
    have hc := h.cells ad rfl 0 _ (List.getElem?_eq_getElem hj)
    obtain ⟨b, o, sp⟩ := ad
    have : sp = none := by simpa [Addr.add] using World.cell?_spot hc
    subst this
    exact ⟨b, o, rfl⟩
/-- the cells of one record -/
theorem Row.range {α : Type} {D : Kd α} {w : World} {b o cap : Nat} {xs : List α} (h : Row D w (some ⟨b, o, none⟩) cap xs) (i : Nat) (hi : i < xs.length) : w.rangeAt b (o + i * D.k) (D.enc xs[i]) := fun c v hv => by
  have hc : c < D.k := by have := (List.getElem?_eq_some_iff.1 hv).1; rwa [D.len] at this
  have := h.cells _ rfl (i * D.k + c) v (by rw [flat_get D.enc D.k D.len xs i c hi hc, hv])
  rw [Addr.add_lit] at this
  rw [← this, Nat.add_assoc]
theorem Row.lt {α : Type} {D : Kd α} {w : World} {b o cap : Nat} {xs : List α} (h : Row D w (some ⟨b, o, none⟩) cap xs) (hl : 0 < xs.length) : b < w.heap.size := by
  have hj : 0 < (D.enc xs[0]).length := by rw [D.len]; exact D.pos
  exact cell_block (p := ⟨b, o + 0 * D.k + 0, none⟩) (h.range 0 hl 0 _ (List.getElem?_eq_getElem hj))

/-- it lies in a block of that type -/
def Tag (ty : TypeId) (w : World) (a : Option Addr) : Prop := ∀ ad, a = some ad → ∃ cur : Array Value, w.heap[ad.block]? = some (.cells cur ty)
/-- blocks of that type are as they were -/
def Safe (ty : TypeId) (w w' : World) : Prop := ∀ (k : Nat) (cur : Array Value), w.heap[k]? = some (.cells cur ty) → w'.heap[k]? = some (.cells cur ty)
theorem Safe.refl (ty : TypeId) (w : World) : Safe ty w w := fun _ _ h => h
theorem Safe.trans {ty : TypeId} {a b c : World} (x : Safe ty a b) (y : Safe ty b c) : Safe ty a c := fun k cur h => y k cur (x k cur h)
theorem Safe.below {ty : TypeId} {w w' : World} (h : Below w.heap.size w w') : Safe ty w w' := fun _ _ hk => below_heap h hk
theorem Safe.but {ty ty' : TypeId} {w w' : World} {R : Nat} {C : Array Value} (h : But R w w') (hR : w.heap[R]? = some (.cells C ty')) (hn : ty ≠ ty') : Safe ty w w' := fun k cur hk => by
  refine h.heap (fun e => ?_) hk
  subst e; rw [hR] at hk; cases hk; exact hn rfl
theorem Safe.fresh {ty : TypeId} {w w' : World} {R : Nat} (h : But R w w') (hR : w.heap.size ≤ R) : Safe ty w w' := fun k cur hk => h.heap (by have := heap_lt hk; omega) hk
theorem Safe.grown {ty ty' : TypeId} {w w' : World} {base k n : Nat} {v : Value} {xs : List Value} (hown : w.ownsRow base ty' k v n xs) (hg : w.grownBy w' v.ownBlock) (hn : ty ≠ ty') : Safe ty w w' := fun j cur hj => by
  rw [hg.block j (heap_lt hj) (fun e => ?_)]
  · exact hj
  · rcases hown.2 with ⟨h0, _⟩ | ⟨g, cap, cur', hv, _, hh, _⟩
    · rw [h0] at e; cases e
    · rw [hv] at e
      have e' : j = g := by cases e; rfl
      rw [e', hh] at hj
      cases hj; exact hn rfl

/-- a row of records in a block of its type -/
structure RowT {α : Type} (D : Kd α) (ty : TypeId) (w : World) (a : Option Addr) (cap : Nat) (xs : List α) : Prop where
  row : Row D w a cap xs
  tag : Tag ty w a
theorem RowT.nil {α : Type} (D : Kd α) (ty : TypeId) (w : World) : RowT D ty w none 0 [] := ⟨Row.nil D w, fun _ h => by cases h⟩
theorem addr_add_block (a : Addr) (n : Nat) : (a.add n).block = a.block := by unfold Addr.add; split <;> rfl
theorem RowT.safe {α : Type} {D : Kd α} {ty : TypeId} {w w' : World} {a : Option Addr} {cap : Nat} {xs : List α} (h : RowT D ty w a cap xs) (s : Safe ty w w') : RowT D ty w' a cap xs :=
  ⟨⟨h.row.room, h.row.few, h.row.void, fun ad ha j u hu => by
      obtain ⟨cur, hc⟩ := h.tag ad ha
      rw [← h.row.cells ad ha j u hu]
      exact World.cell?_of_block (w := w) (by rw [addr_add_block, s _ _ hc, hc])⟩, fun ad ha => by
    obtain ⟨cur, hc⟩ := h.tag ad ha
    exact ⟨cur, s _ _ hc⟩⟩
theorem ownsRow_keep {w w' : World} {base : Nat} {e : TypeId} {size : Nat} {v : Value} {n : Nat} {xs : List Value} (h : w.ownsRow base e size v n xs) (hs : Safe e w w') : w'.ownsRow base e size v n xs := by
  obtain ⟨h1, h2⟩ := h
  refine ⟨h1, ?_⟩
  rcases h2 with h2 | ⟨g, cap, cur, hv, hg, hh, r⟩
  · exact .inl h2
  · exact .inr ⟨g, cap, cur, hv, hg, hs g cur hh, r⟩
theorem own_row {α : Type} {D : Kd α} {ty : TypeId} {w : World} {base : Nat} {v : Value} {n : Nat} {xs : List α} (h : w.ownsRow base ty D.k v n (xs.flatMap D.enc)) (hf : xs.length ≤ 4398046510976) :
    ∃ a c, v = .slice a xs.length c ∧ RowT D ty w a c xs ∧ ∀ ad, a = some ad → base ≤ ad.block := by
  have hn : xs.length = n := by
    have := h.1
    rw [flat_len D.enc D.k D.len] at this
    exact Nat.eq_of_mul_eq_mul_right D.pos this
  subst hn
  rcases h.2 with ⟨hv, h0⟩ | ⟨g, cap, cur, hv, hb, hg, hnc, hcm, hcs, ht⟩
  · have : xs = [] := List.eq_nil_of_length_eq_zero h0
    subst this
    exact ⟨none, 0, hv, RowT.nil D ty w, fun _ h => by cases h⟩
  · refine ⟨some ⟨g, 0, none⟩, cap, hv, ⟨⟨hnc, hf, (fun h => by cases h), fun ad ha j u hu => ?_⟩, fun ad ha => by cases ha; exact ⟨cur, hg⟩⟩, (fun ad ha => by cases ha; exact hb)⟩
    cases ha
    have hj : j < xs.length * D.k := by have := (List.getElem?_eq_some_iff.1 hu).1; rwa [flat_len D.enc D.k D.len] at this
    rw [← ht, List.getElem?_take, if_pos hj] at hu
    rw [Addr.add_lit, Nat.zero_add]
    simp only [World.cell?, hg]
    simpa using hu
theorem row_new {α : Type} (D : Kd α) (w : World) (c : Array Value) (t : TypeId) (x : α) (h : c.toList = D.enc x) : Row D (w.alloc (.cells c t)) (some ⟨w.heap.size, 0, none⟩) 1 [x] :=
  ⟨by simp, by simp, (fun h => by cases h), fun ad ha j u hu => by
    cases ha
    rw [Addr.add_lit, heap_cell (heap_alloc_new w _), Nat.zero_add, ← Array.getElem?_toList, h]
    simpa using hu⟩

/-- append(row, records...) -/
theorem wpList_append_rec {α : Type} {P : Program} (D : Kd α) (w : World) {ops : Array Oper} {rest : List Oper} {o : Oper} {a : Act} {Q : Exit → Act → World → Prop} (hgd : o.guard = none) (s x : Operand) (t e : TypeId)
    (ho : o.op = .call { callee := .builtin .append, args := #[s, x], argTypes := #[t, t] }) (z : Value) (bytes : Nat) (ht : P.underlying t = some (.slice e)) (hinfo : (P.info? e).map (fun i => (i.zero, i.size, i.bytes)) = some (some z, D.k, bytes)) (hzs : z.cells.size = D.k) (hby : bytes ≤ 160)
    (base : Nat) (v : Value) (ys xs : List α) (ao : Option Addr) (m c : Nat) (hs : a.eval s = v) (hown : w.ownsRow base e D.k v ys.length (ys.flatMap D.enc)) (hx : a.eval x = .slice ao m c) (hm : xs.length = m) (hl : Row D w ao c xs) (hbase : base ≤ w.heap.size)
    (hfew : ys.length + xs.length ≤ 879609302220)
    (h : ∀ v' w', w'.ownsRow base e D.k v' (ys ++ xs).length ((ys ++ xs).flatMap D.enc) → w.grownBy w' v.ownBlock → wpList P ops Q rest (a.put o.dst v') w') : wpList P ops Q (o :: rest) a w := by
  obtain ⟨i0, hi, hz0, hz1, hz2⟩ := info_parts hinfo
  subst hm
  cases ao with
  | none =>
    obtain ⟨rfl, rfl⟩ := hl.void rfl
    refine wpList_append_own_none hgd s x t ho base e i0 D.k ht hi _ ys.length _ hs hown hx ?_
    rw [hs] at *
    exact h v w (by simpa using hown) ⟨rfl, rfl, rfl, Nat.le_refl _, fun _ _ _ => rfl⟩
  | some ad =>
    refine wpList_append_own w hgd s x t ho base e i0 z D.k bytes ht hi hz0 hz1 hz2 hzs D.pos _ ys.length _ hs hown ad xs.length c (xs.flatMap D.enc) hx (flat_len D.enc D.k D.len xs) (hl.cells ad rfl) (Row.flat_one D xs) (by unfold maxLen; omega) ?_ hbase ?_
    · refine Nat.le_trans (Nat.mul_le_mul hfew hby) (by decide)
    intro v' w' ho' hg' hn'
    exact h v' w' (by rw [List.length_append, List.flatMap_append]; exact ho') hg'
/-- the block just made was stored into -/
theorem below_tok {w w' : World} {o : Obj} (b : But w.heap.size (w.alloc o) w') : Below w.heap.size w w' := (below_alloc w o).trans (b.lower (Nat.le_refl _) (below_alloc w o).size)

end Go.Proofs.YtcncmpgababfjaaDoor

/-
  Terms, literals and rules in memory.
-/
namespace Go.Proofs.YtcncmpgababfjaaDoor
open Go.RowKit

def tv (t : Tm) : List Value := [str t.v, .bool t.k.num, .int .i64 t.k.n, str t.k.s]
abbrev tval (t : Tm) : Value := .agg #[str t.v, .bool t.k.num, .int .i64 t.k.n, str t.k.s]
def tK : Kd Tm := ⟨tv, 4, fun _ => rfl, fun _ => rfl, by decide⟩
/-- a literal, a rule in memory -/
structure Lv where
  by_ : Tm
  pred : List UInt8
  a : Option Addr
  cap : Nat
  args : List Tm
  at_ : Tm
def Lv.l (x : Lv) : Lt := ⟨x.by_, x.pred, x.args, x.at_⟩
def lv (x : Lv) : List Value := [str x.by_.v, .bool x.by_.k.num, .int .i64 x.by_.k.n, str x.by_.k.s, str x.pred, .slice x.a x.args.length x.cap, str x.at_.v, .bool x.at_.k.num, .int .i64 x.at_.k.n, str x.at_.k.s]
abbrev lval (x : Lv) : Value := .agg #[str x.by_.v, .bool x.by_.k.num, .int .i64 x.by_.k.n, str x.by_.k.s, str x.pred, .slice x.a x.args.length x.cap, str x.at_.v, .bool x.at_.k.num, .int .i64 x.at_.k.n, str x.at_.k.s]
def lK : Kd Lv := ⟨lv, 10, fun _ => rfl, fun _ => rfl, by decide⟩
structure Rv where
  home : Tm
  pred : List UInt8
  a : Option Addr
  cap : Nat
  args : List Tm
  to_ : Tm
  ba : Option Addr
  bcap : Nat
  body : List Lv
def Rv.r (x : Rv) : Ru := ⟨x.home, x.pred, x.args, x.to_, x.body.map Lv.l⟩
def rv (x : Rv) : List Value := [str x.home.v, .bool x.home.k.num, .int .i64 x.home.k.n, str x.home.k.s, str x.pred, .slice x.a x.args.length x.cap, str x.to_.v, .bool x.to_.k.num, .int .i64 x.to_.k.n, str x.to_.k.s, .slice x.ba x.body.length x.bcap]
abbrev rval (x : Rv) : Value := .agg #[str x.home.v, .bool x.home.k.num, .int .i64 x.home.k.n, str x.home.k.s, str x.pred, .slice x.a x.args.length x.cap, str x.to_.v, .bool x.to_.k.num, .int .i64 x.to_.k.n, str x.to_.k.s, .slice x.ba x.body.length x.bcap]
def rK : Kd Rv := ⟨rv, 11, fun _ => rfl, fun _ => rfl, by decide⟩
/-- a literal whose Args lie in a block of terms; a rule whose Args and Body do so -/
def Lv.At (w : World) (x : Lv) : Prop := RowT tK 25 w x.a x.cap x.args
structure Rv.At (w : World) (x : Rv) : Prop where
  args : RowT tK 25 w x.a x.cap x.args
  body : RowT lK 39 w x.ba x.bcap x.body
  each : ∀ l ∈ x.body, Lv.At w l
theorem Lv.At.safe {w w' : World} {x : Lv} (h : Lv.At w x) (s : Safe 25 w w') : Lv.At w' x := RowT.safe h s
theorem Rv.At.safe {w w' : World} {x : Rv} (h : Rv.At w x) (s : Safe 25 w w') (s' : Safe 39 w w') : Rv.At w' x := ⟨h.args.safe s, h.body.safe s', fun l hl => (h.each l hl).safe s⟩
theorem Rv.At.below {w w' : World} {x : Rv} (h : Rv.At w x) (hb : Below w.heap.size w w') : Rv.At w' x := h.safe (Safe.below hb) (Safe.below hb)

abbrev ptr (p : Nat) : Value := .pointer (some ⟨p, 0, none⟩)
end Go.Proofs.YtcncmpgababfjaaDoor
