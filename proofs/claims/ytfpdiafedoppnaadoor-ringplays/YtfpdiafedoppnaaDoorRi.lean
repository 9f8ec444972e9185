/-
  Rows of records of any kind in memory; blocks that are known whole, what a store makes of them.
-/
import Derived.Deep.MidRow
import Derived.Deep.AppendLies
import Derived.Laws.AppendOwnNone
import Derived.Laws.Cover1
import Derived.WalkSpells
import Derived.Maps.OwnSet
import Derived.DeepKeys4
import Derived.Deep.RegionHeld3
import Derived.Test.YtfpdiafedoppnaaDoorAdd
import Derived.Test.YtfpdiafedoppnaaDoorMm
import Derived.Test.YtfpdiafedoppnaaDoorLentKept
import Derived.Test.YtfpdiafedoppnaaDoorHSum
import Derived.Test.YtfpdiafedoppnaaDoorMText
namespace Go.Proofs.YtfpdiafedoppnaaDoor
open Go.RowKit

theorem But.of_below {h : Nat} {b c : World} (y : Below b.heap.size b c) : But h b c := ⟨y.os, y.tape, y.output, y.size, fun k hk _ => y.block k hk⟩
/-- what turned was made by the call itself -/
theorem But.fresh {h g : Nat} {a b c : World} (x : But h a b) (y : But g b c) (hg : a.heap.size ≤ g) : But h a c :=
  ⟨y.os.trans x.os, y.tape.trans x.tape, y.output.trans x.output, Nat.le_trans x.size y.size, fun k hk hn => (y.block k (Nat.lt_of_lt_of_le hk x.size) (by omega)).trans (x.block k hk hn)⟩
theorem But.heap {h : Nat} {w w' : World} (x : But h w w') {k : Nat} {o : Obj} (hn : k ≠ h) (hk : w.heap[k]? = some o) : w'.heap[k]? = some o := by
  rw [x.block k (by rcases Nat.lt_or_ge k w.heap.size with h' | h'
                    · exact h'
                    · simp [h'] at hk) hn]; exact hk
/-! flat lists -/
theorem flat_len {α β : Type} (f : α → List β) (k : Nat) (hk : ∀ x, (f x).length = k) : ∀ l : List α, (l.flatMap f).length = l.length * k
  | [] => by simp
  | x :: l => by rw [List.flatMap_cons, List.length_append, hk, flat_len f k hk l, List.length_cons, Nat.succ_mul]; omega
theorem flat_get {α β : Type} (f : α → List β) (k : Nat) (hk : ∀ x, (f x).length = k) : ∀ (l : List α) (i c : Nat) (hi : i < l.length), c < k → (l.flatMap f)[i * k + c]? = (f l[i])[c]?
  | x :: l, 0, c, _, hc => by rw [List.flatMap_cons, Nat.zero_mul, Nat.zero_add, List.getElem?_append_left (by rw [hk]; exact hc)]; rfl
  | x :: l, i + 1, c, hi, hc => by
    rw [List.flatMap_cons, List.getElem?_append_right (by rw [hk, Nat.succ_mul]; omega), hk, show (i + 1) * k + c - k = i * k + c by rw [Nat.succ_mul]; omega]
    exact flat_get f k hk l i c (by simpa using hi) hc
/-- each place of a flat list is a place of one element's -/
theorem flat_place {α β : Type} (f : α → List β) (k : Nat) (hk : ∀ x, (f x).length = k) (l : List α) (j : Nat) (u : β) (h : (l.flatMap f)[j]? = some u) : ∃ i c, ∃ hi : i < l.length, c < k ∧ j = i * k + c ∧ (f l[i])[c]? = some u := by
  have hj := (List.getElem?_eq_some_iff.1 h).1
  rw [flat_len f k hk] at hj
  have hk0 : 0 < k := by rcases Nat.eq_zero_or_pos k with rfl | h0; · simp at hj
                         · exact h0
  have hd := Nat.div_add_mod' j k
  have hi : j / k < l.length := Nat.div_lt_of_lt_mul (by rw [Nat.mul_comm]; exact hj)
  refine ⟨j / k, j % k, hi, Nat.mod_lt _ hk0, by omega, ?_⟩
  rw [← flat_get f k hk l (j / k) (j % k) hi (Nat.mod_lt _ hk0), hd, h]

theorem heap_lt {w : World} {b : Nat} {o : Obj} (h : w.heap[b]? = some o) : b < w.heap.size := by
  rcases Nat.lt_or_ge b w.heap.size with h' | h'
  · exact h'
  · simp [h'] at h
theorem below_heap {w w' : World} {b : Nat} {o : Obj} (hb : Below w.heap.size w w') (h : w.heap[b]? = some o) : w'.heap[b]? = some o := (hb.block b (heap_lt h)).trans h
theorem heap_cell {w : World} {b : Nat} {c : Array Value} {t : TypeId} (h : w.heap[b]? = some (.cells c t)) (j : Nat) : w.cell? ⟨b, j, none⟩ = c[j]? := by simp [World.cell?, h]
theorem heap_frozen {w : World} {b : Nat} {c : Array Value} {t : TypeId} (h : w.heap[b]? = some (.cells c t)) (j : Nat) : w.frozen? ⟨b, j, none⟩ = false := by simp [World.frozen?, h]

/-! blocks that are known whole -/
def splice : Array Value → Nat → List Value → Array Value
  | C, _, [] => C
  | C, o, v :: r => splice (C.setIfInBounds o v) (o + 1) r
theorem heap_setCells (V : Nat) (T : TypeId) : ∀ (vs : List Value) (o : Nat) (C : Array Value) (w : World), w.heap[V]? = some (.cells C T) → (w.setCells V o vs).heap[V]? = some (.cells (splice C o vs) T)
  | [], _, _, _, h => h
  | v :: r, o, C, w, h => by rw [World.setCells, splice]; exact heap_setCells V T r (o + 1) _ _ (heap_setCell_same w V o C T v h)
theorem there_block {w : World} {V : Nat} {C : Array Value} {T : TypeId} (h : w.heap[V]? = some (.cells C T)) (o n : Nat) (hn : o + n ≤ C.size) : w.there V o n := fun j hj => by
  rw [heap_cell h, heap_frozen h, Array.getElem?_eq_getElem (show o + j < C.size by omega)]; exact ⟨rfl, rfl⟩

/-- a record stored into a block that is known whole -/
theorem wpList_store_blk {P : Program} {ops : Array Oper} {rest : List Oper} {op : Oper} {a : Act} {w : World} {Q : Exit → Act → World → Prop} (hgd : op.guard = none) (ty : TypeId) (x y : Operand) (ho : op.op = .store ty x y)
    (V o : Nat) (C : Array Value) (T : TypeId) (vs : List Value) (C' : Array Value) (hx : a.eval x = .pointer (some ⟨V, o, none⟩)) (hy : a.eval y = .agg vs.toArray) (hH : w.heap[V]? = some (.cells C T))
    (hin : o + vs.length ≤ C.size) (hi : (P.info? ty).map (·.size) = some vs.length) (h1 : vs.all (·.oneCell') = true) (hC : splice C o vs = C')
    (h : ∀ w', w'.heap[V]? = some (.cells C' T) → But V w w' → wpList P ops Q rest (a.put op.dst undef) w') : wpList P ops Q (op :: rest) a w :=
  wpList_store_mid hgd ty x y ho V o vs.toArray hx hy (by simpa using there_block hH o vs.length hin) (by simpa using hi) (by simpa using h1)
    (h _ (by rw [← hC]; exact heap_setCells V T vs o C w hH) (But.cells _ _ _ (But.refl V w)))
theorem splice_list : ∀ (vs a b : List Value), b.length = vs.length → splice (a ++ b).toArray a.length vs = (a ++ vs).toArray
  | [], a, b, h => by
    have : b = [] := List.eq_nil_of_length_eq_zero h
    subst this; rfl
  | v :: r, a, [], h => by simp at h
  | v :: r, a, u :: b, h => by
    rw [splice]
    have e : (a ++ u :: b).toArray.setIfInBounds a.length v = ((a ++ [v]) ++ b).toArray := by
      rw [List.setIfInBounds_toArray]; congr 1
      rw [List.set_append_right _ _ (Nat.le_refl _)]; simp
    rw [e, show a.length + 1 = (a ++ [v]).length by simp, splice_list r (a ++ [v]) b (by simpa using h)]
    simp
theorem splice_all (C : Array Value) (vs : List Value) (h : C.size = vs.length) : splice C 0 vs = vs.toArray := by
  have := splice_list vs [] C.toList (by simpa using h)
  simpa using this
/-- a whole block stored anew -/
theorem wpList_store_all {P : Program} {ops : Array Oper} {rest : List Oper} {op : Oper} {a : Act} {w : World} {Q : Exit → Act → World → Prop} (hgd : op.guard = none) (ty : TypeId) (x y : Operand) (ho : op.op = .store ty x y)
    (V n : Nat) (C : Array Value) (T : TypeId) (vs : List Value) (hx : a.eval x = .pointer (some ⟨V, 0, none⟩)) (hy : a.eval y = .agg vs.toArray) (hH : w.heap[V]? = some (.cells C T))
    (hin : C.size = n) (hn : vs.length = n) (hi : (P.info? ty).map (·.size) = some n) (h1 : vs.all (·.oneCell') = true)
    (h : ∀ w', w'.heap[V]? = some (.cells vs.toArray T) → But V w w' → wpList P ops Q rest (a.put op.dst undef) w') : wpList P ops Q (op :: rest) a w :=
  wpList_store_blk hgd ty x y ho V 0 C T vs vs.toArray hx hy hH (by omega) (by rw [hi, hn]) h1 (splice_all C vs (by omega)) h
/-- a whole block read -/
theorem wpList_load_all {P : Program} {ops : Array Oper} {rest : List Oper} {op : Oper} {a : Act} {w : World} {Q : Exit → Act → World → Prop} (hgd : op.guard = none) (ty : TypeId) (x : Operand) (ho : op.op = .load ty x)
    (V n : Nat) (T : TypeId) (vs : List Value) (d : TypeDesc) (hx : a.eval x = .pointer (some ⟨V, 0, none⟩)) (hH : w.heap[V]? = some (.cells vs.toArray T)) (hn : vs.length = n)
    (hu : P.underlying ty = some d) (hd : d.isRow = true) (hi : (P.info? ty).map (·.size) = some n)
    (h : wpList P ops Q rest (a.put op.dst (.agg vs.toArray)) w) : wpList P ops Q (op :: rest) a w :=
  wpList_load_mid hgd ty x ho V 0 hx vs d (by have := World.rangeAt_of_block hH 0 vs.length; simpa using this) hu hd (by rw [hi, hn]) h
/-- one cell stored into a block that is known whole -/
theorem wpList_store_cel {P : Program} {ops : Array Oper} {rest : List Oper} {op : Oper} {a : Act} {w : World} {Q : Exit → Act → World → Prop} (hgd : op.guard = none) (ty : TypeId) (x y : Operand) (ho : op.op = .store ty x y)
    (V o n : Nat) (T : TypeId) (v : Value) (C' : Array Value) {C : Array Value} (hx : a.eval x = .pointer (some ⟨V, o, none⟩)) (hy : a.eval y = v) (hH : w.heap[V]? = some (.cells C T))
    (hsz : C.size = n) (hin : o < n) (hi : (P.info? ty).map (·.size) = some 1) (h1 : v.oneCell' = true) (hC : C.setIfInBounds o v = C')
    (h : ∀ w', w'.heap[V]? = some (.cells C' T) → But V w w' → wpList P ops Q rest (a.put op.dst undef) w') : wpList P ops Q (op :: rest) a w :=
  wpList_plain hgd fun _ hK => by
    have hc : v.cells = #[v] := by cases v <;> first | rfl | cases h1
    have ht := there_block hH o 1 (by omega)
    have hst : (storeVar ty ⟨V, o, none⟩ v).run P w = .ok () (w.setCells V o [v]) := by
      have := run_storeCells_cells (P := P) V o [v] 0 w (fun j hj => by simpa using (ht j (by simpa using hj)).1) (fun j hj => by simpa using (ht j (by simpa using hj)).2) (fun u hu => by simp at hu; subst hu; exact h1)
      cases hq : P.info? ty with
      | none => simp [hq] at hi
      | some i =>
        have hs : i.size = 1 := by simpa [hq] using hi
        simpa [storeVar, sizeOf, typeInfo, hq, hc, hs] using this
    unfold Oper.wp execOp
    simp only [ho, hx, hy, Instr.storeAt, Instr.sureAddr, Sem.run_bind, Sem.run_pure, Result.andThen_ok, hst]
    exact hK _ _ (h _ (by rw [← hC]; exact heap_setCells V T [v] o C w hH) (But.cells _ _ _ (But.refl V w)))
/-- a record stored into a block that is known whole, its size said -/
theorem wpList_store_rec {P : Program} {ops : Array Oper} {rest : List Oper} {op : Oper} {a : Act} {w : World} {Q : Exit → Act → World → Prop} (hgd : op.guard = none) (ty : TypeId) (x y : Operand) (ho : op.op = .store ty x y)
    (V o n m : Nat) (T : TypeId) (vs : List Value) (C' : Array Value) {C : Array Value} (hx : a.eval x = .pointer (some ⟨V, o, none⟩)) (hy : a.eval y = .agg vs.toArray) (hH : w.heap[V]? = some (.cells C T))
    (hsz : C.size = n) (hm : vs.length = m) (hin : o + m ≤ n) (hi : (P.info? ty).map (·.size) = some m) (h1 : vs.all (·.oneCell') = true) (hC : splice C o vs = C')
    (h : ∀ w', w'.heap[V]? = some (.cells C' T) → But V w w' → wpList P ops Q rest (a.put op.dst undef) w') : wpList P ops Q (op :: rest) a w :=
  wpList_store_blk hgd ty x y ho V o C T vs C' hx hy hH (by omega) (by rw [hi, hm]) h1 hC h
/-- a record read out of a block that is known whole -/
theorem wpList_load_blk {P : Program} {ops : Array Oper} {rest : List Oper} {op : Oper} {a : Act} {w : World} {Q : Exit → Act → World → Prop} (hgd : op.guard = none) (ty : TypeId) (x : Operand) (ho : op.op = .load ty x)
    (V o : Nat) (C : Array Value) (T : TypeId) (vs : List Value) (d : TypeDesc) (hx : a.eval x = .pointer (some ⟨V, o, none⟩)) (hH : w.heap[V]? = some (.cells C T)) (hC : (C.extract o (o + vs.length)).toList = vs)
    (hu : P.underlying ty = some d) (hd : d.isRow = true) (hi : (P.info? ty).map (·.size) = some vs.length)
    (h : wpList P ops Q rest (a.put op.dst (.agg vs.toArray)) w) : wpList P ops Q (op :: rest) a w :=
  wpList_load_mid hgd ty x ho V o hx vs d (by have := World.rangeAt_of_block hH o vs.length; rwa [hC] at this) hu hd hi h
/-! kinds of records -/
structure Kd (α : Type) where
  enc : α → List Value
  k : Nat
  len : ∀ x, (enc x).length = k
  one : ∀ x, (enc x).all (·.oneCell') = true
  pos : 0 < k

/-- A SLICE OF RECORDS in the world w: its own cells alone -/
structure Row {α : Type} (D : Kd α) (w : World) (a : Option Addr) (cap : Nat) (xs : List α) : Prop where
  room : xs.length ≤ cap
  few : xs.length ≤ 9000000000000
  void : a = none → xs = [] ∧ cap = 0
  cells : ∀ ad, a = some ad → ∀ j u, (xs.flatMap D.enc)[j]? = some u → w.cell? (ad.add j) = some u
theorem Row.nil {α : Type} (D : Kd α) (w : World) : Row D w none 0 [] := ⟨Nat.le_refl _, by simp, fun _ => ⟨rfl, rfl⟩, fun _ h => by cases h⟩
theorem Row.below {α : Type} {D : Kd α} {w w' : World} {a : Option Addr} {cap : Nat} {xs : List α} {B : Nat} (h : Row D w a cap xs) (hb : Below B w w') (hB : w.heap.size ≤ B) : Row D w' a cap xs :=
  ⟨h.room, h.few, h.void, fun ad ha j u hu => by
    have hc := h.cells ad ha j u hu
    rw [hb.cell (Nat.lt_of_lt_of_le (cell_block hc) hB)]
    exact hc⟩
theorem Row.flat_one {α : Type} (D : Kd α) (xs : List α) : ∀ u ∈ xs.flatMap D.enc, u.oneCell' = true := by
  intro u hu
  obtain ⟨x, _, hx⟩ := List.mem_flatMap.1 hu
  exact List.all_eq_true.1 (D.one x) u hx
theorem Row.addr {α : Type} {D : Kd α} {w : World} {a : Option Addr} {cap : Nat} {xs : List α} (h : Row D w a cap xs) (hl : 0 < xs.length) : ∃ b o, a = some ⟨b, o, none⟩ := by
  cases a with
  | none => have := (h.void rfl).1; subst this; simp at hl
  | some ad =>
    have hj : 0 < (xs.flatMap D.enc).length := by rw [flat_len D.enc D.k D.len]; exact Nat.mul_pos hl D.pos
    have hc := h.cells ad rfl 0 _ (List.getElem?_eq_getElem hj)
    obtain ⟨b, o, sp⟩ := ad
    have : sp = none := by simpa [Addr.add] using World.cell?_spot hc
    subst this
    exact ⟨b, o, rfl⟩
/-- the cells of one record -/
theorem Row.range {α : Type} {D : Kd α} {w : World} {b o cap : Nat} {xs : List α} (h : Row D w (some ⟨b, o, none⟩) cap xs) (i : Nat) (hi : i < xs.length) : w.rangeAt b (o + i * D.k) (D.enc xs[i]) := fun c v hv => by
  have hc : c < D.k := by have := (List.getElem?_eq_some_iff.1 hv).1; rwa [D.len] at this
  have := h.cells _ rfl (i * D.k + c) v (by rw [flat_get D.enc D.k D.len xs i c hi hc, hv])
  rw [Addr.add_lit] at this
  rw [← this, Nat.add_assoc]
theorem Row.lt {α : Type} {D : Kd α} {w : World} {b o cap : Nat} {xs : List α} (h : Row D w (some ⟨b, o, none⟩) cap xs) (hl : 0 < xs.length) : b < w.heap.size := by
  have hj : 0 < (D.enc xs[0]).length := by rw [D.len]; exact D.pos
  exact cell_block (p := ⟨b, o + 0 * D.k + 0, none⟩) (h.range 0 hl 0 _ (List.getElem?_eq_getElem hj))

/-- it lies in a block of that type -/
def Tag (ty : TypeId) (w : World) (a : Option Addr) : Prop := ∀ ad, a = some ad → ∃ cur : Array Value, w.heap[ad.block]? = some (.cells cur ty)
/-- blocks of that type are as they were -/
def Safe (ty : TypeId) (w w' : World) : Prop := ∀ (k : Nat) (cur : Array Value), w.heap[k]? = some (.cells cur ty) → w'.heap[k]? = some (.cells cur ty)
theorem Safe.refl (ty : TypeId) (w : World) : Safe ty w w := fun _ _ h => h
theorem Safe.trans {ty : TypeId} {a b c : World} (x : Safe ty a b) (y : Safe ty b c) : Safe ty a c := fun k cur h => y k cur (x k cur h)
theorem Safe.below {ty : TypeId} {w w' : World} (h : Below w.heap.size w w') : Safe ty w w' := fun _ _ hk => below_heap h hk
theorem Safe.but {ty ty' : TypeId} {w w' : World} {R : Nat} {C : Array Value} (h : But R w w') (hR : w.heap[R]? = some (.cells C ty')) (hn : ty ≠ ty') : Safe ty w w' := fun k cur hk => by
  refine h.heap (fun e => ?_) hk
  subst e; rw [hR] at hk; cases hk; exact hn rfl
theorem Safe.fresh {ty : TypeId} {w w' : World} {R : Nat} (h : But R w w') (hR : w.heap.size ≤ R) : Safe ty w w' := fun k cur hk => h.heap (by have := heap_lt hk; omega) hk
theorem Safe.grown {ty ty' : TypeId} {w w' : World} {base k n : Nat} {v : Value} {xs : List Value} (hown : w.ownsRow base ty' k v n xs) (hg : w.grownBy w' v.ownBlock) (hn : ty ≠ ty') : Safe ty w w' := fun j cur hj => by
  rw [hg.block j (heap_lt hj) (fun e => ?_)]
  · exact hj
  · rcases hown.2 with ⟨h0, _⟩ | ⟨g, cap, cur', hv, _, hh, _⟩
    · rw [h0] at e; cases e
    · rw [hv] at e
      have e' : j = g := by cases e; rfl
      rw [e', hh] at hj
      cases hj; exact hn rfl

/-- a row of records in a block of its type -/
structure RowT {α : Type} (D : Kd α) (ty : TypeId) (w : World) (a : Option Addr) (cap : Nat) (xs : List α) : Prop where
  row : Row D w a cap xs
  tag : Tag ty w a
theorem RowT.nil {α : Type} (D : Kd α) (ty : TypeId) (w : World) : RowT D ty w none 0 [] := ⟨Row.nil D w, fun _ h => by cases h⟩
theorem addr_add_block (a : Addr) (n : Nat) : (a.add n).block = a.block := by unfold Addr.add; split <;> rfl
theorem RowT.safe {α : Type} {D : Kd α} {ty : TypeId} {w w' : World} {a : Option Addr} {cap : Nat} {xs : List α} (h : RowT D ty w a cap xs) (s : Safe ty w w') : RowT D ty w' a cap xs :=
  ⟨⟨h.row.room, h.row.few, h.row.void, fun ad ha j u hu => by
      obtain ⟨cur, hc⟩ := h.tag ad ha
      rw [← h.row.cells ad ha j u hu]
      exact World.cell?_of_block (w := w) (by rw [addr_add_block, s _ _ hc, hc])⟩, fun ad ha => by
    obtain ⟨cur, hc⟩ := h.tag ad ha
    exact ⟨cur, s _ _ hc⟩⟩
theorem ownsRow_keep {w w' : World} {base : Nat} {e : TypeId} {size : Nat} {v : Value} {n : Nat} {xs : List Value} (h : w.ownsRow base e size v n xs) (hs : Safe e w w') : w'.ownsRow base e size v n xs := by
  obtain ⟨h1, h2⟩ := h
  refine ⟨h1, ?_⟩
  rcases h2 with h2 | ⟨g, cap, cur, hv, hg, hh, r⟩
  · exact .inl h2
  · exact .inr ⟨g, cap, cur, hv, hg, hs g cur hh, r⟩
theorem own_row {α : Type} {D : Kd α} {ty : TypeId} {w : World} {base : Nat} {v : Value} {n : Nat} {xs : List α} (h : w.ownsRow base ty D.k v n (xs.flatMap D.enc)) (hf : xs.length ≤ 9000000000000) :
    ∃ a c, v = .slice a xs.length c ∧ RowT D ty w a c xs ∧ ∀ ad, a = some ad → base ≤ ad.block := by
  have hn : xs.length = n := by
    have := h.1
    rw [flat_len D.enc D.k D.len] at this
    exact Nat.eq_of_mul_eq_mul_right D.pos this
  subst hn
  rcases h.2 with ⟨hv, h0⟩ | ⟨g, cap, cur, hv, hb, hg, hnc, hcm, hcs, ht⟩
  · have : xs = [] := List.eq_nil_of_length_eq_zero h0
    subst this
    exact ⟨none, 0, hv, RowT.nil D ty w, fun _ h => by cases h⟩
  · refine ⟨some ⟨g, 0, none⟩, cap, hv, ⟨⟨hnc, hf, (fun h => by cases h), fun ad ha j u hu => ?_⟩, fun ad ha => by cases ha; exact ⟨cur, hg⟩⟩, (fun ad ha => by cases ha; exact hb)⟩
    cases ha
    have hj : j < xs.length * D.k := by have := (List.getElem?_eq_some_iff.1 hu).1; rwa [flat_len D.enc D.k D.len] at this
    rw [← ht, List.getElem?_take, if_pos hj] at hu
    rw [Addr.add_lit, Nat.zero_add]
    simp only [World.cell?, hg]
    simpa using hu
theorem row_new {α : Type} (D : Kd α) (w : World) (c : Array Value) (t : TypeId) (x : α) (h : c.toList = D.enc x) : Row D (w.alloc (.cells c t)) (some ⟨w.heap.size, 0, none⟩) 1 [x] :=
  ⟨by simp, by simp, (fun h => by cases h), fun ad ha j u hu => by
    cases ha
    rw [Addr.add_lit, heap_cell (heap_alloc_new w _), Nat.zero_add, ← Array.getElem?_toList, h]
    simpa using hu⟩


/-- append(row, records...), where the new row lies -/
theorem wpList_append_rec {α : Type} {P : Program} (D : Kd α) (w : World) {ops : Array Oper} {rest : List Oper} {o : Oper} {a : Act} {Q : Exit → Act → World → Prop} (hgd : o.guard = none) (s x : Operand) (t e : TypeId)
    (ho : o.op = .call { callee := .builtin .append, args := #[s, x], argTypes := #[t, t] }) (z : Value) (bytes : Nat) (ht : P.underlying t = some (.slice e)) (hinfo : (P.info? e).map (fun i => (i.zero, i.size, i.bytes)) = some (some z, D.k, bytes)) (hzs : z.cells.size = D.k)
    (base : Nat) (v : Value) (ys xs : List α) (ao : Option Addr) (m c : Nat) (hs : a.eval s = v) (hown : w.ownsRow base e D.k v ys.length (ys.flatMap D.enc)) (hx : a.eval x = .slice ao m c) (hm : xs.length = m) (hl : Row D w ao c xs) (hbase : base ≤ w.heap.size)
    (hfew : bytes * (ys.length + xs.length) ≤ 140737488355328) (hmax : ys.length + xs.length ≤ 9000000000000)
    (h : ∀ v' w', w'.ownsRow base e D.k v' (ys ++ xs).length ((ys ++ xs).flatMap D.enc) → w.grownBy w' v.ownBlock → wpList P ops Q rest (a.put o.dst v') w') : wpList P ops Q (o :: rest) a w := by
  obtain ⟨i0, hi, hz0, hz1, hz2⟩ := info_parts hinfo
  subst hm
  cases ao with
  | none =>
    obtain ⟨rfl, rfl⟩ := hl.void rfl
    refine wpList_append_own_none hgd s x t ho base e i0 D.k ht hi _ ys.length _ hs hown hx ?_
    rw [hs] at *
    exact h v w (by simpa using hown) ⟨rfl, rfl, rfl, Nat.le_refl _, fun _ _ _ => rfl⟩
  | some ad =>
    refine wpList_append_own w hgd s x t ho base e i0 z D.k bytes ht hi hz0 hz1 hz2 hzs D.pos _ ys.length _ hs hown ad xs.length c (xs.flatMap D.enc) hx (flat_len D.enc D.k D.len xs) (hl.cells ad rfl) (Row.flat_one D xs) (by unfold maxLen; omega) ?_ hbase ?_
    · rw [Nat.mul_comm]; exact hfew
    intro v' w' ho' hg' hn'
    exact h v' w' (by rw [List.length_append, List.flatMap_append]; exact ho') hg'

end Go.Proofs.YtfpdiafedoppnaaDoor

/-
  The book of a ring: a map from what was signed; it is told by the list of what it has.
-/
namespace Go.Proofs.YtfpdiafedoppnaaDoor
open Go.RowKit
open Go.Maps (Keyed)

/-- somebody, a domain, bytes -/
abbrev P3 := List UInt8 × List UInt8 × List UInt8
/-- it, as the program's key, and as the reference's pair -/
abbrev sg (p : P3) : Value := .agg #[str p.1, str p.2.1, str p.2.2]
structure Fits (p : P3) : Prop where
  a : p.1.length ≤ maxLen
  b : p.2.1.length ≤ maxLen
  c : p.2.2.length ≤ maxLen

theorem Tryd.rowSigned : (68 : TypeId) < Tryd.prog.types.size := of_decide_eq_true (by kernel_rfl)
theorem Tryd.wideSigned : (match Tryd.prog.underlying 68 with | some (.array _ _) | some (.struct _) => true | _ => false) = true := by kernel_rfl
theorem Tryd.deepSigned : Tryd.prog.keyType 68 = true := by kernel_rfl
set_option maxRecDepth 100000 in
theorem Tryd.lawSigned : Keyed Tryd.prog 68 := Keyed.of_law (deep_law_laid Tryd.laidOut (m := 2) (by omega) Tryd.rowSigned (by kernel_rfl) Tryd.wideSigned)
theorem Tryd.cellsSigned : Tryd.prog.cellsOf 68 = 3 := by kernel_rfl
theorem Tryd.cellsStr : Tryd.prog.cellsOf 9 = 1 := by kernel_rfl
theorem Tryd.isSigned : ∃ fs, Tryd.prog.underlying 68 = some (.struct fs) := ⟨_, Tryd.underlying68⟩

theorem lits_signed (d : Nat) (p : P3) (h : Fits p) : Tryd.prog.keyLits (d + 2) 68 [str p.1, str p.2.1, str p.2.2] = some [.string p.1, .string p.2.1, .string p.2.2] := by
  have e : ∀ l : List UInt8, l.length ≤ maxLen → Tryd.prog.keyLits (d + 1) 9 [str l] = some [.string l] := fun l hl => by
    unfold Program.keyLits
    simp only [Tryd.underlying9]
    rw [if_pos (by simpa [ByteArray.size] using hl)]
  unfold Program.keyLits
  simp only [Tryd.underlying68, Tryd.cellsSigned]
  rw [if_pos ⟨rfl, by simp⟩]
  simp only [List.mapM_cons, List.mapM_nil, Tryd.cellsStr, List.drop_zero, List.drop_succ_cons, List.take_succ_cons, List.take_zero, e p.1 h.a, e p.2.1 h.b, e p.2.2 h.c]
  rfl

/-- what a key reads as -/
def kl (p : P3) : Lit := .string (keyBytes [.string p.1, .string p.2.1, .string p.2.2])
theorem key_signed (p : P3) (h : Fits p) : keyOf Tryd.prog 68 (sg p) = some (kl p) := by
  obtain ⟨fs, hu⟩ := Tryd.isSigned
  have hf : (sg p).formed Tryd.prog 68 = true := by simp [Value.formed, hu, Tryd.cellsSigned]
  have hl := lits_signed (Tryd.prog.types.size - 1) p h
  rw [show Tryd.prog.types.size - 1 + 2 = Tryd.prog.types.size + 1 by have h1 : (68 : Nat) < Tryd.prog.types.size := Tryd.rowSigned; omega] at hl
  unfold keyOf
  simp only [hu, Tryd.deepSigned, hf, Bool.and_self, if_true]
  rw [show (sg p).cells.toList = [str p.1, str p.2.1, str p.2.2] from rfl, hl]
  rfl
theorem str_inj {a b : List UInt8} (h : str a = str b) : a = b := by
  have := congrArg (fun v => match v with | Value.string s => s.data.toList | _ => []) h
  simpa using this
theorem sg_inj {p q : P3} (h : sg p = sg q) : p = q := by
  obtain ⟨a, b, c⟩ := p; obtain ⟨d, e, f⟩ := q
  simp only [sg, Value.agg.injEq] at h
  have h0 := congrArg (fun x : Array Value => x.toList) h
  simp only [List.cons.injEq, and_true] at h0
  obtain ⟨h1, h2, h3⟩ := h0
  rw [str_inj h1, str_inj h2, str_inj h3]
theorem kl_inj {p q : P3} (hp : Fits p) (hq : Fits q) (h : kl p = kl q) : p = q :=
  sg_inj (Tryd.lawSigned.inj (key_signed p hp) (h ▸ key_signed q hq))

/-- THE BOOK in the world w: block bm has just what the list tells -/
structure BookAt (w : World) (bm : Nat) (L : List P3) : Prop where
  has : ∃ D : DataW Unit, w.ownsMap Tryd.prog 68 unitElem bm L.length D ∧ Maps.size D = L.length ∧ ∀ p, Fits p → Maps.has D (kl p) = decide (p ∈ L)
theorem BookAt.map {w : World} {bm : Nat} {L : List P3} (h : BookAt w bm L) : ∃ es clock, w.heap[bm]? = some (.map es clock) := by
  obtain ⟨D, ⟨es, clock, hb, _⟩, _⟩ := h.has
  exact ⟨es, clock, hb⟩
theorem BookAt.block {w w' : World} {bm : Nat} {L : List P3} (h : BookAt w bm L) (hb : w'.heap[bm]? = w.heap[bm]?) : BookAt w' bm L := by
  obtain ⟨D, ⟨es, clock, h1, h2⟩, h3⟩ := h.has
  exact ⟨D, ⟨es, clock, hb.trans h1, h2⟩, h3⟩
theorem BookAt.lt {w : World} {bm : Nat} {L : List P3} (h : BookAt w bm L) : bm < w.heap.size := by
  obtain ⟨es, clock, h⟩ := h.map
  exact heap_lt h
theorem BookAt.below {w w' : World} {bm B : Nat} {L : List P3} (h : BookAt w bm L) (hb : Below B w w') (hB : bm < B) : BookAt w' bm L := h.block (hb.block bm hB)
/-- a new book -/
theorem book_new (w : World) : BookAt (w.alloc (.map #[] 0)) w.heap.size [] :=
  ⟨.map [], World.ownsMap_made w _ _ _, rfl, fun p _ => by simp [Maps.has]⟩
/-- what is no map is not the book -/
theorem BookAt.apart {w : World} {bm : Nat} {L : List P3} (h : BookAt w bm L) {p : Addr} {v : Value} (hc : w.cell? p = some v) : p.block ≠ bm := fun e => by
  obtain ⟨es, clock, hb⟩ := h.map
  simp [World.cell?, e, hb] at hc

/-- v, ok := book[..] -/
theorem BookAt.look {w : World} {bm : Nat} {L : List P3} (h : BookAt w bm L) (p : P3) (hp : Fits p) :
    (Instr.lookup 56 (.map (some bm)) (sg p) true).run Tryd.prog w = .ok (.tuple #[.agg #[], .bool (decide (p ∈ L))]) w := by
  obtain ⟨D, ho, _, hd⟩ := h.has
  have hz : (zeroValue 66).run Tryd.prog w = .ok (.agg #[]) w := by kernel_rfl
  obtain ⟨v, ps, hr, hv⟩ := ho.look_ok Tryd.lawSigned Tryd.underlying56 hz (zd := .agg []) (zp := []) unitElem_mk (key_signed p hp)
  obtain ⟨rfl, _⟩ := unitElem_inv hv
  rw [hr, hd p hp]
/-- len(book) -/
theorem BookAt.len {w : World} {bm : Nat} {L : List P3} (h : BookAt w bm L) (ty : TypeId) :
    (Builtin.len_ #[56] ty #[.map (some bm)]).run Tryd.prog w = .ok (.int .i64 (L.length : Int)) w := by
  obtain ⟨D, ho, hs, _⟩ := h.has
  rw [ho.len Tryd.underlying56 ty, hs]
/-- book[..] = struct{}{} -/
theorem BookAt.put {w : World} {bm : Nat} {L : List P3} (h : BookAt w bm L) (p : P3) (hp : Fits p) (hn : p ∉ L) (hL : L.length < 1000000) :
    ∃ w', (Instr.mapUpdate 56 (.map (some bm)) (sg p) (.agg #[])).run Tryd.prog w = .ok () w' ∧ BookAt w' bm (L ++ [p]) ∧ But bm w w' := by
  obtain ⟨D, ho, hs, hd⟩ := h.has
  obtain ⟨w', hr, ho', hg⟩ := ho.update Tryd.lawSigned Tryd.underlying56 (by unfold maxLen; omega) (key_signed p hp) unitElem_mk
  have hk : WideAt.IsKeyLit (kl p) := Tryd.lawSigned.key (key_signed p hp)
  have h0 : Maps.has D (kl p) = false := by rw [hd p hp]; simpa using hn
  refine ⟨w', hr, ⟨_, by simpa using ho', ?_, fun q hq => ?_⟩, ⟨hg.os, hg.tape, hg.output, hg.size, fun k hk hn => hg.block k hk (by simpa using hn)⟩⟩
  · rw [Maps.size_put (ho.tidy Tryd.lawSigned), h0, hs]; simp
  · by_cases e : q = p
    · subst e
      rw [Maps.has_put_same ho.isMap hk]; simp
    · rw [Maps.has_put_other (fun he => e (kl_inj hq hp he)), hd q hq]
      simp [e]
end Go.Proofs.YtfpdiafedoppnaaDoor

/-
  A ring of the program in memory; what it is asked.
-/
namespace Go.Proofs.YtfpdiafedoppnaaDoor
open Go.RowKit

theorem cs_all (l : List UInt8) : (cs l).all (·.oneCell') = true := List.all_eq_true.2 (cs_one l)
/-- a principal: a name, a key -/
def pK (seed : Int) : Kd (List UInt8) := ⟨fun n => str n :: cs (Mm.pkey seed n), 33, fun n => by rw [List.length_cons, cs_length, Mm.pkey_length], fun n => by rw [List.all_cons, cs_all]; rfl, by decide⟩
/-- a text -/
def sK : Kd (List UInt8) := ⟨fun n => [str n], 1, fun _ => rfl, fun _ => rfl, by decide⟩

/-- A RING in the world w: block rb is it, its principals lie in block g, its book is block bm -/
structure RingAt (w : World) (rb g cap bm : Nat) (seed : Int) (N : List (List UInt8)) (L : List P3) : Prop where
  ring : w.heap[rb]? = some (.cells #[.slice (some ⟨g, 0, none⟩) N.length cap, .map (some bm)] 58)
  row : RowT (pK seed) 63 w (some ⟨g, 0, none⟩) cap N
  book : BookAt w bm L
  few : N.length ≤ 6
  lens : ∀ n ∈ N, n.length ≤ 32
  s0 : -9223372036854775808 ≤ seed
  s1 : seed ≤ 9223372036854775807
  full : L.length ≤ 4096
theorem RingAt.c0 {w : World} {rb g cap bm : Nat} {seed : Int} {N : List (List UInt8)} {L : List P3} (h : RingAt w rb g cap bm seed N L) : w.cell? ⟨rb, 0, none⟩ = some (.slice (some ⟨g, 0, none⟩) N.length cap) := by
  rw [heap_cell h.ring]; rfl
theorem RingAt.c1 {w : World} {rb g cap bm : Nat} {seed : Int} {N : List (List UInt8)} {L : List P3} (h : RingAt w rb g cap bm seed N L) : w.cell? ⟨rb, 1, none⟩ = some (.map (some bm)) := by
  rw [heap_cell h.ring]; rfl
/-- it stays while blocks of other types turn -/
structure Stays (w w' : World) (bm : Nat) : Prop where
  ring : Safe 58 w w'
  row : Safe 63 w w'
  book : w'.heap[bm]? = w.heap[bm]?
theorem RingAt.stays {w w' : World} {rb g cap bm : Nat} {seed : Int} {N : List (List UInt8)} {L : List P3} (h : RingAt w rb g cap bm seed N L) (s : Stays w w' bm) : RingAt w' rb g cap bm seed N L :=
  ⟨s.ring _ _ h.ring, h.row.safe s.row, h.book.block s.book, h.few, h.lens, h.s0, h.s1, h.full⟩
theorem RingAt.below {w w' : World} {rb g cap bm : Nat} {seed : Int} {N : List (List UInt8)} {L : List P3} (h : RingAt w rb g cap bm seed N L) (b : Below w.heap.size w w') : RingAt w' rb g cap bm seed N L :=
  h.stays ⟨Safe.below b, Safe.below b, b.block _ h.book.lt⟩
theorem RingAt.lt {w : World} {rb g cap bm : Nat} {seed : Int} {N : List (List UInt8)} {L : List P3} (h : RingAt w rb g cap bm seed N L) : rb < w.heap.size := heap_lt h.ring

/-- a digest and a word handed back -/
theorem results_cs {P : Program} {fn : Func} {p q : Tmp} {ty : TypeId} {tmps : Array Value} {w : World} {b o : Nat} {cs : List Value} {v : Value} {d : TypeDesc} (h : fn.results = #[.cell p ty, .tmp q]) (hp : tmps.getD p undef = .pointer (some ⟨b, o, none⟩)) (hq : tmps.getD q undef = v) (hc : w.rangeAt b o cs)
    (hu : P.underlying ty = some d) (hd : d.isRow = true) (hi : (P.info? ty).map (·.size) = some cs.length) : (results fn tmps).run P w = .ok (.tuple #[.agg cs.toArray, v]) w := by
  simp only [Array.getD_eq_getD_getElem?] at hp hq
  simp only [results, h]
  simp [asAddr, hp, hq, run_loadVar_mid w b o ty cs d hc hu hd hi]

theorem map_some (bm : Nat) (w : World) : (binOp .neq 56 (.map (some bm)) (.map none)).run Tryd.prog w = .ok (.bool true) w := by kernel_rfl
theorem map_none (w : World) : (binOp .neq 56 (.map none) (.map none)).run Tryd.prog w = .ok (.bool false) w := by kernel_rfl
set_option maxRecDepth 100000 in
theorem fromNew6 (w : World) (rb bm : Nat) (h : w.cell? ⟨rb, 1, none⟩ = some (.map (some bm))) :
    Calls Tryd.prog 27 #[.pointer (some ⟨rb, 0, none⟩)] w fun e w' => e = .returned (.bool true) ∧ w = w' := by
  have hm := map_some bm w
  go_enter Tryd.func27, Tryd.ntmps27
  go_wp2
  go_ret
  exact ⟨rfl, rfl⟩
set_option maxRecDepth 100000 in
theorem fromNew6_nil (w : World) :
    Calls Tryd.prog 27 #[.pointer none] w fun e w' => e = .returned (.bool false) ∧ w = w' := by
  go_enter Tryd.func27, Tryd.ntmps27
  go_wp2
  go_ret
  exact ⟨rfl, rfl⟩
set_option maxRecDepth 100000 in
theorem fromNew6_zero (w : World) (rb : Nat) (h : w.cell? ⟨rb, 1, none⟩ = some (.map none)) :
    Calls Tryd.prog 27 #[.pointer (some ⟨rb, 0, none⟩)] w fun e w' => e = .returned (.bool false) ∧ w = w' := by
  have hm := map_none w
  go_enter Tryd.func27, Tryd.ntmps27
  go_wp2
  go_ret
  exact ⟨rfl, rfl⟩

set_option maxRecDepth 100000 in
theorem len6 (w : World) (rb g cap bm : Nat) (seed : Int) (N : List (List UInt8)) (L : List P3) (r : RingAt w rb g cap bm seed N L) :
    Calls Tryd.prog 16 #[.pointer (some ⟨rb, 0, none⟩)] w fun e w' => e = .returned (.int .i64 (L.length : Int)) ∧ w = w' := by
  have c1 := r.c1
  have hl := r.book.len (ty := 3)
  go_enter Tryd.func16, Tryd.ntmps16
  go_wp2_with fail
  refine (fromNew6 w rb bm c1).mono ?_
  rintro _ w1 ⟨rfl, rfl⟩
  go_wp2_with fail
  go_ret
  exact ⟨rfl, rfl⟩
end Go.Proofs.YtfpdiafedoppnaaDoor

/-
  A principal's key, as the ring finds it; whether somebody is a principal.
-/
namespace Go.Proofs.YtfpdiafedoppnaaDoor
open Go.RowKit

theorem Tryd.infoPrincipal : (Tryd.prog.info? 63).map (·.size) = some 33 := by kernel_rfl
/-- the key that is found, or zeros -/
def foundKey (seed : Int) (N : List (List UInt8)) (who : List UInt8) : List UInt8 := if who ∈ N then Mm.pkey seed who else Sm.zeros 32
theorem foundKey_length (seed : Int) (N : List (List UInt8)) (who : List UInt8) : (foundKey seed N who).length = 32 := by
  unfold foundKey; split
  · exact Mm.pkey_length _ _
  · exact Sm.zeros_length _
theorem beq_str (a b : List UInt8) : ((⟨a.toArray⟩ : ByteArray).toList == (⟨b.toArray⟩ : ByteArray).toList) = (a == b) := by rw [ByteArray.toList_eq, ByteArray.toList_eq]
theorem there_cells {w : World} {b o n : Nat} {V : List Value} (h : w.there b o n) (hn : V.length = n) : w.there b o V.length := hn ▸ h

set_option maxRecDepth 100000 in
set_option maxHeartbeats 1600000 in
theorem key6 (w : World) (rb g cap bm : Nat) (seed : Int) (N : List (List UInt8)) (L : List P3) (who : List UInt8) (r : RingAt w rb g cap bm seed N L) :
    Calls Tryd.prog 28 #[.pointer (some ⟨rb, 0, none⟩), str who] w fun e w' => e = .returned (.tuple #[ba (foundKey seed N who), .bool (decide (who ∈ N))]) ∧ Below w.heap.size w w' := by
  have lF := foundKey_length seed N who
  have iF : (Tryd.prog.info? 42).map (·.size) = some (cs (foundKey seed N who)).length := by rw [cs_length, lF]; exact Tryd.infoDigest
  have oF := cs_one (foundKey seed N who)
  have few := r.few
  go_enter Tryd.func28, Tryd.ntmps28
  go_wp2_with fail
  have B0 := below_alloc w (.cells (cs (Sm.zeros 32)).toArray 42)
  have t0 := there_new w (cs (Sm.zeros 32)).toArray 42 32 rfl
  change Calls _ _ _ (w.alloc (.cells (cs (Sm.zeros 32)).toArray 42)) _
  generalize w.alloc (.cells (cs (Sm.zeros 32)).toArray 42) = w0 at B0 t0 ⊢
  have r0 := r.below B0
  refine (fromNew6 w0 rb bm r0.c1).mono ?_
  rintro _ w1 ⟨rfl, rfl⟩
  have c0 := r0.c0
  go_wp2_with fail
  go_loopw [17] (fun v wr => ∃ k : Nat, v = .int .i64 (k : Int) ∧ k ≤ N.length ∧ Hid (who ∉ N.take k) ∧ Below w.heap.size w wr ∧ wr.there w.heap.size 0 32) (fun v _ => N.length - (intOf v).toNat)
  case atStart => exact ⟨0, rfl, by omega, hideP (by simp), B0, t0⟩
  case round =>
    obtain ⟨k, rfl, hk, hno, hbel, ht⟩ := hrel
    clear c0 r0 t0 B0
    by_cases hlt : k < N.length
    · have q0 : (k : Int) < (N.length : Int) := by omega
      have rr := (r.below hbel).row.row.range k hlt
      rw [Nat.zero_add] at rr
      have iP : Hid ((Tryd.prog.info? 63).map (·.size) = some (str N[k] :: cs (Mm.pkey seed N[k])).length) := hideP (by rw [List.length_cons, cs_length, Mm.pkey_length]; exact Tryd.infoPrincipal)
      have oP : ∀ u ∈ (str N[k] :: cs (Mm.pkey seed N[k])), u.oneCell' = true := List.all_eq_true.1 ((pK seed).one N[k])
      have zP : Hid (33 = (str N[k] :: cs (Mm.pkey seed N[k])).length) := hideP (by rw [List.length_cons, cs_length, Mm.pkey_length])
      have lK := Mm.pkey_length seed N[k]
      have Hn := hideP (rfl : N[k] = N[k])
      have HF : Hid (N[k] = who → foundKey seed N who = Mm.pkey seed N[k]) := hideP fun e => by
        have hm : who ∈ N := e ▸ List.getElem_mem hlt
        unfold foundKey; rw [if_pos hm, e]
      have HN : Hid (N[k] ≠ who → who ∉ N.take (k + 1)) := hideP fun e => by
        rw [← List.take_append_getElem hlt]
        simp only [List.mem_append, List.mem_singleton, not_or]
        exact ⟨hno.out, fun h => e h.symm⟩
      have HM : Hid (N[k] = who → who ∈ N) := hideP fun e => e ▸ List.getElem_mem hlt
      clear Hn
      change wr.rangeAt g (k * 33) (str N[k] :: cs (Mm.pkey seed N[k])) at rr
      generalize N[k] = n at *
      generalize Mm.pkey seed n = K at *
      have bA := below_alloc wr (.cells (str n :: cs K).toArray 63)
      have rA := rangeAt_new wr (str n :: cs K).toArray 63 (str n :: cs K) (by simp)
      have tA := there_below ht bA
      have rA1 : (wr.alloc (.cells (str n :: cs K).toArray 63)).rangeAt wr.heap.size 1 (cs K) := fun j v hv => by
        have := rA (j + 1) v (by simpa using hv)
        rwa [Nat.zero_add, Nat.add_comm] at this
      have BA := Below.then hbel bA
      have iK : Hid ((Tryd.prog.info? 42).map (·.size) = some (cs K).length) := hideP (by rw [cs_length, lK]; exact Tryd.infoDigest)
      have tK : Hid ((wr.alloc (.cells (str n :: cs K).toArray 63)).there w.heap.size 0 (cs K).length) := hideP (by rw [cs_length, lK]; exact tA)
      have oK := cs_one K
      clear rA
      by_cases hq : n = who
      · have q1 : (n == who) = true := by simpa using hq
        have P6 := below_cells (Nat.le_refl _) (cs K) 0 _ BA
        have R6 := World.rangeAt_setCells_same _ w.heap.size 0 (cs K) tK.out
        have HF' := hideP (HF.out hq)
        have HM' := hideP (HM.out hq)
        clear hq HF HM HN lK
        go_wp2_with (first
          | (refine wpList_load_mid rfl 63 _ rfl g (k * 33) rfl (str n :: cs K) _ rr Tryd.underlying63 rfl iP.out ?_)
          | (refine wpList_store_new rfl 63 _ _ rfl wr.heap.size rfl (str n :: cs K) rfl rfl zP.out iP.out oP ?_)
          | (refine wpList_load_mid rfl 42 _ rfl wr.heap.size 1 rfl (cs K) _ rA1 Tryd.underlying42 rfl iK.out ?_)
          | (refine wpList_store_ex rfl 42 _ _ rfl w.heap.size 0 (cs K) rfl rfl tK.out iK.out oK ?_; intro w6 hw6; rw [hw6] at P6 R6; clear hw6))
        exact bodyPost_ret (results_cs (v := .bool true) (b := w.heap.size) (o := 0) (cs := cs K) rfl rfl rfl R6 Tryd.underlying42 rfl iK.out) rfl ⟨by rw [HF'.out, decide_eq_true HM'.out], P6⟩
      · have q1 : (n == who) = false := by simpa using hq
        have HN' := hideP (HN.out hq)
        clear hq HF HM HN lK rA1 iK oK tK
        go_wp2_with (first
          | (refine wpList_load_mid rfl 63 _ rfl g (k * 33) rfl (str n :: cs K) _ rr Tryd.underlying63 rfl iP.out ?_)
          | (refine wpList_store_new rfl 63 _ _ rfl wr.heap.size rfl (str n :: cs K) rfl rfl zP.out iP.out oP ?_))
        exact ⟨⟨k + 1, rfl, hlt, HN', BA, tA⟩, by simp [intOf]; omega⟩
    · have q0 : ¬ (k : Int) < (N.length : Int) := by omega
      obtain rfl : k = N.length := by omega
      have hno' := hno.out
      rw [List.take_length] at hno'
      have hf : foundKey seed N who = Sm.zeros 32 := if_neg hno'
      have hd : decide (who ∈ N) = false := by simpa using hno'
      rw [hf] at iF oF lF
      have HF := hideP hf
      have HD := hideP hd
      clear hno hno' hf hd lF
      have tZ : Hid (wr.there w.heap.size 0 (cs (Sm.zeros 32)).length) := hideP (by rw [cs_length, Sm.zeros_length]; exact ht)
      have P6 := below_cells (Nat.le_refl _) (cs (Sm.zeros 32)) 0 _ hbel
      have R6 := World.rangeAt_setCells_same _ w.heap.size 0 (cs (Sm.zeros 32)) tZ.out
      go_wp2_with (refine wpList_store_ex rfl 42 _ _ rfl w.heap.size 0 (cs (Sm.zeros 32)) rfl rfl tZ.out iF oF ?_; intro w6 hw6; rw [hw6] at P6 R6; clear hw6)
      exact bodyPost_ret (results_cs (v := .bool false) (b := w.heap.size) (o := 0) (cs := cs (Sm.zeros 32)) rfl rfl rfl R6 Tryd.underlying42 rfl iF) rfl ⟨by rw [HF.out, HD.out], P6⟩

set_option maxRecDepth 100000 in
set_option maxHeartbeats 1600000 in
theorem is6 (w : World) (rb g cap bm : Nat) (seed : Int) (N : List (List UInt8)) (L : List P3) (who : List UInt8) (r : RingAt w rb g cap bm seed N L) :
    Calls Tryd.prog 14 #[.pointer (some ⟨rb, 0, none⟩), str who] w fun e w' => e = .returned (.bool (decide (who ∈ N))) ∧ Below w.heap.size w w' := by
  have lF := foundKey_length seed N who
  have iF : Hid ((Tryd.prog.info? 42).map (·.size) = some (cs (foundKey seed N who)).length) := hideP (by rw [cs_length, lF]; exact Tryd.infoDigest)
  have oF := cs_one (foundKey seed N who)
  have zF : Hid (32 = (cs (foundKey seed N who)).length) := hideP (by rw [cs_length, lF])
  go_enter Tryd.func14, Tryd.ntmps14
  go_wp2_with fail
  refine (key6 w rb g cap bm seed N L who r).mono ?_
  rintro _ w1 ⟨rfl, b1⟩
  have B2 := Below.then b1 (below_alloc w1 (.cells (cs (foundKey seed N who)).toArray 42))
  generalize foundKey seed N who = F at *
  go_wp2_with (refine wpList_store_new rfl 42 _ _ rfl w1.heap.size rfl (cs F) rfl rfl zF.out iF.out oF ?_)
  go_ret
  exact ⟨rfl, B2⟩
end Go.Proofs.YtfpdiafedoppnaaDoor

/-
  Whether a ring's book has something: Made.
-/
namespace Go.Proofs.YtfpdiafedoppnaaDoor
open Go.RowKit

theorem Holds.fits {w : World} {a : Option Addr} {c : Nat} {l : List UInt8} (_ : Holds w a c l) (hl : l.length ≤ 140737488355328) : l.length ≤ maxLen := by unfold maxLen; omega

set_option maxRecDepth 100000 in
set_option maxHeartbeats 1600000 in
theorem made6 (w : World) (rb g cap bm : Nat) (seed : Int) (N : List (List UInt8)) (L : List P3) (who dom txt : List UInt8) (a : Option Addr) (c : Nat) (r : RingAt w rb g cap bm seed N L) (ha : Holds w a c txt) (hf : Fits (who, dom, txt)) :
    Calls Tryd.prog 23 #[.pointer (some ⟨rb, 0, none⟩), str who, str dom, .slice a txt.length c] w fun e w' => e = .returned (.bool (decide ((who, dom, txt) ∈ L))) ∧ Below w.heap.size w w' := by
  have kk : ∀ W, Below w.heap.size w W → W.cell? ⟨rb, 1, none⟩ = some (.map (some bm)) ∧ (convert 38 9 (.slice a txt.length c)).run Tryd.prog W = .ok (str txt) W ∧ (Instr.lookup 56 (.map (some bm)) (.agg #[str who, str dom, str txt]) true).run Tryd.prog W = .ok (.tuple #[.agg #[], .bool (decide ((who, dom, txt) ∈ L))]) W := fun W h =>
    ⟨(r.below h).c1, conv (ha.below h), (r.below h).book.look (who, dom, txt) hf⟩
  have c1 := r.c1
  generalize decide ((who, dom, txt) ∈ L) = d at *
  go_enter Tryd.func23, Tryd.ntmps23
  go_wp2_with fail
  refine (fromNew6 w rb bm c1).mono ?_
  rintro _ w1 ⟨rfl, rfl⟩
  go_wp2_with fail
  have bD : Below w.heap.size w w.drew := (Below.refl w.heap.size w).drew
  have bA : ∀ o, Below w.heap.size w (w.drew.alloc o) := fun o => Below.then bD (below_alloc _ o)
  go_region_held3 (fun W => W.cell? ⟨rb, 1, none⟩ = some (.map (some bm)) ∧ (convert 38 9 (.slice a txt.length c)).run Tryd.prog W = .ok (str txt) W ∧ (Instr.lookup 56 (.map (some bm)) (.agg #[str who, str dom, str txt]) true).run Tryd.prog W = .ok (.tuple #[.agg #[], .bool d]) W)
    (first | exact kk _ bD | exact kk _ (bA _)) (fail)
  all_goals go_wp2_with fail
  all_goals go_ret
  all_goals exact ⟨rfl, bA _⟩
end Go.Proofs.YtfpdiafedoppnaaDoor
