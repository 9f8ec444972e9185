/-
  Rows of records of any kind in memory; blocks that are known whole, what a store makes of them; worlds in which of what was there only one block turned.
-/
import Derived.Test.YtomiefhfkdfgbaaFb
import Derived.Deep.MidRow
namespace Go.Proofs.Ytomiefhfkdfgbaa
open Go.RowKit Go.Sort

/-! of what was there only block h turned -/
structure But (h : Nat) (w w' : World) : Prop where
  os : w'.os = w.os
  tape : w'.tape = w.tape
  output : w'.output = w.output
  size : w.heap.size ≤ w'.heap.size
  block : ∀ k, k < w.heap.size → k ≠ h → w'.heap[k]? = w.heap[k]?
theorem But.refl (h : Nat) (w : World) : But h w w := ⟨rfl, rfl, rfl, Nat.le_refl _, fun _ _ _ => rfl⟩
theorem But.trans {h : Nat} {a b c : World} (x : But h a b) (y : But h b c) : But h a c :=
  ⟨y.os.trans x.os, y.tape.trans x.tape, y.output.trans x.output, Nat.le_trans x.size y.size, fun k hk hn => (y.block k (Nat.lt_of_lt_of_le hk x.size) hn).trans (x.block k hk hn)⟩
theorem But.of_below {h : Nat} {b c : World} (y : Below b.heap.size b c) : But h b c := ⟨y.os, y.tape, y.output, y.size, fun k hk _ => y.block k hk⟩
theorem But.below {h : Nat} {a b c : World} (x : But h a b) (y : Below b.heap.size b c) : But h a c := x.trans (But.of_below y)
theorem But.set {h : Nat} {a b : World} (x : But h a b) (o : Nat) (v : Value) : But h a (b.setCell ⟨h, o, none⟩ v) :=
  x.trans (by
    have s : Below 0 b (b.setCell ⟨h, o, none⟩ v) := (Below.refl 0 b).setCell (p := ⟨h, o, none⟩) (Nat.zero_le _) v
    exact ⟨s.os, s.tape, s.output, s.size, fun k _ hn => Below.heap_setCell b ⟨h, o, none⟩ v k hn⟩)
theorem But.cells {h : Nat} {a : World} : ∀ (V : List Value) (o : Nat) (b : World), But h a b → But h a (b.setCells h o V)
  | [], _, _, x => x
  | v :: r, o, b, x => by rw [World.setCells]; exact But.cells r (o + 1) _ (x.set o v)
theorem But.lower {h B : Nat} {w w' : World} (x : But h w w') (hB : B ≤ h) (hw : B ≤ w.heap.size) : Below B w w' :=
  ⟨x.os, x.tape, x.output, x.size, fun k hk => x.block k (Nat.lt_of_lt_of_le hk hw) (by omega)⟩
/-- what turned was made by the call itself -/
theorem But.fresh {h g : Nat} {a b c : World} (x : But h a b) (y : But g b c) (hg : a.heap.size ≤ g) : But h a c :=
  ⟨y.os.trans x.os, y.tape.trans x.tape, y.output.trans x.output, Nat.le_trans x.size y.size, fun k hk hn => (y.block k (Nat.lt_of_lt_of_le hk x.size) (by omega)).trans (x.block k hk hn)⟩
theorem But.of_lower {h : Nat} {w w' : World} {B : Nat} (x : Below B w w') (hB : w.heap.size ≤ B) : But h w w' := ⟨x.os, x.tape, x.output, x.size, fun k hk _ => x.block k (Nat.lt_of_lt_of_le hk hB)⟩
theorem But.heap {h : Nat} {w w' : World} (x : But h w w') {k : Nat} {o : Obj} (hn : k ≠ h) (hk : w.heap[k]? = some o) : w'.heap[k]? = some o := by
  rw [x.block k (by rcases Nat.lt_or_ge k w.heap.size with h' | h'
                    · exact h'
                    · simp [h'] at hk) hn]; exact hk
theorem But.holds {h : Nat} {w w' : World} (x : But h w w') {a : Option Addr} {c : Nat} {l : List UInt8} (hl : Holds w a c l) (hne : ∀ ad, a = some ad → ad.block ≠ h) : Holds w' a c l :=
  ⟨hl.1, hl.2.1, fun ad ha j u hu => by
    have hc := hl.2.2 ad ha j u hu
    have hb : (ad.add j).block = ad.block := by unfold Addr.add; split <;> rfl
    rw [World.cell?_of_block (w := w) (x.block _ (cell_block hc) (by rw [hb]; exact hne ad ha))]
    exact hc⟩
theorem heap_lt {w : World} {b : Nat} {o : Obj} (h : w.heap[b]? = some o) : b < w.heap.size := by
  rcases Nat.lt_or_ge b w.heap.size with h' | h'
  · exact h'
  · simp [h'] at h
theorem below_heap {w w' : World} {b : Nat} {o : Obj} (hb : Below w.heap.size w w') (h : w.heap[b]? = some o) : w'.heap[b]? = some o := (hb.block b (heap_lt h)).trans h
theorem heap_cell {w : World} {b : Nat} {c : Array Value} {t : TypeId} (h : w.heap[b]? = some (.cells c t)) (j : Nat) : w.cell? ⟨b, j, none⟩ = c[j]? := by simp [World.cell?, h]
theorem heap_frozen {w : World} {b : Nat} {c : Array Value} {t : TypeId} (h : w.heap[b]? = some (.cells c t)) (j : Nat) : w.frozen? ⟨b, j, none⟩ = false := by simp [World.frozen?, h]

/-! blocks that are known whole -/
def splice : Array Value → Nat → List Value → Array Value
  | C, _, [] => C
  | C, o, v :: r => splice (C.setIfInBounds o v) (o + 1) r
theorem heap_setCells (V : Nat) (T : TypeId) : ∀ (vs : List Value) (o : Nat) (C : Array Value) (w : World), w.heap[V]? = some (.cells C T) → (w.setCells V o vs).heap[V]? = some (.cells (splice C o vs) T)
  | [], _, _, _, h => h
  | v :: r, o, C, w, h => by rw [World.setCells, splice]; exact heap_setCells V T r (o + 1) _ _ (heap_setCell_same w V o C T v h)
theorem there_block {w : World} {V : Nat} {C : Array Value} {T : TypeId} (h : w.heap[V]? = some (.cells C T)) (o n : Nat) (hn : o + n ≤ C.size) : w.there V o n := fun j hj => by
  rw [heap_cell h, heap_frozen h, Array.getElem?_eq_getElem (show o + j < C.size by omega)]; exact ⟨rfl, rfl⟩

/-- a record stored into a block that is known whole -/
theorem wpList_store_blk {P : Program} {ops : Array Oper} {rest : List Oper} {op : Oper} {a : Act} {w : World} {Q : Exit → Act → World → Prop} (hgd : op.guard = none) (ty : TypeId) (x y : Operand) (ho : op.op = .store ty x y)
    (V o : Nat) (C : Array Value) (T : TypeId) (vs : List Value) (C' : Array Value) (hx : a.eval x = .pointer (some ⟨V, o, none⟩)) (hy : a.eval y = .agg vs.toArray) (hH : w.heap[V]? = some (.cells C T))
    (hin : o + vs.length ≤ C.size) (hi : (P.info? ty).map (·.size) = some vs.length) (h1 : vs.all (·.oneCell') = true) (hC : splice C o vs = C')
    (h : ∀ w', w'.heap[V]? = some (.cells C' T) → But V w w' → wpList P ops Q rest (a.put op.dst undef) w') : wpList P ops Q (op :: rest) a w :=
  wpList_store_mid hgd ty x y ho V o vs.toArray hx hy (by simpa using there_block hH o vs.length hin) (by simpa using hi) (by simpa using h1)
    (h _ (by rw [← hC]; exact heap_setCells V T vs o C w hH) (But.cells _ _ _ (But.refl V w)))
theorem splice_list : ∀ (vs a b : List Value), b.length = vs.length → splice (a ++ b).toArray a.length vs = (a ++ vs).toArray
  | [], a, b, h => by
    have : b = [] := List.eq_nil_of_length_eq_zero h
    subst this; rfl
  | v :: r, a, [], h => by simp at h
  | v :: r, a, u :: b, h => by
    rw [splice]
    have e : (a ++ u :: b).toArray.setIfInBounds a.length v = ((a ++ [v]) ++ b).toArray := by
      rw [List.setIfInBounds_toArray]; congr 1
      rw [List.set_append_right _ _ (Nat.le_refl _)]; simp
    rw [e, show a.length + 1 = (a ++ [v]).length by simp, splice_list r (a ++ [v]) b (by simpa using h)]
    simp
theorem splice_all (C : Array Value) (vs : List Value) (h : C.size = vs.length) : splice C 0 vs = vs.toArray := by
  have := splice_list vs [] C.toList (by simpa using h)
  simpa using this
/-- a whole block stored anew -/
theorem wpList_store_all {P : Program} {ops : Array Oper} {rest : List Oper} {op : Oper} {a : Act} {w : World} {Q : Exit → Act → World → Prop} (hgd : op.guard = none) (ty : TypeId) (x y : Operand) (ho : op.op = .store ty x y)
    (V n : Nat) (C : Array Value) (T : TypeId) (vs : List Value) (hx : a.eval x = .pointer (some ⟨V, 0, none⟩)) (hy : a.eval y = .agg vs.toArray) (hH : w.heap[V]? = some (.cells C T))
    (hin : C.size = n) (hn : vs.length = n) (hi : (P.info? ty).map (·.size) = some n) (h1 : vs.all (·.oneCell') = true)
    (h : ∀ w', w'.heap[V]? = some (.cells vs.toArray T) → But V w w' → wpList P ops Q rest (a.put op.dst undef) w') : wpList P ops Q (op :: rest) a w :=
  wpList_store_blk hgd ty x y ho V 0 C T vs vs.toArray hx hy hH (by omega) (by rw [hi, hn]) h1 (splice_all C vs (by omega)) h
/-- a whole block read -/
theorem wpList_load_all {P : Program} {ops : Array Oper} {rest : List Oper} {op : Oper} {a : Act} {w : World} {Q : Exit → Act → World → Prop} (hgd : op.guard = none) (ty : TypeId) (x : Operand) (ho : op.op = .load ty x)
    (V n : Nat) (T : TypeId) (vs : List Value) (d : TypeDesc) (hx : a.eval x = .pointer (some ⟨V, 0, none⟩)) (hH : w.heap[V]? = some (.cells vs.toArray T)) (hn : vs.length = n)
    (hu : P.underlying ty = some d) (hd : d.isRow = true) (hi : (P.info? ty).map (·.size) = some n)
    (h : wpList P ops Q rest (a.put op.dst (.agg vs.toArray)) w) : wpList P ops Q (op :: rest) a w :=
  wpList_load_mid hgd ty x ho V 0 hx vs d (by have := World.rangeAt_of_block hH 0 vs.length; simpa using this) hu hd (by rw [hi, hn]) h
/-- one cell stored into a block that is known whole -/
theorem wpList_store_cel {P : Program} {ops : Array Oper} {rest : List Oper} {op : Oper} {a : Act} {w : World} {Q : Exit → Act → World → Prop} (hgd : op.guard = none) (ty : TypeId) (x y : Operand) (ho : op.op = .store ty x y)
    (V o n : Nat) (T : TypeId) (v : Value) (C' : Array Value) {C : Array Value} (hx : a.eval x = .pointer (some ⟨V, o, none⟩)) (hy : a.eval y = v) (hH : w.heap[V]? = some (.cells C T))
    (hsz : C.size = n) (hin : o < n) (hi : (P.info? ty).map (·.size) = some 1) (h1 : v.oneCell' = true) (hC : C.setIfInBounds o v = C')
    (h : ∀ w', w'.heap[V]? = some (.cells C' T) → But V w w' → wpList P ops Q rest (a.put op.dst undef) w') : wpList P ops Q (op :: rest) a w :=
  wpList_plain hgd fun _ hK => by
    have hc : v.cells = #[v] := by cases v <;> first | rfl | cases h1
    have ht := there_block hH o 1 (by omega)
    have hst : (storeVar ty ⟨V, o, none⟩ v).run P w = .ok () (w.setCells V o [v]) := by
      have := run_storeCells_cells (P := P) V o [v] 0 w (fun j hj => by simpa using (ht j (by simpa using hj)).1) (fun j hj => by simpa using (ht j (by simpa using hj)).2) (fun u hu => by simp at hu; subst hu; exact h1)
      cases hq : P.info? ty with
      | none => simp [hq] at hi
      | some i =>
        have hs : i.size = 1 := by simpa [hq] using hi
        simpa [storeVar, sizeOf, typeInfo, hq, hc, hs] using this
    unfold Oper.wp execOp
    simp only [ho, hx, hy, Instr.storeAt, Instr.sureAddr, Sem.run_bind, Sem.run_pure, Result.andThen_ok, hst]
    exact hK _ _ (h _ (by rw [← hC]; exact heap_setCells V T [v] o C w hH) (But.cells _ _ _ (But.refl V w)))
/-- a record stored into a block that is known whole, its size said -/
theorem wpList_store_rec {P : Program} {ops : Array Oper} {rest : List Oper} {op : Oper} {a : Act} {w : World} {Q : Exit → Act → World → Prop} (hgd : op.guard = none) (ty : TypeId) (x y : Operand) (ho : op.op = .store ty x y)
    (V o n m : Nat) (T : TypeId) (vs : List Value) (C' : Array Value) {C : Array Value} (hx : a.eval x = .pointer (some ⟨V, o, none⟩)) (hy : a.eval y = .agg vs.toArray) (hH : w.heap[V]? = some (.cells C T))
    (hsz : C.size = n) (hm : vs.length = m) (hin : o + m ≤ n) (hi : (P.info? ty).map (·.size) = some m) (h1 : vs.all (·.oneCell') = true) (hC : splice C o vs = C')
    (h : ∀ w', w'.heap[V]? = some (.cells C' T) → But V w w' → wpList P ops Q rest (a.put op.dst undef) w') : wpList P ops Q (op :: rest) a w :=
  wpList_store_blk hgd ty x y ho V o C T vs C' hx hy hH (by omega) (by rw [hi, hm]) h1 hC h
/-- a record read out of a block that is known whole -/
theorem wpList_load_blk {P : Program} {ops : Array Oper} {rest : List Oper} {op : Oper} {a : Act} {w : World} {Q : Exit → Act → World → Prop} (hgd : op.guard = none) (ty : TypeId) (x : Operand) (ho : op.op = .load ty x)
    (V o : Nat) (C : Array Value) (T : TypeId) (vs : List Value) (d : TypeDesc) (hx : a.eval x = .pointer (some ⟨V, o, none⟩)) (hH : w.heap[V]? = some (.cells C T)) (hC : (C.extract o (o + vs.length)).toList = vs)
    (hu : P.underlying ty = some d) (hd : d.isRow = true) (hi : (P.info? ty).map (·.size) = some vs.length)
    (h : wpList P ops Q rest (a.put op.dst (.agg vs.toArray)) w) : wpList P ops Q (op :: rest) a w :=
  wpList_load_mid hgd ty x ho V o hx vs d (by have := World.rangeAt_of_block hH o vs.length; rwa [hC] at this) hu hd hi h
theorem results_cell {P : Program} {fn : Func} {p : Tmp} {ty : TypeId} {tmps : Array Value} {w : World} {b : Nat} {C : Array Value} {d : TypeDesc} {T : TypeId} (h : fn.results = #[.cell p ty]) (hp : tmps.getD p undef = .pointer (some ⟨b, 0, none⟩)) (hc : w.heap[b]? = some (.cells C T))
    (hu : P.underlying ty = some d) (hd : d.isRow = true) (hi : (P.info? ty).map (·.size) = some C.size) : (results fn tmps).run P w = .ok (.agg C) w := by
  have hr : w.rangeAt b 0 C.toList := by
    have := World.rangeAt_of_block hc 0 C.size
    simpa using this
  simp only [Array.getD_eq_getD_getElem?] at hp
  simp only [results, h]
  simp [asAddr, hp, run_loadVar_mid w b 0 ty C.toList d hr hu hd (by simpa using hi)]

/-! kinds of records -/
structure Kd (α : Type) where
  enc : α → List Value
  k : Nat
  len : ∀ x, (enc x).length = k
  one : ∀ x, (enc x).all (·.oneCell') = true
  pos : 0 < k

/-- A SLICE OF RECORDS in the world w: its own cells alone -/
structure Row {α : Type} (D : Kd α) (w : World) (a : Option Addr) (cap : Nat) (xs : List α) : Prop where
  room : xs.length ≤ cap
  few : xs.length ≤ 4398046510976
  void : a = none → xs = [] ∧ cap = 0
  cells : ∀ ad, a = some ad → ∀ j u, (xs.flatMap D.enc)[j]? = some u → w.cell? (ad.add j) = some u
theorem Row.nil {α : Type} (D : Kd α) (w : World) : Row D w none 0 [] := ⟨Nat.le_refl _, by simp, fun _ => ⟨rfl, rfl⟩, fun _ h => by cases h⟩
theorem Row.below {α : Type} {D : Kd α} {w w' : World} {a : Option Addr} {cap : Nat} {xs : List α} {B : Nat} (h : Row D w a cap xs) (hb : Below B w w') (hB : w.heap.size ≤ B) : Row D w' a cap xs :=
  ⟨h.room, h.few, h.void, fun ad ha j u hu => by
    have hc := h.cells ad ha j u hu
    rw [hb.cell (Nat.lt_of_lt_of_le (cell_block hc) hB)]
    exact hc⟩
theorem Row.flat_one {α : Type} (D : Kd α) (xs : List α) : ∀ u ∈ xs.flatMap D.enc, u.oneCell' = true := by
  intro u hu
  obtain ⟨x, _, hx⟩ := List.mem_flatMap.1 hu
  exact List.all_eq_true.1 (D.one x) u hx
theorem Row.addr {α : Type} {D : Kd α} {w : World} {a : Option Addr} {cap : Nat} {xs : List α} (h : Row D w a cap xs) (hl : 0 < xs.length) : ∃ b o, a = some ⟨b, o, none⟩ := by
  cases a with
  | none => have := (h.void rfl).1; subst this; simp at hl
  | some ad =>
    have hj : 0 < (xs.flatMap D.enc).length := by rw [flat_len D.enc D.k D.len]; exact Nat.mul_pos hl D.pos
    have hc := h.cells ad rfl 0 _ (List.getElem?_eq_getElem hj)
    obtain ⟨b, o, sp⟩ := ad
    have : sp = none := by simpa [Addr.add] using World.cell?_spot hc
    subst this
    exact ⟨b, o, rfl⟩
/-- the cells of one record -/
theorem Row.range {α : Type} {D : Kd α} {w : World} {b o cap : Nat} {xs : List α} (h : Row D w (some ⟨b, o, none⟩) cap xs) (i : Nat) (hi : i < xs.length) : w.rangeAt b (o + i * D.k) (D.enc xs[i]) := fun c v hv => by
  have hc : c < D.k := by have := (List.getElem?_eq_some_iff.1 hv).1; rwa [D.len] at this
  have := h.cells _ rfl (i * D.k + c) v (by rw [flat_get D.enc D.k D.len xs i c hi hc, hv])
  rw [Addr.add_lit] at this
  rw [← this, Nat.add_assoc]
theorem Row.lt {α : Type} {D : Kd α} {w : World} {b o cap : Nat} {xs : List α} (h : Row D w (some ⟨b, o, none⟩) cap xs) (hl : 0 < xs.length) : b < w.heap.size := by
  have hj : 0 < (D.enc xs[0]).length := by rw [D.len]; exact D.pos
  exact cell_block (p := ⟨b, o + 0 * D.k + 0, none⟩) (h.range 0 hl 0 _ (List.getElem?_eq_getElem hj))

/-- it lies in a block of that type -/
def Tag (ty : TypeId) (w : World) (a : Option Addr) : Prop := ∀ ad, a = some ad → ∃ cur : Array Value, w.heap[ad.block]? = some (.cells cur ty)
/-- blocks of that type are as they were -/
def Safe (ty : TypeId) (w w' : World) : Prop := ∀ (k : Nat) (cur : Array Value), w.heap[k]? = some (.cells cur ty) → w'.heap[k]? = some (.cells cur ty)
theorem Safe.refl (ty : TypeId) (w : World) : Safe ty w w := fun _ _ h => h
theorem Safe.trans {ty : TypeId} {a b c : World} (x : Safe ty a b) (y : Safe ty b c) : Safe ty a c := fun k cur h => y k cur (x k cur h)
theorem Safe.below {ty : TypeId} {w w' : World} (h : Below w.heap.size w w') : Safe ty w w' := fun _ _ hk => below_heap h hk
theorem Safe.but {ty ty' : TypeId} {w w' : World} {R : Nat} {C : Array Value} (h : But R w w') (hR : w.heap[R]? = some (.cells C ty')) (hn : ty ≠ ty') : Safe ty w w' := fun k cur hk => by
  refine h.heap (fun e => ?_) hk
  subst e; rw [hR] at hk; cases hk; exact hn rfl
theorem Safe.fresh {ty : TypeId} {w w' : World} {R : Nat} (h : But R w w') (hR : w.heap.size ≤ R) : Safe ty w w' := fun k cur hk => h.heap (by have := heap_lt hk; omega) hk
theorem Safe.grown {ty ty' : TypeId} {w w' : World} {base k n : Nat} {v : Value} {xs : List Value} (hown : w.ownsRow base ty' k v n xs) (hg : w.grownBy w' v.ownBlock) (hn : ty ≠ ty') : Safe ty w w' := fun j cur hj => by
  rw [hg.block j (heap_lt hj) (fun e => ?_)]
  · exact hj
  · rcases hown.2 with ⟨h0, _⟩ | ⟨g, cap, cur', hv, _, hh, _⟩
    · rw [h0] at e; cases e
    · rw [hv] at e
      have e' : j = g := by cases e; rfl
      rw [e', hh] at hj
      cases hj; exact hn rfl

/-- a row of records in a block of its type -/
structure RowT {α : Type} (D : Kd α) (ty : TypeId) (w : World) (a : Option Addr) (cap : Nat) (xs : List α) : Prop where
  row : Row D w a cap xs
  tag : Tag ty w a
theorem RowT.nil {α : Type} (D : Kd α) (ty : TypeId) (w : World) : RowT D ty w none 0 [] := ⟨Row.nil D w, fun _ h => by cases h⟩
theorem addr_add_block (a : Addr) (n : Nat) : (a.add n).block = a.block := by unfold Addr.add; split <;> rfl
theorem RowT.safe {α : Type} {D : Kd α} {ty : TypeId} {w w' : World} {a : Option Addr} {cap : Nat} {xs : List α} (h : RowT D ty w a cap xs) (s : Safe ty w w') : RowT D ty w' a cap xs :=
  ⟨⟨h.row.room, h.row.few, h.row.void, fun ad ha j u hu => by
      obtain ⟨cur, hc⟩ := h.tag ad ha
      rw [← h.row.cells ad ha j u hu]
      exact World.cell?_of_block (w := w) (by rw [addr_add_block, s _ _ hc, hc])⟩, fun ad ha => by
    obtain ⟨cur, hc⟩ := h.tag ad ha
    exact ⟨cur, s _ _ hc⟩⟩
theorem ownsRow_keep {w w' : World} {base : Nat} {e : TypeId} {size : Nat} {v : Value} {n : Nat} {xs : List Value} (h : w.ownsRow base e size v n xs) (hs : Safe e w w') : w'.ownsRow base e size v n xs := by
  obtain ⟨h1, h2⟩ := h
  refine ⟨h1, ?_⟩
  rcases h2 with h2 | ⟨g, cap, cur, hv, hg, hh, r⟩
  · exact .inl h2
  · exact .inr ⟨g, cap, cur, hv, hg, hs g cur hh, r⟩
theorem own_row {α : Type} {D : Kd α} {ty : TypeId} {w : World} {base : Nat} {v : Value} {n : Nat} {xs : List α} (h : w.ownsRow base ty D.k v n (xs.flatMap D.enc)) (hf : xs.length ≤ 4398046510976) :
    ∃ a c, v = .slice a xs.length c ∧ RowT D ty w a c xs ∧ ∀ ad, a = some ad → base ≤ ad.block := by
  have hn : xs.length = n := by
    have := h.1
    rw [flat_len D.enc D.k D.len] at this
    exact Nat.eq_of_mul_eq_mul_right D.pos this
  subst hn
  rcases h.2 with ⟨hv, h0⟩ | ⟨g, cap, cur, hv, hb, hg, hnc, hcm, hcs, ht⟩
  · have : xs = [] := List.eq_nil_of_length_eq_zero h0
    subst this
    exact ⟨none, 0, hv, RowT.nil D ty w, fun _ h => by cases h⟩
  · refine ⟨some ⟨g, 0, none⟩, cap, hv, ⟨⟨hnc, hf, (fun h => by cases h), fun ad ha j u hu => ?_⟩, fun ad ha => by cases ha; exact ⟨cur, hg⟩⟩, (fun ad ha => by cases ha; exact hb)⟩
    cases ha
    have hj : j < xs.length * D.k := by have := (List.getElem?_eq_some_iff.1 hu).1; rwa [flat_len D.enc D.k D.len] at this
    rw [← ht, List.getElem?_take, if_pos hj] at hu
    rw [Addr.add_lit, Nat.zero_add]
    simp only [World.cell?, hg]
    simpa using hu
theorem row_new {α : Type} (D : Kd α) (w : World) (c : Array Value) (t : TypeId) (x : α) (h : c.toList = D.enc x) : Row D (w.alloc (.cells c t)) (some ⟨w.heap.size, 0, none⟩) 1 [x] :=
  ⟨by simp, by simp, (fun h => by cases h), fun ad ha j u hu => by
    cases ha
    rw [Addr.add_lit, heap_cell (heap_alloc_new w _), Nat.zero_add, ← Array.getElem?_toList, h]
    simpa using hu⟩

/-- append(row, records...) -/
theorem wpList_append_rec {α : Type} {P : Program} (D : Kd α) (w : World) {ops : Array Oper} {rest : List Oper} {o : Oper} {a : Act} {Q : Exit → Act → World → Prop} (hgd : o.guard = none) (s x : Operand) (t e : TypeId)
    (ho : o.op = .call { callee := .builtin .append, args := #[s, x], argTypes := #[t, t] }) (z : Value) (bytes : Nat) (ht : P.underlying t = some (.slice e)) (hinfo : (P.info? e).map (fun i => (i.zero, i.size, i.bytes)) = some (some z, D.k, bytes)) (hzs : z.cells.size = D.k) (hby : bytes ≤ 160)
    (base : Nat) (v : Value) (ys xs : List α) (ao : Option Addr) (m c : Nat) (hs : a.eval s = v) (hown : w.ownsRow base e D.k v ys.length (ys.flatMap D.enc)) (hx : a.eval x = .slice ao m c) (hm : xs.length = m) (hl : Row D w ao c xs) (hbase : base ≤ w.heap.size)
    (hfew : ys.length + xs.length ≤ 879609302220)
    (h : ∀ v' w', w'.ownsRow base e D.k v' (ys ++ xs).length ((ys ++ xs).flatMap D.enc) → w.grownBy w' v.ownBlock → wpList P ops Q rest (a.put o.dst v') w') : wpList P ops Q (o :: rest) a w := by
  obtain ⟨i0, hi, hz0, hz1, hz2⟩ := info_parts hinfo
  subst hm
  cases ao with
  | none =>
    obtain ⟨rfl, rfl⟩ := hl.void rfl
    refine wpList_append_own_none hgd s x t ho base e i0 D.k ht hi _ ys.length _ hs hown hx ?_
    rw [hs] at *
    exact h v w (by simpa using hown) ⟨rfl, rfl, rfl, Nat.le_refl _, fun _ _ _ => rfl⟩
  | some ad =>
    refine wpList_append_own w hgd s x t ho base e i0 z D.k bytes ht hi hz0 hz1 hz2 hzs D.pos _ ys.length _ hs hown ad xs.length c (xs.flatMap D.enc) hx (flat_len D.enc D.k D.len xs) (hl.cells ad rfl) (Row.flat_one D xs) (by unfold maxLen; omega) ?_ hbase ?_
    · refine Nat.le_trans (Nat.mul_le_mul hfew hby) (by decide)
    intro v' w' ho' hg' hn'
    exact h v' w' (by rw [List.length_append, List.flatMap_append]; exact ho') hg'
/-- the block just made was stored into -/
theorem below_tok {w w' : World} {o : Obj} (b : But w.heap.size (w.alloc o) w') : Below w.heap.size w w' := (below_alloc w o).trans (b.lower (Nat.le_refl _) (below_alloc w o).size)

end Go.Proofs.Ytomiefhfkdfgbaa
