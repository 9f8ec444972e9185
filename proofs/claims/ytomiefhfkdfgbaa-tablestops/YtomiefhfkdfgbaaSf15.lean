/-
  Rows of facts in memory: what is wanted of wip/sets where the program's own sets are not called.
-/
import Derived.Test.YtomiefhfkdfgbaaOrd
import Derived.Test.YtomiefhfkdfgbaaFb
import Derived.Deep.MidRow
import Derived.Shelf.SlSortCmp.QuietGrown
import Derived.Lib.SliceRun
namespace Go.Proofs.Ytomiefhfkdfgbaa
open Go.RowKit Go.Sort

theorem flat_spot {α β : Type} (f : α → List β) (k : Nat) (hk : ∀ x, (f x).length = k) (l : List α) (j : Nat) (u : β) (h : (l.flatMap f)[j]? = some u) : ∃ i c, ∃ hi : i < l.length, c < k ∧ j = i * k + c ∧ (f l[i])[c]? = some u := by
  have hj := (List.getElem?_eq_some_iff.1 h).1
  rw [flat_len f k hk] at hj
  have hk0 : 0 < k := by rcases Nat.eq_zero_or_pos k with rfl | h0; · simp at hj
                         · exact h0
  have hd := Nat.div_add_mod' j k
  have hi : j / k < l.length := Nat.div_lt_of_lt_mul (by rw [Nat.mul_comm]; exact hj)
  refine ⟨j / k, j % k, hi, Nat.mod_lt _ hk0, by omega, ?_⟩
  rw [← flat_get f k hk l (j / k) (j % k) hi (Nat.mod_lt _ hk0), hd, h]
theorem results_row {P : Program} {fn : Func} {p : Tmp} {ty : TypeId} {tmps : Array Value} {w : World} {b o : Nat} {cs : List Value} {d : TypeDesc} (h : fn.results = #[.cell p ty]) (hp : tmps.getD p undef = .pointer (some ⟨b, o, none⟩)) (hc : w.rangeAt b o cs)
    (hu : P.underlying ty = some d) (hd : d.isRow = true) (hi : (P.info? ty).map (·.size) = some cs.length) : (results fn tmps).run P w = .ok (.agg cs.toArray) w := by
  simp only [Array.getD_eq_getD_getElem?] at hp
  simp only [results, h]
  simp [asAddr, hp, run_loadVar_mid w b o ty cs d hc hu hd hi]
theorem range_new (w : World) (c : Array Value) (t : TypeId) (cs : List Value) (h : c.toList = cs) : (w.alloc (.cells c t)).rangeAt w.heap.size 0 cs := fun j v hv => by
  subst h
  simp at hv
  simp [hv]
theorem Try.infoK : (Try.prog.info? 50).map (fun i => (i.zero, i.size, i.bytes)) = some (some (.agg #[.bool false, .int .i64 0, .string .empty]), 3, 32) := by kernel_rfl
theorem Try.infoF : (Try.prog.info? 34).map (fun i => (i.zero, i.size, i.bytes)) = some (some (.agg #[.string .empty, .string .empty, .string .empty, .slice none 0 0]), 4, 72) := by kernel_rfl
/-- a row of constants of the call's own -/
theorem own_args {w : World} {base : Nat} {v : Value} {n : Nat} {ks : List K} (h : w.ownsRow base 50 3 v n (kcells ks)) (hf : ks.length ≤ 4398046510976) :
    ∃ a c, v = .slice a ks.length c ∧ ArgsAt w a c ks ∧ ∀ ad, a = some ad → base ≤ ad.block := by
  have hn : ks.length = n := by have := h.1; rw [kcells_len] at this; omega
  subst hn
  rcases h.2 with ⟨hv, h0⟩ | ⟨g, cap, cur, hv, hb, hg, hnc, hcm, hcs, ht⟩
  · have : ks = [] := List.eq_nil_of_length_eq_zero h0
    subst this
    exact ⟨none, 0, hv, ArgsAt.nil w, fun _ h => by cases h⟩
  · refine ⟨some ⟨g, 0, none⟩, cap, hv, ⟨hnc, hf, (fun h => by cases h), fun ad ha j u hu => ?_⟩, (fun ad ha => by cases ha; exact hb)⟩
    cases ha
    have hj : j < ks.length * 3 := by have := (List.getElem?_eq_some_iff.1 hu).1; rwa [kcells_len] at this
    rw [← ht, List.getElem?_take, if_pos hj] at hu
    rw [Addr.add_lit, Nat.zero_add]
    simp only [World.cell?, hg]
    simpa using hu
/-- Args lie in a block of constants -/
def TagK (w : World) (a : Option Addr) : Prop := ∀ ad, a = some ad → ∃ cur : Array Value, w.heap[ad.block]? = some (.cells cur 50)
theorem TagK.below {w w' : World} {a : Option Addr} (h : TagK w a) (hb : Below w.heap.size w w') : TagK w' a := fun ad ha => by
  obtain ⟨cur, hc⟩ := h ad ha
  exact ⟨cur, (hb.block _ (heap_lt hc)).trans hc⟩
theorem TagK.setCell {w : World} {a : Option Addr} (h : TagK w a) (p : Addr) (u : Value) (hp : ∀ ad, a = some ad → ad.block ≠ p.block) : TagK (w.setCell p u) a := fun ad ha => by
  obtain ⟨cur, hc⟩ := h ad ha
  exact ⟨cur, (Below.heap_setCell w p u _ (hp ad ha)).trans hc⟩
theorem own_args_tag {w : World} {base : Nat} {a : Option Addr} {m c n : Nat} {ks : List K} (h : w.ownsRow base 50 3 (.slice a m c) n (kcells ks)) : TagK w a := fun ad ha => by
  rcases h.2 with ⟨h0, _⟩ | ⟨g, cap, cur, hv, _, hh, _⟩
  · cases h0; cases ha
  · cases hv; cases ha; exact ⟨cur, hh⟩
/-- append([]Const(nil), args...) -/
theorem wpList_append_ks (w : World) {ops : Array Oper} {rest : List Oper} {o : Oper} {a : Act} {Q : Exit → Act → World → Prop} (hgd : o.guard = none) (s x : Operand)
    (ho : o.op = .call { callee := .builtin .append, args := #[s, x], argTypes := #[32, 32] })
    (ks : List K) (ao : Option Addr) (c : Nat) (hs : a.eval s = .slice none 0 0) (hx : a.eval x = .slice ao ks.length c) (hl : ArgsAt w ao c ks)
    (h : ∀ a' c' w', ArgsAt w' a' c' ks → (∀ ad, a' = some ad → w.heap.size ≤ ad.block) → Below w.heap.size w w' → TagK w' a' → wpList Try.prog ops Q rest (a.put o.dst (.slice a' ks.length c')) w') : wpList Try.prog ops Q (o :: rest) a w := by
  obtain ⟨i0, hi, hz0, hz1, hz2⟩ := info_parts Try.infoK
  have hown : w.ownsRow w.heap.size 50 3 (.slice none 0 0) 0 (kcells []) := ⟨rfl, .inl ⟨rfl, rfl⟩⟩
  cases ao with
  | none =>
    obtain ⟨rfl, rfl⟩ := hl.void rfl
    exact wpList_append_own_none hgd s x 32 ho w.heap.size 50 i0 3 Try.underlying32 hi _ 0 (kcells []) hs hown hx (h none 0 w (ArgsAt.nil w) (fun _ h => by cases h) (Below.refl _ _) (fun _ h => by cases h))
  | some ad =>
    have hf := hl.few
    refine wpList_append_own w hgd s x 32 ho w.heap.size 50 i0 _ 3 32 Try.underlying32 hi hz0 hz1 hz2 rfl (by decide) _ 0 (kcells []) hs hown ad ks.length c (kcells ks) hx (kcells_len ks) (hl.cells ad rfl) (kcells_one ks) (by unfold maxLen; omega) (by omega) (Nat.le_refl _) ?_
    intro v' w' ho' hg' hn'
    have hbel : Below w.heap.size w w' := (Below.refl _ _).grown hg' (Nat.le_refl _) (fun k hk => by cases hk)
    have ho2 : w'.ownsRow w.heap.size 50 3 v' (0 + ks.length) (kcells ks) := by simpa [kcells] using ho'
    obtain ⟨a', c', rfl, hA, hF⟩ := own_args (ks := ks) ho2 hf
    exact h a' c' w' hA hF hbel (own_args_tag ho2)
theorem ArgsAt.setCell {w : World} {a : Option Addr} {c : Nat} {ks : List K} (h : ArgsAt w a c ks) (p : Addr) (u : Value) (hp : ∀ ad, a = some ad → ad.block ≠ p.block) : ArgsAt (w.setCell p u) a c ks :=
  ⟨h.room, h.few, h.void, fun ad ha j v hv => by
    rw [← h.cells ad ha j v hv]
    exact World.cell?_of_block (w := w) (Below.heap_setCell w p u _ (by rw [addr_add_block]; exact hp ad ha))⟩
theorem heap_alloc2 (w : World) (o1 o2 : Obj) : ((w.alloc o1).alloc o2).heap[w.heap.size]? = some o1 ∧ ((w.alloc o1).alloc o2).heap[w.heap.size + 1]? = some o2 := by
  refine ⟨(Below.heap_alloc _ _ _ (by simp)).trans (heap_alloc_new w _), ?_⟩
  have := heap_alloc_new (w.alloc o1) o2
  rwa [show (w.alloc o1).heap.size = w.heap.size + 1 by simp] at this
theorem lies_new (w : World) (c : Array Value) (t : TypeId) (xs : List Fv) (h : c.toList = fcells xs) (hf : xs.length ≤ 1954687338211) : Lies (w.alloc (.cells c t)) (some ⟨w.heap.size, 0, none⟩) xs.length xs :=
  ⟨Nat.le_refl _, by unfold maxLen; omega, hf, (fun h => by cases h), fun ad ha j u hu => by
    cases ha
    rw [Addr.add_lit, heap_cell (heap_alloc_new w _), Nat.zero_add, ← Array.getElem?_toList, h]
    exact hu⟩
theorem But.cell {h : Nat} {w w' : World} (x : But h w w') {p : Addr} (hp : p.block ≠ h) (hs : p.block < w.heap.size) : w'.cell? p = w.cell? p := World.cell?_of_block (w := w) (x.block p.block hs hp)
/-- A ROW OF FACTS from the head of block b on, that may be written -/
def RowF (w : World) (b : Nat) (xs : List Fv) : Prop := ∀ i (hi : i < xs.length) c, c < 4 → w.cell? ⟨b, i * 4 + c, none⟩ = (fv xs[i])[c]? ∧ w.frozen? ⟨b, i * 4 + c, none⟩ = false
theorem RowF.below {w w' : World} {b : Nat} {xs : List Fv} {B : Nat} (h : RowF w b xs) (hb : Below B w w') (hB : b < B) : RowF w' b xs := fun i hi c hc => by
  rw [hb.cell (p := ⟨b, i * 4 + c, none⟩) hB, hb.frozen (p := ⟨b, i * 4 + c, none⟩) hB]; exact h i hi c hc
theorem RowF.lt {w : World} {b : Nat} {xs : List Fv} (h : RowF w b xs) (h0 : 0 < xs.length) : b < w.heap.size := by
  have := (h 0 h0 0 (by omega)).1
  exact cell_block (p := ⟨b, 0 * 4 + 0, none⟩) (v := str xs[0].at_) (by rw [this]; rfl)
theorem RowF.cells {w : World} {b : Nat} {xs : List Fv} (h : RowF w b xs) : ∀ j u, (fcells xs)[j]? = some u → w.cell? ((⟨b, 0, none⟩ : Addr).add j) = some u := fun j u hu => by
  obtain ⟨i, c, hi, hc, rfl, hv⟩ := flat_spot fv 4 fv_len xs j u hu
  rw [Addr.add_lit, Nat.zero_add, (h i hi c hc).1, hv]
theorem RowF.lies {w : World} {b cap : Nat} {xs : List Fv} (h : RowF w b xs) (h1 : xs.length ≤ cap) (h2 : cap ≤ maxLen) (h3 : xs.length ≤ 1954687338211) : Lies w (some ⟨b, 0, none⟩) cap xs :=
  ⟨h1, h2, h3, fun h => (by cases h), fun ad ha => by cases ha; exact h.cells⟩
theorem RowF.get {w : World} {b : Nat} {xs : List Fv} (h : RowF w b xs) (i : Nat) (hi : i < xs.length) :
    w.cell? ⟨b, i * 4, none⟩ = some (str xs[i].at_) ∧ w.cell? ⟨b, i * 4 + 1, none⟩ = some (str xs[i].by_) ∧ w.cell? ⟨b, i * 4 + 2, none⟩ = some (str xs[i].pred) ∧ w.cell? ⟨b, i * 4 + 3, none⟩ = some (.slice xs[i].a xs[i].ks.length xs[i].cap) :=
  ⟨(h i hi 0 (by omega)).1, (h i hi 1 (by omega)).1, (h i hi 2 (by omega)).1, (h i hi 3 (by omega)).1⟩
theorem RowF.thaw {w : World} {b : Nat} {xs : List Fv} (h : RowF w b xs) (i : Nat) (hi : i < xs.length) :
    w.frozen? ⟨b, i * 4, none⟩ = false ∧ w.frozen? ⟨b, i * 4 + 1, none⟩ = false ∧ w.frozen? ⟨b, i * 4 + 2, none⟩ = false ∧ w.frozen? ⟨b, i * 4 + 3, none⟩ = false :=
  ⟨(h i hi 0 (by omega)).2, (h i hi 1 (by omega)).2, (h i hi 2 (by omega)).2, (h i hi 3 (by omega)).2⟩
/-- a fact whose Args lie in w0 -/
abbrev In (w0 : World) : Type := { x : Fv // Fv.At w0 x }
def noIn (w0 : World) : In w0 := ⟨nof, ArgsAt.nil w0⟩
abbrev encIn (w0 : World) (x : In w0) : List Value := fv x.1
def allIn (w0 : World) (xs : List Fv) (h : ∀ x ∈ xs, Fv.At w0 x) : List (In w0) := xs.pmap Subtype.mk h
theorem allIn_val (w0 : World) (xs : List Fv) (h : ∀ x ∈ xs, Fv.At w0 x) : (allIn w0 xs h).map (·.1) = xs := by
  unfold allIn; rw [List.map_pmap]; simp
theorem RowF.take {w : World} {b : Nat} {xs ys : List Fv} (h : RowF w b (xs ++ ys)) : RowF w b xs := fun i hi c hc => by
  have := h i (by rw [List.length_append]; omega) c hc
  rwa [List.getElem_append_left hi] at this
theorem RowF.some {w : World} {b : Nat} {xs : List Fv} (h : RowF w b xs) (j : Nat) (hj : j < xs.length * 4) : (w.cell? ⟨b, j, none⟩).isSome = true ∧ w.frozen? ⟨b, j, none⟩ = false := by
  have := h (j / 4) (by omega) (j % 4) (Nat.mod_lt _ (by decide))
  rw [show j / 4 * 4 + j % 4 = j by omega] at this
  refine ⟨?_, this.2⟩
  rw [this.1, List.getElem?_eq_getElem (by rw [fv_len]; omega)]; rfl
/-- a slice of facts in a row of the call's own, or nil -/
structure OwF (w : World) (base : Nat) (a : Option Addr) (cap : Nat) (xs : List Fv) : Prop where
  room : xs.length ≤ cap
  most : cap ≤ maxLen
  few : xs.length ≤ 1954687338211
  void : a = none → xs = [] ∧ cap = 0
  row : ∀ ad, a = some ad → ∃ g, ad = ⟨g, 0, none⟩ ∧ base ≤ g ∧ g < w.heap.size ∧ RowF w g xs
theorem OwF.nil (w : World) (base : Nat) : OwF w base none 0 [] := ⟨Nat.le_refl _, by simp, by simp, fun _ => ⟨rfl, rfl⟩, fun _ h => by cases h⟩
theorem OwF.lies {w : World} {base : Nat} {a : Option Addr} {cap : Nat} {xs : List Fv} (h : OwF w base a cap xs) : Lies w a cap xs :=
  ⟨h.room, h.most, h.few, h.void, fun ad ha => by obtain ⟨g, rfl, _, _, hr⟩ := h.row ad ha; exact hr.cells⟩
theorem OwF.below {w w' : World} {base : Nat} {a : Option Addr} {cap : Nat} {xs : List Fv} (h : OwF w base a cap xs) (hb : Below w.heap.size w w') : OwF w' base a cap xs :=
  ⟨h.room, h.most, h.few, h.void, fun ad ha => by obtain ⟨g, rfl, h1, h2, hr⟩ := h.row ad ha; exact ⟨g, rfl, h1, Nat.lt_of_lt_of_le h2 hb.size, hr.below hb h2⟩⟩
theorem OwF.lower {w : World} {base base' : Nat} {a : Option Addr} {cap : Nat} {xs : List Fv} (h : OwF w base a cap xs) (hb : base' ≤ base) : OwF w base' a cap xs :=
  ⟨h.room, h.most, h.few, h.void, fun ad ha => by obtain ⟨g, rfl, h1, h2, hr⟩ := h.row ad ha; exact ⟨g, rfl, Nat.le_trans hb h1, h2, hr⟩⟩
/-- a row of facts of the call's own -/
theorem own_facts {w : World} {base : Nat} {v : Value} {n : Nat} {xs : List Fv} (h : w.ownsRow base 34 4 v n (fcells xs)) (hf : xs.length ≤ 1954687338211) :
    ∃ a c, v = .slice a xs.length c ∧ OwF w base a c xs := by
  have hn : xs.length = n := by have := h.1; rw [fcells_len] at this; omega
  subst hn
  rcases h.2 with ⟨hv, h0⟩ | ⟨g, cap, cur, hv, hb, hg, hnc, hcm, hcs, ht⟩
  · have : xs = [] := List.eq_nil_of_length_eq_zero h0
    subst this
    exact ⟨none, 0, hv, OwF.nil w base⟩
  · have hgs : g < w.heap.size := by
      rcases Nat.lt_or_ge g w.heap.size with h' | h'
      · exact h'
      · simp [h'] at hg
    refine ⟨some ⟨g, 0, none⟩, cap, hv, ⟨hnc, hcm, hf, (fun h => by cases h), fun ad ha => ?_⟩⟩
    cases ha
    refine ⟨g, rfl, hb, hgs, fun i hi c hc => ?_⟩
    refine ⟨?_, heap_frozen hg _⟩
    have h1 := flat_get fv 4 fv_len xs i c hi hc
    have hj : i * 4 + c < xs.length * 4 := by omega
    rw [heap_cell hg, ← h1]
    show _ = (fcells xs)[i * 4 + c]?
    rw [← ht, List.getElem?_take, if_pos hj, Array.getElem?_toList]
/-- append(row, facts...) of rows that the call owns -/
theorem wpList_append_fs (w : World) {ops : Array Oper} {rest : List Oper} {o : Oper} {a : Act} {Q : Exit → Act → World → Prop} (hgd : o.guard = none) (s x : Operand)
    (ho : o.op = .call { callee := .builtin .append, args := #[s, x], argTypes := #[41, 41] })
    (base : Nat) (v : Value) (ys xs : List Fv) (ao : Option Addr) (c : Nat) (hs : a.eval s = v) (hown : w.ownsRow base 34 4 v ys.length (fcells ys)) (hx : a.eval x = .slice ao xs.length c) (hl : Lies w ao c xs) (hbase : base ≤ w.heap.size)
    (hfew : ys.length + xs.length ≤ 1954687338211)
    (h : ∀ v' w', w'.ownsRow base 34 4 v' (ys ++ xs).length (fcells (ys ++ xs)) → w.grownBy w' v.ownBlock → wpList Try.prog ops Q rest (a.put o.dst v') w') : wpList Try.prog ops Q (o :: rest) a w := by
  obtain ⟨i0, hi, hz0, hz1, hz2⟩ := info_parts Try.infoF
  cases ao with
  | none =>
    obtain ⟨rfl, rfl⟩ := hl.void rfl
    refine wpList_append_own_none hgd s x 41 ho base 34 i0 4 Try.underlying41 hi _ ys.length (fcells ys) hs hown hx ?_
    rw [hs] at *
    exact h v w (by simpa using hown) ⟨rfl, rfl, rfl, Nat.le_refl _, fun _ _ _ => rfl⟩
  | some ad =>
    refine wpList_append_own w hgd s x 41 ho base 34 i0 _ 4 72 Try.underlying41 hi hz0 hz1 hz2 rfl (by decide) _ ys.length (fcells ys) hs hown ad xs.length c (fcells xs) hx (fcells_len xs) (hl.cells ad rfl) (fcells_one xs) (by unfold maxLen; omega) (by omega) hbase ?_
    intro v' w' ho' hg' hn'
    exact h v' w' (by rw [List.length_append, fcells_append]; exact ho') hg'
/-- a fact's Args lie in another block than g -/
def Fv.Apart (g : Nat) (x : Fv) : Prop := ∀ ad, x.a = some ad → ad.block ≠ g
theorem Fv.At.but {w w' : World} {x : Fv} {g : Nat} (h : Fv.At w x) (ho : Fv.Apart g x) (hb : But g w w') : Fv.At w' x :=
  ⟨h.room, h.few, h.void, fun ad ha j u hu => by
    have hc := h.cells ad ha j u hu
    rw [hb.cell (by rw [addr_add_block]; exact ho ad ha) (cell_block hc)]
    exact hc⟩
/-- .. in memory that is no older than base -/
def Fv.New (base : Nat) (x : Fv) : Prop := ∀ ad, x.a = some ad → base ≤ ad.block
theorem TagK.but {w w' : World} {a : Option Addr} {g : Nat} (h : TagK w a) (ho : ∀ ad, a = some ad → ad.block ≠ g) (hb : But g w w') : TagK w' a := fun ad ha => by
  obtain ⟨cur, hc⟩ := h ad ha
  exact ⟨cur, (hb.block _ (heap_lt hc) (ho ad ha)).trans hc⟩
end Go.Proofs.Ytomiefhfkdfgbaa
