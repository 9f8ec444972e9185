/-
  Facts are made: constants and Args in memory of the call's own.
-/
import Derived.Deep.MidRow
import Derived.Shelf.SlSortCmp.WholeK
import Derived.Shelf.SlSortCmp.NoneTotal
import Derived.Lib.SliceRun
import Derived.Shelf.SlSortCmp.QuietGrown
import Derived.Test.YtpdmmmdkpipmkaaGreatDoorQShelf3
namespace Go.Proofs.YtpdmmmdkpipmkaaGreatDoor
open Go.RowKit Go.Sort

theorem flat_spot {α β : Type} (f : α → List β) (k : Nat) (hk : ∀ x, (f x).length = k) (l : List α) (j : Nat) (u : β) (h : (l.flatMap f)[j]? = some u) : ∃ i c, ∃ hi : i < l.length, c < k ∧ j = i * k + c ∧ (f l[i])[c]? = some u := by
  have hj := (List.getElem?_eq_some_iff.1 h).1
  rw [flat_len f k hk] at hj
  have hk0 : 0 < k := by rcases Nat.eq_zero_or_pos k with rfl | h0; · simp at hj
                         · exact h0
  have hd := Nat.div_add_mod' j k
  have hi : j / k < l.length := Nat.div_lt_of_lt_mul (by rw [Nat.mul_comm]; exact hj)
  refine ⟨j / k, j % k, hi, Nat.mod_lt _ hk0, by omega, ?_⟩
  rw [← flat_get f k hk l (j / k) (j % k) hi (Nat.mod_lt _ hk0), hd, h]

theorem results_row {P : Program} {fn : Func} {p : Tmp} {ty : TypeId} {tmps : Array Value} {w : World} {b o : Nat} {cs : List Value} {d : TypeDesc} (h : fn.results = #[.cell p ty]) (hp : tmps.getD p undef = .pointer (some ⟨b, o, none⟩)) (hc : w.rangeAt b o cs)
    (hu : P.underlying ty = some d) (hd : d.isRow = true) (hi : (P.info? ty).map (·.size) = some cs.length) : (results fn tmps).run P w = .ok (.agg cs.toArray) w := by
  simp only [Array.getD_eq_getD_getElem?] at hp
  simp only [results, h]
  simp [asAddr, hp, run_loadVar_mid w b o ty cs d hc hu hd hi]

theorem range_new (w : World) (c : Array Value) (t : TypeId) (cs : List Value) (h : c.toList = cs) : (w.alloc (.cells c t)).rangeAt w.heap.size 0 cs := fun j v hv => by
  subst h
  simp at hv
  simp [hv]

theorem Tryz.infoK : (Tryz.prog.info? 42).map (fun i => (i.zero, i.size, i.bytes)) = some (some (.agg #[.bool false, .int .i64 0, .string .empty]), 3, 32) := by kernel_rfl
theorem Tryz.infoF : (Tryz.prog.info? 37).map (fun i => (i.zero, i.size, i.bytes)) = some (some (.agg #[.string .empty, .string .empty, .string .empty, .slice none 0 0]), 4, 72) := by kernel_rfl

/-- a row of constants of the call's own -/
theorem own_args {w : World} {base : Nat} {v : Value} {n : Nat} {ks : List K} (h : w.ownsRow base 42 3 v n (kcells ks)) (hf : ks.length ≤ 4398046510976) :
    ∃ a c, v = .slice a ks.length c ∧ ArgsAt w a c ks ∧ ∀ ad, a = some ad → base ≤ ad.block := by
  have hn : ks.length = n := by have := h.1; rw [kcells_len] at this; omega
  subst hn
  rcases h.2 with ⟨hv, h0⟩ | ⟨g, cap, cur, hv, hb, hg, hnc, hcm, hcs, ht⟩
  · have : ks = [] := List.eq_nil_of_length_eq_zero h0
    subst this
    exact ⟨none, 0, hv, ArgsAt.nil w, fun _ h => by cases h⟩
  · refine ⟨some ⟨g, 0, none⟩, cap, hv, ⟨hnc, hf, (fun h => by cases h), fun ad ha j u hu => ?_⟩, (fun ad ha => by cases ha; exact hb)⟩
    cases ha
    have hj : j < ks.length * 3 := by have := (List.getElem?_eq_some_iff.1 hu).1; rwa [kcells_len] at this
    rw [← ht, List.getElem?_take, if_pos hj] at hu
    rw [Addr.add_lit, Nat.zero_add]
    simp only [World.cell?, hg]
    simpa using hu

/-- Args lie in a block of constants -/
def TagK (w : World) (a : Option Addr) : Prop := ∀ ad, a = some ad → ∃ cur : Array Value, w.heap[ad.block]? = some (.cells cur 42)
theorem TagK.below {w w' : World} {a : Option Addr} (h : TagK w a) (hb : Below w.heap.size w w') : TagK w' a := fun ad ha => by
  obtain ⟨cur, hc⟩ := h ad ha
  exact ⟨cur, (hb.block _ (heap_lt hc)).trans hc⟩
theorem TagK.setCell {w : World} {a : Option Addr} (h : TagK w a) (p : Addr) (u : Value) (hp : ∀ ad, a = some ad → ad.block ≠ p.block) : TagK (w.setCell p u) a := fun ad ha => by
  obtain ⟨cur, hc⟩ := h ad ha
  exact ⟨cur, (Below.heap_setCell w p u _ (hp ad ha)).trans hc⟩
theorem own_args_tag {w : World} {base : Nat} {a : Option Addr} {m c n : Nat} {ks : List K} (h : w.ownsRow base 42 3 (.slice a m c) n (kcells ks)) : TagK w a := fun ad ha => by
  rcases h.2 with ⟨h0, _⟩ | ⟨g, cap, cur, hv, _, hh, _⟩
  · cases h0; cases ha
  · cases hv; cases ha; exact ⟨cur, hh⟩

/-- append([]Const(nil), args...) -/
theorem wpList_append_ks (w : World) {ops : Array Oper} {rest : List Oper} {o : Oper} {a : Act} {Q : Exit → Act → World → Prop} (hgd : o.guard = none) (s x : Operand)
    (ho : o.op = .call { callee := .builtin .append, args := #[s, x], argTypes := #[35, 35] })
    (ks : List K) (ao : Option Addr) (c : Nat) (hs : a.eval s = .slice none 0 0) (hx : a.eval x = .slice ao ks.length c) (hl : ArgsAt w ao c ks)
    (h : ∀ a' c' w', ArgsAt w' a' c' ks → (∀ ad, a' = some ad → w.heap.size ≤ ad.block) → Below w.heap.size w w' → TagK w' a' → wpList Tryz.prog ops Q rest (a.put o.dst (.slice a' ks.length c')) w') : wpList Tryz.prog ops Q (o :: rest) a w := by
  obtain ⟨i0, hi, hz0, hz1, hz2⟩ := info_parts Tryz.infoK
  have hown : w.ownsRow w.heap.size 42 3 (.slice none 0 0) 0 (kcells []) := ⟨rfl, .inl ⟨rfl, rfl⟩⟩
  cases ao with
  | none =>
    obtain ⟨rfl, rfl⟩ := hl.void rfl
    exact wpList_append_own_none hgd s x 35 ho w.heap.size 42 i0 3 Tryz.underlying35 hi _ 0 (kcells []) hs hown hx (h none 0 w (ArgsAt.nil w) (fun _ h => by cases h) (Below.refl _ _) (fun _ h => by cases h))
  | some ad =>
    have hf := hl.few
    refine wpList_append_own w hgd s x 35 ho w.heap.size 42 i0 _ 3 32 Tryz.underlying35 hi hz0 hz1 hz2 rfl (by decide) _ 0 (kcells []) hs hown ad ks.length c (kcells ks) hx (kcells_len ks) (hl.cells ad rfl) (kcells_one ks) (by unfold maxLen; omega) (by omega) (Nat.le_refl _) ?_
    intro v' w' ho' hg' hn'
    have hbel : Below w.heap.size w w' := (Below.refl _ _).grown hg' (Nat.le_refl _) (fun k hk => by cases hk)
    have ho2 : w'.ownsRow w.heap.size 42 3 v' (0 + ks.length) (kcells ks) := by simpa [kcells] using ho'
    obtain ⟨a', c', rfl, hA, hF⟩ := own_args (ks := ks) ho2 hf
    exact h a' c' w' hA hF hbel (own_args_tag ho2)

theorem ArgsAt.setCell {w : World} {a : Option Addr} {c : Nat} {ks : List K} (h : ArgsAt w a c ks) (p : Addr) (u : Value) (hp : ∀ ad, a = some ad → ad.block ≠ p.block) : ArgsAt (w.setCell p u) a c ks :=
  ⟨h.room, h.few, h.void, fun ad ha j v hv => by
    rw [← h.cells ad ha j v hv]
    exact World.cell?_of_block (w := w) (Below.heap_setCell w p u _ (by rw [addr_add_block]; exact hp ad ha))⟩

theorem heap_alloc2 (w : World) (o1 o2 : Obj) : ((w.alloc o1).alloc o2).heap[w.heap.size]? = some o1 ∧ ((w.alloc o1).alloc o2).heap[w.heap.size + 1]? = some o2 := by
  refine ⟨(Below.heap_alloc _ _ _ (by simp)).trans (heap_alloc_new w _), ?_⟩
  have := heap_alloc_new (w.alloc o1) o2
  rwa [show (w.alloc o1).heap.size = w.heap.size + 1 by simp] at this

set_option maxHeartbeats 1000000 in
theorem clone_at (x : Fv) (w : World) (hx : Fv.At w x) : Calls Tryz.prog 63 #[x.val] w fun e w' => ∃ a c, e = .returned (Fv.val { x with a := a, cap := c }) ∧ ArgsAt w' a c x.ks ∧ (∀ ad, a = some ad → w.heap.size ≤ ad.block) ∧ Below w.heap.size w w' ∧ TagK w' a := by
  obtain ⟨x1, x2, x3, xa, xc, xk⟩ := x
  have hx : ArgsAt w xa xc xk := hx
  have hx1 : ∀ o o' : Obj, ArgsAt ((w.alloc o).alloc o') xa xc xk := fun o o' => hx.below (B := w.heap.size) ((below_alloc _ _).alloc (by simp) _) (Nat.le_refl _)
  go_enter Tryz.func63, Tryz.ntmps63
  go_wp2_with (at_builtin; refine wpList_append_ks _ rfl _ _ rfl xk xa xc rfl rfl (hx1 _ _) ?ap)
  case ap =>
    intro a' c' w' hA hF hB hT
    have h1 : w'.heap[w.heap.size]? = some (.cells #[str x1, str x2, str x3, .slice xa xk.length xc] 37) := (hB.block _ (by omega)).trans (heap_alloc2 _ _ _).1
    have h2 : w'.heap[w.heap.size + 1]? = some (.cells #[.string .empty, .string .empty, .string .empty, .slice none 0 0] 37) := (hB.block _ (by omega)).trans (heap_alloc2 _ _ _).2
    have b0 := heap_cell h1 0; have b1 := heap_cell h1 1; have b2 := heap_cell h1 2; have b3 := heap_cell h1 3; have b4 := heap_frozen h1 3
    have d0 := heap_cell h2 0; have d1 := heap_cell h2 1; have d2 := heap_cell h2 2; have d3 := heap_cell h2 3
    have e0 := heap_frozen h2 0; have e1 := heap_frozen h2 1; have e2 := heap_frozen h2 2; have e3 := heap_frozen h2 3
    simp at b0 b1 b2 b3 d0 d1 d2 d3
    have hBw : Below w.heap.size w w' := ((below_alloc _ _).alloc (by simp) _).trans (hB.mono (by omega))
    clear h1 h2 hB
    go_wp2_with fail
    refine bodyPost_ret (results_row (b := w.heap.size + 1) (o := 0) (cs := fv ⟨x1, x2, x3, a', c', xk⟩) rfl rfl ?_ Tryz.underlying37 rfl (by kernel_rfl)) rfl ⟨a', c', rfl, ?_, fun ad ha => by have := hF ad ha; omega, ?_, ?_⟩
    · intro j v hv
      match j, hv with
      | 0, hv => simp [fv] at hv; subst hv; simp [World.cell?_setCell_other, World.cell?_setCell_same', d0]
      | 1, hv => simp [fv] at hv; subst hv; simp [World.cell?_setCell_other, World.cell?_setCell_same', d1]
      | 2, hv => simp [fv] at hv; subst hv; simp [World.cell?_setCell_other, World.cell?_setCell_same', d2]
      | 3, hv => simp [fv] at hv; subst hv; simp [World.cell?_setCell_other, World.cell?_setCell_same', d3]
      | j + 4, hv => simp [fv] at hv
    · have hne : ∀ ad : Addr, a' = some ad → ad.block ≠ w.heap.size := fun ad ha => by have := hF ad ha; omega
      have hne' : ∀ ad : Addr, a' = some ad → ad.block ≠ w.heap.size + 1 := fun ad ha => by have := hF ad ha; omega
      exact ((((hA.setCell _ _ hne).setCell _ _ hne').setCell _ _ hne').setCell _ _ hne').setCell _ _ hne'
    · exact ((((hBw.setCell (p := ⟨w.heap.size, 3, none⟩) (Nat.le_refl _) _).setCell (p := ⟨w.heap.size + 1, 0, none⟩) (Nat.le_succ _) _).setCell (p := ⟨w.heap.size + 1, 1, none⟩) (Nat.le_succ _) _).setCell (p := ⟨w.heap.size + 1, 2, none⟩) (Nat.le_succ _) _).setCell (p := ⟨w.heap.size + 1, 3, none⟩) (Nat.le_succ _) _
    · have hne : ∀ ad : Addr, a' = some ad → ad.block ≠ w.heap.size := fun ad ha => by have := hF ad ha; omega
      have hne' : ∀ ad : Addr, a' = some ad → ad.block ≠ w.heap.size + 1 := fun ad ha => by have := hF ad ha; omega
      exact ((((hT.setCell _ _ hne).setCell _ _ hne').setCell _ _ hne').setCell _ _ hne').setCell _ _ hne'

theorem lies_new (w : World) (c : Array Value) (t : TypeId) (xs : List Fv) (h : c.toList = fcells xs) (hf : xs.length ≤ 1954687338211) : Lies (w.alloc (.cells c t)) (some ⟨w.heap.size, 0, none⟩) xs.length xs :=
  ⟨Nat.le_refl _, by unfold maxLen; omega, hf, (fun h => by cases h), fun ad ha j u hu => by
    cases ha
    rw [Addr.add_lit, heap_cell (heap_alloc_new w _), Nat.zero_add, ← Array.getElem?_toList, h]
    exact hu⟩

end Go.Proofs.YtpdmmmdkpipmkaaGreatDoor

/-
  Rows of facts in memory of the call's own; slices.SortFunc over them.
-/
namespace Go.Proofs.YtpdmmmdkpipmkaaGreatDoor
open Go.RowKit Go.Sort

theorem But.cell {h : Nat} {w w' : World} (x : But h w w') {p : Addr} (hp : p.block ≠ h) (hs : p.block < w.heap.size) : w'.cell? p = w.cell? p := World.cell?_of_block (w := w) (x.block p.block hs hp)

/-- A ROW OF FACTS from the head of block b on, that may be written -/
def RowF (w : World) (b : Nat) (xs : List Fv) : Prop := ∀ i (hi : i < xs.length) c, c < 4 → w.cell? ⟨b, i * 4 + c, none⟩ = (fv xs[i])[c]? ∧ w.frozen? ⟨b, i * 4 + c, none⟩ = false
theorem RowF.below {w w' : World} {b : Nat} {xs : List Fv} {B : Nat} (h : RowF w b xs) (hb : Below B w w') (hB : b < B) : RowF w' b xs := fun i hi c hc => by
  rw [hb.cell (p := ⟨b, i * 4 + c, none⟩) hB, hb.frozen (p := ⟨b, i * 4 + c, none⟩) hB]; exact h i hi c hc
theorem RowF.lt {w : World} {b : Nat} {xs : List Fv} (h : RowF w b xs) (h0 : 0 < xs.length) : b < w.heap.size := by
  have := (h 0 h0 0 (by omega)).1
  exact cell_block (p := ⟨b, 0 * 4 + 0, none⟩) (v := str xs[0].at_) (by rw [this]; rfl)
theorem RowF.cells {w : World} {b : Nat} {xs : List Fv} (h : RowF w b xs) : ∀ j u, (fcells xs)[j]? = some u → w.cell? ((⟨b, 0, none⟩ : Addr).add j) = some u := fun j u hu => by
  obtain ⟨i, c, hi, hc, rfl, hv⟩ := flat_spot fv 4 fv_len xs j u hu
  rw [Addr.add_lit, Nat.zero_add, (h i hi c hc).1, hv]
theorem RowF.lies {w : World} {b cap : Nat} {xs : List Fv} (h : RowF w b xs) (h1 : xs.length ≤ cap) (h2 : cap ≤ maxLen) (h3 : xs.length ≤ 1954687338211) : Lies w (some ⟨b, 0, none⟩) cap xs :=
  ⟨h1, h2, h3, fun h => (by cases h), fun ad ha => by cases ha; exact h.cells⟩
theorem RowF.get {w : World} {b : Nat} {xs : List Fv} (h : RowF w b xs) (i : Nat) (hi : i < xs.length) :
    w.cell? ⟨b, i * 4, none⟩ = some (str xs[i].at_) ∧ w.cell? ⟨b, i * 4 + 1, none⟩ = some (str xs[i].by_) ∧ w.cell? ⟨b, i * 4 + 2, none⟩ = some (str xs[i].pred) ∧ w.cell? ⟨b, i * 4 + 3, none⟩ = some (.slice xs[i].a xs[i].ks.length xs[i].cap) :=
  ⟨(h i hi 0 (by omega)).1, (h i hi 1 (by omega)).1, (h i hi 2 (by omega)).1, (h i hi 3 (by omega)).1⟩
theorem RowF.thaw {w : World} {b : Nat} {xs : List Fv} (h : RowF w b xs) (i : Nat) (hi : i < xs.length) :
    w.frozen? ⟨b, i * 4, none⟩ = false ∧ w.frozen? ⟨b, i * 4 + 1, none⟩ = false ∧ w.frozen? ⟨b, i * 4 + 2, none⟩ = false ∧ w.frozen? ⟨b, i * 4 + 3, none⟩ = false :=
  ⟨(h i hi 0 (by omega)).2, (h i hi 1 (by omega)).2, (h i hi 2 (by omega)).2, (h i hi 3 (by omega)).2⟩

/-! the sort -/
/-- a fact whose Args lie in w0 -/
abbrev In (w0 : World) : Type := { x : Fv // Fv.At w0 x }
def noIn (w0 : World) : In w0 := ⟨nof, ArgsAt.nil w0⟩
abbrev encIn (w0 : World) (x : In w0) : List Value := fv x.1
def allIn (w0 : World) (xs : List Fv) (h : ∀ x ∈ xs, Fv.At w0 x) : List (In w0) := xs.pmap Subtype.mk h
theorem allIn_val (w0 : World) (xs : List Fv) (h : ∀ x ∈ xs, Fv.At w0 x) : (allIn w0 xs h).map (·.1) = xs := by
  unfold allIn; rw [List.map_pmap]; simp
theorem rowF_holdsK (w0 w : World) [Inhabited (In w0)] (b : Nat) (d : List (In w0)) : RowF w b (d.map (·.1)) ↔ HoldsK (encIn w0) 4 w b 0 d.toArray := by
  constructor
  · intro h t ht
    rw [size_flatK] at ht
    have ht' : t < d.length * 4 := by simpa using ht
    have hi : t / 4 < d.length := by omega
    have h1 := h (t / 4) (by simpa using hi) (t % 4) (Nat.mod_lt _ (by decide))
    rw [show 0 + t = t / 4 * 4 + t % 4 by omega]
    refine ⟨?_, h1.2⟩
    rw [h1.1, get_flatK _ _ _ _ ht, getElem!_pos d.toArray (t / 4) (by simpa using hi)]
    have hc : t % 4 < (fv d[t / 4].1).length := by rw [fv_len]; omega
    simp only [List.getElem_map, List.getElem_toArray, encIn, id]
    rw [List.getElem?_eq_getElem hc, getElem!_pos (fv d[t / 4].1) _ hc]
  · intro h i hi c hc
    have hi' : i < d.length := by simpa using hi
    have := h.cell (i := i) (c := c) (by simpa using hi') hc
    rw [Nat.zero_add] at this
    refine ⟨?_, this.2⟩
    rw [this.1, getElem!_pos d.toArray i (by simpa using hi')]
    have hc' : c < (fv d[i].1).length := by rw [fv_len]; omega
    simp only [List.getElem_map, List.getElem_toArray, encIn]
    rw [List.getElem?_eq_getElem hc', getElem!_pos (fv d[i].1) _ hc']

theorem but_sortWorldK {α : Type} [Inhabited α] (enc : α → List Value) (k : Nat) (w : World) (blk off m : Nat) (d : Array α) (os : Array Obj) : But blk w (sortWorldK enc k w blk off m d os) := by
  refine ⟨rfl, rfl, rfl, by simp [sortWorldK, Sort.grow, putRowK, putRow, mapBlock, Sort.ahead], fun j hj hn => ?_⟩
  unfold sortWorldK
  rw [heap_grow_old _ _ (by simpa [putRowK, putRow, mapBlock, Sort.ahead] using hj)]
  simp only [putRowK, putRow, mapBlock, Sort.ahead, Array.getElem?_modify]
  rw [if_neg (fun e => hn e.symm)]

def SortedL (ys : List Fv) : Prop := ∀ i j (hi : i < ys.length) (hj : j < ys.length), i < j → cF ys[i].f ys[j].f ≤ 0

theorem sort_at (w0 w : World) (blk cap : Nat) (xs : List Fv) (hxs : ∀ x ∈ xs, Fv.At w0 x) (hB : Below w0.heap.size w0 w) (hb0 : w0.heap.size ≤ blk) (hrow : RowF w blk xs) (hblk : blk < w.heap.size) (hlen : xs.length < 4611686018427387904) :
    Calls Tryz.prog 93 #[.slice (some ⟨blk, 0, none⟩) xs.length cap, .func (.func 94) #[] #[]] w fun e w' => e = .returned (.tuple #[]) ∧ ∃ ys : List Fv, ys.Perm xs ∧ SortedL ys ∧ RowF w' blk ys ∧ But blk w w' := by
  have eg : ∀ args w, (callFunc 94 args).run Tryz.prog w = .ok (.enter 94 args) w := enters_of Tryz.func94 (by kernel_rfl) rfl
  haveI : Inhabited (In w0) := ⟨noIn w0⟩
  have hd : (allIn w0 xs hxs).length = xs.length := by rw [← List.length_map (f := fun x : In w0 => x.1), allIn_val]
  have hH : HoldsK (encIn w0) 4 w blk 0 (allIn w0 xs hxs).toArray := (rowF_holdsK w0 w blk _).1 (by rw [allIn_val]; exact hrow)
  have hpre := pre_cF.on (fun x : In w0 => x.1.f)
  have hcmp : CmpLays Tryz.prog 94 #[] (encIn w0) 4 (fun x y => cF x.1.f y.1.f) blk 0 (allIn w0 xs hxs).toArray.size w := fun m os dk _ x y => by
    have hbw : Below w0.heap.size w0 (sortWorldK (encIn w0) 4 w blk 0 m dk os) := hB.trans ((but_sortWorldK _ _ _ _ _ _ _ _).lower hb0 hB.size)
    exact order_at x.1 y.1 _ (x.2.below hbw (Nat.le_refl _)) (y.2.below hbw (Nat.le_refl _))
  have hO : SWO (ltOf fun x y : In w0 => cF x.1.f y.1.f) := by
    refine ⟨fun x => ?_, fun x y z h1 h2 => ?_, fun x y z h1 h2 => ?_⟩
    · show decide (cF x.1.f x.1.f < 0) = false; rw [hpre.refl x]; rfl
    · simp only [ltOf, decide_eq_true_eq] at *; exact hpre.lt_of_lt_of_le h1 (Int.le_of_lt h2)
    · simp only [ltOf, decide_eq_false_iff_not, Int.not_lt] at *
      have a1 := hpre.anti x y; have a2 := hpre.anti y z; have a3 := hpre.anti x z
      have := hpre.trans z y x (by omega) (by omega)
      omega
  have := AnyQ.slices_SortFunc Tryz.sortF 4 Tryz.isAgg37 Tryz.sizeOf37 (encIn w0) (fun x => fv_len x.1) (fun x v hv => fv_one x.1 v hv) (fun x y => cF x.1.f y.1.f) hO 94 #[] blk 0 cap (allIn w0 xs hxs).toArray w eg hcmp hH hblk (by simpa [hd] using hlen)
  rw [List.size_toArray, hd] at this
  refine this.mono fun e w' ⟨h1, d', n, os, hp, hs, hw⟩ => ⟨h1, d'.toList.map (·.1), ?_, ?_, ?_, ?_⟩
  · have hsz : d'.size = xs.length := by rw [hp.1, List.size_toArray, hd]
    have h3 := hp.2.2
    have e1 : d'.extract 0 xs.length = d' := by rw [← hsz]; exact Array.extract_size
    have e2 : (allIn w0 xs hxs).toArray.extract 0 xs.length = (allIn w0 xs hxs).toArray := by
      have := Array.extract_size (xs := (allIn w0 xs hxs).toArray)
      rwa [List.size_toArray, hd] at this
    rw [e1, e2] at h3
    have := h3.map (fun x : In w0 => x.1)
    rwa [List.toList_toArray, allIn_val] at this
  · have hsz : d'.size = xs.length := by rw [hp.1, List.size_toArray, hd]
    intro i j hi hj hij
    rw [List.length_map, Array.length_toList] at hi hj
    have h3 := hs i j (Nat.zero_le _) hij (by omega)
    rw [getElem!_pos d' i hi, getElem!_pos d' j hj] at h3
    simp only [ltOf, decide_eq_false_iff_not, Int.not_lt] at h3
    simp only [List.getElem_map, Array.getElem_toList]
    have := pre_cF.anti d'[i].1.f d'[j].1.f
    omega
  · rw [rowF_holdsK w0, Array.toArray_toList, hw]
    exact holdsK_sortWorldK_c (encIn w0) 4 w blk 0 (allIn w0 xs hxs).toArray d' n os hH hblk hp.1
  · rw [hw]; exact but_sortWorldK _ _ _ _ _ _ _ _

theorem sort_none (p : Option Addr) (cap : Nat) (f : Value) (w : World) : Calls Tryz.prog 93 #[.slice p 0 cap, f] w fun e w' => e = .returned (.tuple #[]) ∧ w = w' :=
  (AnyF.slices_SortFunc_none Tryz.sortF p cap f w).mono fun _ _ ⟨h1, h2⟩ => ⟨h1, h2.symm⟩

end Go.Proofs.YtpdmmmdkpipmkaaGreatDoor

/-
  slices.CompactFunc over a row of facts: of neighbours that are the same the first is kept.
-/
namespace Go.Proofs.YtpdmmmdkpipmkaaGreatDoor
open Go.RowKit Go.Sort

abbrev cV (x y : Fv) : Int := cF x.f y.f

theorem ordered1_at (x y : Fv) (w : World) (hx : Fv.At w x) (hy : Fv.At w y) : Calls Tryz.prog 96 #[x.val, y.val] w fun e w' => e = .returned (.bool (decide (cV x y = 0))) ∧ ∃ q os, w' = grow (w.drewN q) os := by
  have hO := fun (W : World) (hg : Grew w W) => order_at x y W (hx.grew hg) (hy.grew hg)
  have hg2 : ∀ o o' : Obj, Grew w ((w.alloc o).alloc o') := fun o o' => ((Grew.refl w).allocs o).allocs o'
  show Calls _ _ _ _ fun e w' => e = .returned (.bool (decide (cF x.f y.f = 0))) ∧ Grew w w'
  generalize cF x.f y.f = r at *
  obtain ⟨x1, x2, x3, xa, xc, xk⟩ := x; obtain ⟨y1, y2, y3, ya, yc, yk⟩ := y
  go_enter Tryz.func96, Tryz.ntmps96
  go_wp2_with fail
  refine (hO _ (hg2 _ _)).mono ?_; rintro e w1 ⟨rfl, hg⟩
  go_wp2_with fail
  go_ret
  refine ⟨ret_bool ?_, (hg2 _ _).trans hg⟩
  rw [Bool.eq_iff_iff]; simp

/-- a fact stored at a place of a row -/
theorem RowF.store {w : World} {b : Nat} {ys : List Fv} (h : RowF w b ys) (k : Nat) (hk : k < ys.length) (x : Fv) :
    RowF ((((w.setCell ⟨b, k * 4, none⟩ (str x.at_)).setCell ⟨b, k * 4 + 1, none⟩ (str x.by_)).setCell ⟨b, k * 4 + 2, none⟩ (str x.pred)).setCell ⟨b, k * 4 + 3, none⟩ (.slice x.a x.ks.length x.cap)) b (ys.set k x) := by
  obtain ⟨c0, c1, c2, c3⟩ := h.get k hk
  intro i hi c hc
  rw [List.length_set] at hi
  obtain ⟨h1, h2⟩ := h i hi c hc
  refine ⟨?_, by simpa using h2⟩
  by_cases e : k = i
  · subst e
    rw [List.getElem_set_self]
    match c, hc with
    | 0, _ => simp [World.cell?_setCell_other, World.cell?_setCell_same', c0, fv]
    | 1, _ => simp [World.cell?_setCell_other, World.cell?_setCell_same', c1, fv]
    | 2, _ => simp [World.cell?_setCell_other, World.cell?_setCell_same', c2, fv]
    | 3, _ => simp [World.cell?_setCell_other, World.cell?_setCell_same', c3, fv]
  · rw [List.getElem_set_ne e, ← h1]
    rw [World.cell?_setCell_other, World.cell?_setCell_other, World.cell?_setCell_other, World.cell?_setCell_other]
    all_goals (simp only [ne_eq, Addr.mk.injEq, not_and]; intros; omega)

theorem zeroCells_len (c : Array Value) (n : Nat) : (Builtin.zeroCells c n).size = n * c.size := by simp [Builtin.zeroCells]
theorem zeroCells_one (c : Array Value) (n : Nat) (h0 : 0 < c.size) (h : ∀ i (hi : i < c.size), c[i].oneCell' = true) : ∀ v ∈ (Builtin.zeroCells c n).toList, v.oneCell' = true := by
  intro v hv
  simp only [Builtin.zeroCells, Array.mem_toList_iff, Array.mem_map, Array.mem_range] at hv
  obtain ⟨i, _, rfl⟩ := hv
  rw [getElem!_pos c (i % c.size) (Nat.mod_lt _ h0)]
  exact h _ _

/-- clear(s), s a slice of facts that has some -/
theorem run_clear_facts (w : World) (b o n c : Nat) (hn : 0 < n) (hc : ∀ j, j < n * 4 → (w.cell? ⟨b, o + j, none⟩).isSome = true) (hf : ∀ j, j < n * 4 → w.frozen? ⟨b, o + j, none⟩ = false) :
    ∃ Z : List Value, Z.length = n * 4 ∧ ∀ ty, (Builtin.clear_ #[32] ty #[.slice (some ⟨b, o, none⟩) n c]).run Tryz.prog w = .ok (.tuple #[]) (w.setCells b o Z) := by
  obtain ⟨zs, hzs⟩ : ∃ zs : Array Value, zs = #[.string .empty, .string .empty, .string .empty, .slice none 0 0] := ⟨_, rfl⟩
  have hsz : zs.size = 4 := by rw [hzs]; rfl
  have h1 : ∀ i (hi : i < zs.size), zs[i].oneCell' = true := by
    subst hzs
    intro i hi
    match i, hi with
    | 0, _ => rfl
    | 1, _ => rfl
    | 2, _ => rfl
    | 3, _ => rfl
  have hz : ∀ w, (zeroValue 37).run Tryz.prog w = .ok (.agg zs) w := by rw [hzs]; exact Tryz.zeroValue37
  clear hzs
  have hl : (Builtin.zeroCells zs n).toList.length = n * 4 := by rw [Array.length_toList, zeroCells_len, hsz]
  refine ⟨(Builtin.zeroCells zs n).toList, hl, fun ty => ?_⟩
  have hst := run_storeCells_cells (P := Tryz.prog) b o _ 0 w (by rw [hl]; simpa using hc) (by rw [hl]; simpa using hf) (zeroCells_one zs n (by omega) h1)
  simp only [Nat.add_zero] at hst
  obtain ⟨m, rfl⟩ : ∃ m, n = m + 1 := ⟨n - 1, by omega⟩
  simp [Builtin.clear_, run_underlying Tryz.underlying32, hz, hst, Value.cells]

end Go.Proofs.YtpdmmmdkpipmkaaGreatDoor

/-
  slices.CompactFunc, walked.
-/
namespace Go.Proofs.YtpdmmmdkpipmkaaGreatDoor
open Go.RowKit Go.Sort

theorem frozen_setCells (b : Nat) (p : Addr) : ∀ (V : List Value) (o : Nat) (w : World), (w.setCells b o V).frozen? p = w.frozen? p
  | [], _, _ => rfl
  | v :: r, o, w => by rw [World.setCells, frozen_setCells b p r]; simp
/-- what stands ahead of what is cleared -/
theorem RowF.head {w : World} {b : Nat} {xs ys : List Fv} (h : RowF w b (xs ++ ys)) (Z : List Value) : RowF (w.setCells b (xs.length * 4) Z) b xs := fun i hi c hc => by
  obtain ⟨h1, h2⟩ := h i (by rw [List.length_append]; omega) c hc
  rw [List.getElem_append_left hi] at h1
  refine ⟨?_, by rw [frozen_setCells]; exact h2⟩
  rw [World.cell?_setCells_out, h1]
  intro _ _
  left
  show i * 4 + c < xs.length * 4
  omega
theorem RowF.take {w : World} {b : Nat} {xs ys : List Fv} (h : RowF w b (xs ++ ys)) : RowF w b xs := fun i hi c hc => by
  have := h i (by rw [List.length_append]; omega) c hc
  rwa [List.getElem_append_left hi] at this
theorem RowF.some {w : World} {b : Nat} {xs : List Fv} (h : RowF w b xs) (j : Nat) (hj : j < xs.length * 4) : (w.cell? ⟨b, j, none⟩).isSome = true ∧ w.frozen? ⟨b, j, none⟩ = false := by
  have := h (j / 4) (by omega) (j % 4) (Nat.mod_lt _ (by decide))
  rw [show j / 4 * 4 + j % 4 = j by omega] at this
  refine ⟨?_, this.2⟩
  rw [this.1, List.getElem?_eq_getElem (by rw [fv_len]; omega)]; rfl

/-- the row while the second round is on -/
theorem mid_get (xs L : List Fv) (i : Nat) (hi : i < xs.length) (hL : L.length ≤ i) : (L ++ xs.drop L.length)[i]'(by simp; omega) = xs[i] := by
  rw [List.getElem_append_right hL, List.getElem_drop]
  congr 1; omega
theorem mid_set (xs L : List Fv) (x : Fv) (hL : L.length < xs.length) : (L ++ xs.drop L.length).set L.length x = (L ++ [x]) ++ xs.drop (L ++ [x]).length := by
  rw [List.set_append_right _ _ (Nat.le_refl _), Nat.sub_self, List.drop_eq_getElem_cons hL, List.set_cons_zero, List.append_assoc, List.length_append]
  rfl

set_option maxHeartbeats 8000000 in
theorem compact_at (w0 w : World) (blk cap : Nat) (xs : List Fv) (hxs : ∀ x ∈ xs, Fv.At w0 x) (hB : Below w0.heap.size w0 w) (hb0 : w0.heap.size ≤ blk) (hrow : RowF w blk xs) (hblk : blk < w.heap.size) (hcap : xs.length ≤ cap) (hlen : xs.length < 4611686018427387904) :
    Calls Tryz.prog 95 #[.slice (some ⟨blk, 0, none⟩) xs.length cap, .func (.func 96) #[] #[]] w
      fun e w' => e = .returned (.slice (some ⟨blk, 0, none⟩) (kept cV xs xs.length).length cap) ∧ RowF w' blk (kept cV xs xs.length) ∧ But blk w w' := by
  have mixed : Tryz.prog.follows .mixedOrders = true := by kernel_rfl
  have eg : ∀ args w, (callFunc 96 args).run Tryz.prog w = .ok (.enter 96 args) w := enters_of Tryz.func96 (by kernel_rfl) rfl
  have hC := fun (x y : Fv) (W : World) (hx : Fv.At W x) (hy : Fv.At W y) => ordered1_at x y W hx hy
  by_cases h2 : xs.length < 2
  · have q1 : (xs.length : Int) < 2 := by omega
    have hk : kept cV xs xs.length = xs := by
      rw [kept_all cV xs xs.length (Nat.le_refl _) (fun j h h0 hk => by omega), List.take_length]
    rw [hk]
    go_enter Tryz.func95, Tryz.ntmps95
    go_wp2_with fail
    go_ret
    exact ⟨rfl, hrow, But.refl _ _⟩
  · have q1 : ¬ (xs.length : Int) < 2 := by omega
    go_enter Tryz.func95, Tryz.ntmps95
    go_wp2_with fail
    go_loopw [5, 6, 7] (fun v _ _ wr => ∃ k : Nat, v = .int .i64 (k : Int) ∧ 1 ≤ k ∧ k ≤ xs.length ∧ Hid (∀ j (h : j < xs.length), 0 < j → j < k → cV xs[j] (xs[j - 1]'(by omega)) ≠ 0) ∧ Grew w wr) (fun v _ _ _ => xs.length - (RowKit.intOf v).toNat)
    case atStart => exact ⟨1, rfl, by omega, by omega, fun j _ h0 h => absurd h (by omega), Grew.refl _⟩
    case round =>
      obtain ⟨k, rfl, hk1, hk, hev, hg⟩ := hrel
      by_cases hlt : k < xs.length
      · have q2 : (k : Int) < (xs.length : Int) := by omega
        obtain ⟨m, hm⟩ : ∃ m, k = m + 1 := ⟨k - 1, by omega⟩
        have q3 : IntKind.i64.wrap ((k : Int) - 1) = (m : Int) := by simp [IntKind.wrap, IntKind.bits, IntKind.signed]; omega
        have q4 : (m : Int) < (xs.length : Int) := by omega
        have hml : m < xs.length := by omega
        have em : k - 1 = m := by omega
        have hrow' := hrow.below hg.below hblk
        obtain ⟨a1, a2, a3, a4⟩ := hrow'.get k hlt
        obtain ⟨d1, d2, d3, d4⟩ := hrow'.get m hml
        have hBr : Below w0.heap.size w0 wr := hB.trans (hg.below.mono hB.size)
        have hxk : Fv.At wr (xs[k]'hlt) := (hxs _ (List.getElem_mem _)).below hBr (Nat.le_refl _)
        have hxj : Fv.At wr (xs[m]'hml) := (hxs _ (List.getElem_mem _)).below hBr (Nat.le_refl _)
        have hn : ∀ n os, Calls Tryz.prog 96 #[Fv.val (xs[k]'hlt), Fv.val (xs[m]'hml)] (grow (wr.drewN n) os) _ := fun n os => hC (xs[k]'hlt) (xs[m]'hml) _ (hxk.grew (Grew.grow _ _ _)) (hxj.grew (Grew.grow _ _ _))
        have A1 := fun n os => cell_grown (cell_block a1) a1 n os
        have A2 := fun n os => cell_grown (cell_block a2) a2 n os
        have A3 := fun n os => cell_grown (cell_block a3) a3 n os
        have A4 := fun n os => cell_grown (cell_block a4) a4 n os
        have D1 := fun n os => cell_grown (cell_block d1) d1 n os
        have D2 := fun n os => cell_grown (cell_block d2) d2 n os
        have D3 := fun n os => cell_grown (cell_block d3) d3 n os
        have D4 := fun n os => cell_grown (cell_block d4) d4 n os
        generalize hp : (xs[k]'hlt) = p at *
        generalize hq : (xs[m]'hml) = q at *
        have Hp := hideP hp; have Hq := hideP hq; have Hm := hideP hm; have Em := hideP em; have HX := hideP hxs; have HC := hideP hC; clear hm em hp hq hC hxk hxj hxs a1 a2 a3 a4 d1 d2 d3 d4
        by_cases hr : cV p q = 0
        · simp only [hr, decide_true] at hn
          go_wp2_with fail
          go_quiet_grown (first | (go_at_fn 96; refine Calls.grown_of (hn _ _)))
          have G1 : Grew w (grow (wr.drewN nq) osq) := hg.trans (Grew.grow _ _ _)
          generalize grow (wr.drewN nq) osq = w1 at *
          have q5 : ¬ cap = k := by omega
          have q6 : k ≤ cap := by omega
          have q7 : (k : Int) ≤ (cap : Int) := by omega
          have q8 : (k : Int) ≤ (xs.length : Int) := by omega
          go_wp2_with fail
          have hdup : Hid (kept cV xs (k + 1) = xs.take k) := by
            show _ = _
            rw [kept_dup cV xs k (by omega) hlt (by simp only [Em.out, Hp.out, Hq.out]; exact hr)]
            exact kept_all cV xs k (by omega) hev.out
          obtain ⟨n2, hn2⟩ : ∃ n2, xs.length - k = n2 := ⟨_, rfl⟩
          have Hn2 := hideP hn2
          rw [hn2]
          clear hn2 hn A1 A2 A3 A4 D1 D2 D3 D4 hr hev hrow' hBr hg
          go_loopw [5, 7] (fun v5 v7 wi => ∃ (t : Nat) (L : List Fv), 1 ≤ t ∧ t ≤ n2 ∧ v7 = .int .i64 (t : Int) ∧ v5 = .int .i64 (L.length : Int) ∧ Hid (L = kept cV xs (k + t)) ∧ L.length < k + t ∧ RowF wi blk (L ++ xs.drop L.length) ∧ But blk w wi) (fun _ v7 _ => n2 - (RowKit.intOf v7).toNat)
          case atStart =>
            have := Hn2.out
            have hl : (xs.take k).length = k := by rw [List.length_take]; omega
            exact ⟨1, xs.take k, by omega, by omega, rfl, by rw [hl], hdup.out.symm, by omega, by rw [hl, List.take_append_drop]; exact hrow.below G1.below hblk, (But.refl _ _).below G1.below⟩
          case round =>
            obtain ⟨t, L, ht1, ht, rfl, rfl, hL, hLl, hR, hbut⟩ := hrel
            have hnn := Hn2.out
            by_cases hlt2 : t < n2
            · have q9 : (t : Int) < (n2 : Int) := by omega
              obtain ⟨m2, hm2⟩ : ∃ m2, t = m2 + 1 := ⟨t - 1, by omega⟩
              have qa : IntKind.i64.wrap ((t : Int) - 1) = (m2 : Int) := by simp [IntKind.wrap, IntKind.bits, IntKind.signed]; omega
              have qb : (m2 : Int) < (n2 : Int) := by omega
              have hi : k + t < xs.length := by omega
              have hj : k + m2 < xs.length := by omega
              have hRl : (L ++ xs.drop L.length).length = xs.length := by simp; omega
              have gi := mid_get xs L (k + t) hi (by omega)
              have gj := mid_get xs L (k + m2) hj (by omega)
              have getI : ∀ W, RowF W blk (L ++ xs.drop L.length) → W.cell? ⟨blk, k * 4 + t * 4, none⟩ = some (str (xs[k + t]'hi).at_) ∧ W.cell? ⟨blk, k * 4 + t * 4 + 1, none⟩ = some (str (xs[k + t]'hi).by_) ∧ W.cell? ⟨blk, k * 4 + t * 4 + 2, none⟩ = some (str (xs[k + t]'hi).pred) ∧ W.cell? ⟨blk, k * 4 + t * 4 + 3, none⟩ = some (.slice (xs[k + t]'hi).a (xs[k + t]'hi).ks.length (xs[k + t]'hi).cap) := fun W h => by
                have := h.get (k + t) (by omega)
                rwa [gi, Nat.add_mul] at this
              have getJ : ∀ W, RowF W blk (L ++ xs.drop L.length) → W.cell? ⟨blk, k * 4 + m2 * 4, none⟩ = some (str (xs[k + m2]'hj).at_) ∧ W.cell? ⟨blk, k * 4 + m2 * 4 + 1, none⟩ = some (str (xs[k + m2]'hj).by_) ∧ W.cell? ⟨blk, k * 4 + m2 * 4 + 2, none⟩ = some (str (xs[k + m2]'hj).pred) ∧ W.cell? ⟨blk, k * 4 + m2 * 4 + 3, none⟩ = some (.slice (xs[k + m2]'hj).a (xs[k + m2]'hj).ks.length (xs[k + m2]'hj).cap) := fun W h => by
                have := h.get (k + m2) (by omega)
                rwa [gj, Nat.add_mul] at this
              obtain ⟨a1, a2, a3, a4⟩ := getI _ hR
              obtain ⟨d1, d2, d3, d4⟩ := getJ _ hR
              have hBr : Below w0.heap.size w0 wr := hB.trans (hbut.lower hb0 hB.size)
              have hn : ∀ n os, Calls Tryz.prog 96 #[Fv.val (xs[k + t]'hi), Fv.val (xs[k + m2]'hj)] (grow (wr.drewN n) os) _ := fun n os => HC.out (xs[k + t]'hi) (xs[k + m2]'hj) _ (((HX.out _ (List.getElem_mem hi)).below hBr (Nat.le_refl _)).grew (Grew.grow _ _ _)) (((HX.out _ (List.getElem_mem hj)).below hBr (Nat.le_refl _)).grew (Grew.grow _ _ _))
              have A1 := fun n os => cell_grown (cell_block a1) a1 n os
              have A2 := fun n os => cell_grown (cell_block a2) a2 n os
              have A3 := fun n os => cell_grown (cell_block a3) a3 n os
              have A4 := fun n os => cell_grown (cell_block a4) a4 n os
              have D1 := fun n os => cell_grown (cell_block d1) d1 n os
              have D2 := fun n os => cell_grown (cell_block d2) d2 n os
              have D3 := fun n os => cell_grown (cell_block d3) d3 n os
              have D4 := fun n os => cell_grown (cell_block d4) d4 n os
              have hdup' := kept_dup cV xs (k + t) (by omega) hi
              have hnew' := kept_new cV xs (k + t) (by omega) hi
              have ej : k + t - 1 = k + m2 := by omega
              simp only [ej] at hdup' hnew'
              have Hdup := hideP hdup'; have Hnew := hideP hnew'
              have GetI := hideP getI
              have hblkR : blk < wr.heap.size := cell_block a1
              clear hdup' hnew' a1 a2 a3 a4 d1 d2 d3 d4 getI getJ gi gj
              generalize (xs[k + t]'hi) = p2 at *
              generalize (xs[k + m2]'hj) = r2 at *
              have Hm2 := hideP hm2; have Hej := hideP ej; have HRl := hideP hRl; have Hnn := hideP hnn; clear hm2 ej hRl hnn
              by_cases hr : cV p2 r2 = 0
              · simp only [hr, decide_true] at hn
                go_wp2_with fail
                go_quiet_grown (first | (go_at_fn 96; refine Calls.grown_of (hn _ _)))
                go_wp2_with fail
                refine ⟨⟨t + 1, L, by omega, by omega, by simp, rfl, ?_, by omega, ?_, ?_⟩, by simp [RowKit.intOf]; omega⟩
                · show L = _; rw [hL.out]; exact (Hdup.out hr).symm
                · exact hR.below (Grew.grow wr _ _).below hblkR
                · exact hbut.below (Grew.grow wr _ _).below
              · simp only [hr, decide_false] at hn
                go_wp2_with fail
                go_quiet_grown (first | (go_at_fn 96; refine Calls.grown_of (hn _ _)))
                have hbut2 := hbut.below (Grew.grow wr nq osq).below
                have hR2 := hR.below (Grew.grow wr nq osq).below hblkR
                clear A1 A2 A3 A4 D1 D2 D3 D4 hn
                generalize grow (wr.drewN nq) osq = w2 at *
                obtain ⟨a1, a2, a3, a4⟩ := GetI.out _ hR2
                have hl : L.length < (L ++ xs.drop L.length).length := by rw [HRl.out]; omega
                obtain ⟨c1, c2, c3, c4⟩ := hR2.get L.length hl
                obtain ⟨f1, f2, f3, f4⟩ := hR2.thaw L.length hl
                have qc : (L.length : Int) < (xs.length : Int) := by omega
                have hst := hR2.store L.length hl p2
                rw [mid_set xs L p2 (by omega)] at hst
                generalize (L ++ xs.drop L.length)[L.length]'hl = old at *
                go_wp2_with fail
                refine ⟨⟨t + 1, L ++ [p2], by omega, by omega, by simp, by simp, ?_, by simp; omega, ?_, ?_⟩, by simp [RowKit.intOf]; omega⟩
                · show L ++ [p2] = _; rw [hL.out]; exact (Hnew.out hr).symm
                · exact hst
                · exact (((hbut2.set _ _).set _ _).set _ _).set _ _
            · have q9 : ¬ (t : Int) < (n2 : Int) := by omega
              have hkt : k + t = xs.length := by omega
              have hRl : (L ++ xs.drop L.length).length = xs.length := by simp; omega
              have qd : L.length < xs.length := by omega
              obtain ⟨Z, hZ, hcl⟩ := run_clear_facts wr blk (L.length * 4) (xs.length - L.length) (cap - L.length) (by omega)
                (fun j hj => (hR.some (L.length * 4 + j) (by rw [hRl]; omega)).1) (fun j hj => (hR.some (L.length * 4 + j) (by rw [hRl]; omega)).2)
              have qe : (L.length : Int) ≤ (xs.length : Int) := by omega
              have qf : ¬ cap = L.length := by omega
              have qg : (L.length : Int) ≤ (cap : Int) := by omega
              have qh : L.length ≤ cap := by omega
              have HL : Hid (kept cV xs xs.length = L) := by show _ = _; rw [hL.out, hkt]
              clear hL
              go_wp2_with fail
              go_ret
              rw [HL.out]
              exact ⟨rfl, hR.head Z, hbut.cells Z _ _⟩
        · simp only [hr, decide_false] at hn
          go_wp2_with fail
          go_quiet_grown (first | (go_at_fn 96; refine Calls.grown_of (hn _ _)))
          go_wp2_with fail
          refine ⟨⟨k + 1, by simp, by omega, by omega, fun j h h0 hj => ?_, hg.trans (Grew.grow _ _ _)⟩, by simp [RowKit.intOf]; omega⟩
          by_cases e : j = k
          · subst e; have e2 := Em.out; simp only [e2, Hp.out, Hq.out]; exact hr
          · exact hev.out j h h0 (by omega)
      · have q2 : ¬ (k : Int) < (xs.length : Int) := by omega
        have hk : kept cV xs xs.length = xs := by
          rw [kept_all cV xs xs.length (Nat.le_refl _) (fun j h h0 hk => hev.out j h h0 (by omega)), List.take_length]
        have Hk := hideP hk; clear hk
        go_wp2_with fail
        go_ret
        rw [Hk.out]
        exact ⟨rfl, hrow.below hg.below hblk, (But.refl _ _).below hg.below⟩

end Go.Proofs.YtpdmmmdkpipmkaaGreatDoor
