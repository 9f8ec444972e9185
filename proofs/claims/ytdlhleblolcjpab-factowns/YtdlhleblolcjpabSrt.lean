/-
  Rows of facts in memory of the call's own; slices.SortFunc over them.
-/
import Derived.Test.YtdlhleblolcjpabMk
import Derived.Shelf.SlSortCmp.WholeK
import Derived.Shelf.SlSortCmp.NoneTotal
namespace Go.Proofs.Ytdlhleblolcjpab
open Go.RowKit Go.Sort

/-! of what was there only block h turned -/
structure But (h : Nat) (w w' : World) : Prop where
  os : w'.os = w.os
  tape : w'.tape = w.tape
  output : w'.output = w.output
  size : w.heap.size ≤ w'.heap.size
  block : ∀ k, k < w.heap.size → k ≠ h → w'.heap[k]? = w.heap[k]?
theorem But.refl (h : Nat) (w : World) : But h w w := ⟨rfl, rfl, rfl, Nat.le_refl _, fun _ _ _ => rfl⟩
theorem But.trans {h : Nat} {a b c : World} (x : But h a b) (y : But h b c) : But h a c :=
  ⟨y.os.trans x.os, y.tape.trans x.tape, y.output.trans x.output, Nat.le_trans x.size y.size, fun k hk hn => (y.block k (Nat.lt_of_lt_of_le hk x.size) hn).trans (x.block k hk hn)⟩
theorem But.below {h : Nat} {a b c : World} (x : But h a b) (y : Below b.heap.size b c) : But h a c :=
  x.trans ⟨y.os, y.tape, y.output, y.size, fun k hk _ => y.block k hk⟩
theorem But.set {h : Nat} {a b : World} (x : But h a b) (o : Nat) (v : Value) : But h a (b.setCell ⟨h, o, none⟩ v) :=
  x.trans (by
    have s : Below 0 b (b.setCell ⟨h, o, none⟩ v) := (Below.refl 0 b).setCell (p := ⟨h, o, none⟩) (Nat.zero_le _) v
    exact ⟨s.os, s.tape, s.output, s.size, fun k _ hn => Below.heap_setCell b ⟨h, o, none⟩ v k hn⟩)
theorem But.lower {h B : Nat} {w w' : World} (x : But h w w') (hB : B ≤ h) (hw : B ≤ w.heap.size) : Below B w w' :=
  ⟨x.os, x.tape, x.output, x.size, fun k hk => x.block k (Nat.lt_of_lt_of_le hk hw) (by omega)⟩
theorem But.cell {h : Nat} {w w' : World} (x : But h w w') {p : Addr} (hp : p.block ≠ h) (hs : p.block < w.heap.size) : w'.cell? p = w.cell? p := World.cell?_of_block (w := w) (x.block p.block hs hp)

/-- A ROW OF FACTS from the head of block b on, that may be written -/
def RowF (w : World) (b : Nat) (xs : List Fv) : Prop := ∀ i (hi : i < xs.length) c, c < 4 → w.cell? ⟨b, i * 4 + c, none⟩ = (fv xs[i])[c]? ∧ w.frozen? ⟨b, i * 4 + c, none⟩ = false
theorem RowF.below {w w' : World} {b : Nat} {xs : List Fv} {B : Nat} (h : RowF w b xs) (hb : Below B w w') (hB : b < B) : RowF w' b xs := fun i hi c hc => by
  rw [hb.cell (p := ⟨b, i * 4 + c, none⟩) hB, hb.frozen (p := ⟨b, i * 4 + c, none⟩) hB]; exact h i hi c hc
theorem RowF.lt {w : World} {b : Nat} {xs : List Fv} (h : RowF w b xs) (h0 : 0 < xs.length) : b < w.heap.size := by
  have := (h 0 h0 0 (by omega)).1
  exact cell_block (p := ⟨b, 0 * 4 + 0, none⟩) (v := str xs[0].at_) (by rw [this]; rfl)
theorem RowF.cells {w : World} {b : Nat} {xs : List Fv} (h : RowF w b xs) : ∀ j u, (fcells xs)[j]? = some u → w.cell? ((⟨b, 0, none⟩ : Addr).add j) = some u := fun j u hu => by
  obtain ⟨i, c, hi, hc, rfl, hv⟩ := flat_place fv 4 fv_len xs j u hu
  rw [Addr.add_lit, Nat.zero_add, (h i hi c hc).1, hv]
theorem RowF.lies {w : World} {b cap : Nat} {xs : List Fv} (h : RowF w b xs) (h1 : xs.length ≤ cap) (h2 : cap ≤ maxLen) (h3 : xs.length ≤ 1954687338211) : Lies w (some ⟨b, 0, none⟩) cap xs :=
  ⟨h1, h2, h3, fun h => (by cases h), fun ad ha => by cases ha; exact h.cells⟩
theorem RowF.get {w : World} {b : Nat} {xs : List Fv} (h : RowF w b xs) (i : Nat) (hi : i < xs.length) :
    w.cell? ⟨b, i * 4, none⟩ = some (str xs[i].at_) ∧ w.cell? ⟨b, i * 4 + 1, none⟩ = some (str xs[i].by_) ∧ w.cell? ⟨b, i * 4 + 2, none⟩ = some (str xs[i].pred) ∧ w.cell? ⟨b, i * 4 + 3, none⟩ = some (.slice xs[i].a xs[i].ks.length xs[i].cap) :=
  ⟨(h i hi 0 (by omega)).1, (h i hi 1 (by omega)).1, (h i hi 2 (by omega)).1, (h i hi 3 (by omega)).1⟩
theorem RowF.thaw {w : World} {b : Nat} {xs : List Fv} (h : RowF w b xs) (i : Nat) (hi : i < xs.length) :
    w.frozen? ⟨b, i * 4, none⟩ = false ∧ w.frozen? ⟨b, i * 4 + 1, none⟩ = false ∧ w.frozen? ⟨b, i * 4 + 2, none⟩ = false ∧ w.frozen? ⟨b, i * 4 + 3, none⟩ = false :=
  ⟨(h i hi 0 (by omega)).2, (h i hi 1 (by omega)).2, (h i hi 2 (by omega)).2, (h i hi 3 (by omega)).2⟩

/-! the sort -/
/-- a fact whose Args lie in w0 -/
abbrev In (w0 : World) : Type := { x : Fv // Fv.At w0 x }
def noIn (w0 : World) : In w0 := ⟨nof, ArgsAt.nil w0⟩
abbrev encIn (w0 : World) (x : In w0) : List Value := fv x.1
def allIn (w0 : World) (xs : List Fv) (h : ∀ x ∈ xs, Fv.At w0 x) : List (In w0) := xs.pmap Subtype.mk h
theorem allIn_val (w0 : World) (xs : List Fv) (h : ∀ x ∈ xs, Fv.At w0 x) : (allIn w0 xs h).map (·.1) = xs := by
  unfold allIn; rw [List.map_pmap]; simp
theorem rowF_holdsK (w0 w : World) [Inhabited (In w0)] (b : Nat) (d : List (In w0)) : RowF w b (d.map (·.1)) ↔ HoldsK (encIn w0) 4 w b 0 d.toArray := by
  constructor
  · intro h t ht
    rw [size_flatK] at ht
    have ht' : t < d.length * 4 := by simpa using ht
    have hi : t / 4 < d.length := by omega
    have h1 := h (t / 4) (by simpa using hi) (t % 4) (Nat.mod_lt _ (by decide))
    rw [show 0 + t = t / 4 * 4 + t % 4 by omega]
    refine ⟨?_, h1.2⟩
    rw [h1.1, get_flatK _ _ _ _ ht, getElem!_pos d.toArray (t / 4) (by simpa using hi)]
    have hc : t % 4 < (fv d[t / 4].1).length := by rw [fv_len]; omega
    simp only [List.getElem_map, List.getElem_toArray, encIn, id]
    rw [List.getElem?_eq_getElem hc, getElem!_pos (fv d[t / 4].1) _ hc]
  · intro h i hi c hc
    have hi' : i < d.length := by simpa using hi
    have := h.cell (i := i) (c := c) (by simpa using hi') hc
    rw [Nat.zero_add] at this
    refine ⟨?_, this.2⟩
    rw [this.1, getElem!_pos d.toArray i (by simpa using hi')]
    have hc' : c < (fv d[i].1).length := by rw [fv_len]; omega
    simp only [List.getElem_map, List.getElem_toArray, encIn]
    rw [List.getElem?_eq_getElem hc', getElem!_pos (fv d[i].1) _ hc']

theorem but_sortWorldK {α : Type} [Inhabited α] (enc : α → List Value) (k : Nat) (w : World) (blk off m : Nat) (d : Array α) (os : Array Obj) : But blk w (sortWorldK enc k w blk off m d os) := by
  refine ⟨rfl, rfl, rfl, by simp [sortWorldK, Sort.grow, putRowK, putRow, mapBlock, Sort.ahead], fun j hj hn => ?_⟩
  unfold sortWorldK
  rw [heap_grow_old _ _ (by simpa [putRowK, putRow, mapBlock, Sort.ahead] using hj)]
  simp only [putRowK, putRow, mapBlock, Sort.ahead, Array.getElem?_modify]
  rw [if_neg (fun e => hn e.symm)]

def SortedL (ys : List Fv) : Prop := ∀ i j (hi : i < ys.length) (hj : j < ys.length), i < j → cF ys[i].f ys[j].f ≤ 0

theorem sort_at (w0 w : World) (blk cap : Nat) (xs : List Fv) (hxs : ∀ x ∈ xs, Fv.At w0 x) (hB : Below w0.heap.size w0 w) (hb0 : w0.heap.size ≤ blk) (hrow : RowF w blk xs) (hblk : blk < w.heap.size) (hlen : xs.length < 4611686018427387904) :
    Calls Try.prog 20 #[.slice (some ⟨blk, 0, none⟩) xs.length cap, .func (.func 13) #[] #[]] w fun e w' => e = .returned (.tuple #[]) ∧ ∃ ys : List Fv, ys.Perm xs ∧ SortedL ys ∧ RowF w' blk ys ∧ But blk w w' := by
  have eg : ∀ args w, (callFunc 13 args).run Try.prog w = .ok (.enter 13 args) w := enters_of Try.func13 (by kernel_rfl) rfl
  haveI : Inhabited (In w0) := ⟨noIn w0⟩
  have hd : (allIn w0 xs hxs).length = xs.length := by rw [← List.length_map (f := fun x : In w0 => x.1), allIn_val]
  have hH : HoldsK (encIn w0) 4 w blk 0 (allIn w0 xs hxs).toArray := (rowF_holdsK w0 w blk _).1 (by rw [allIn_val]; exact hrow)
  have hpre := pre_cF.on (fun x : In w0 => x.1.f)
  have hcmp : CmpLays Try.prog 13 #[] (encIn w0) 4 (fun x y => cF x.1.f y.1.f) blk 0 (allIn w0 xs hxs).toArray.size w := fun m os dk _ x y => by
    have hbw : Below w0.heap.size w0 (sortWorldK (encIn w0) 4 w blk 0 m dk os) := hB.trans ((but_sortWorldK _ _ _ _ _ _ _ _).lower hb0 hB.size)
    exact order_at x.1 y.1 _ (x.2.below hbw (Nat.le_refl _)) (y.2.below hbw (Nat.le_refl _))
  have hO : SWO (ltOf fun x y : In w0 => cF x.1.f y.1.f) := by
    refine ⟨fun x => ?_, fun x y z h1 h2 => ?_, fun x y z h1 h2 => ?_⟩
    · show decide (cF x.1.f x.1.f < 0) = false; rw [hpre.refl x]; rfl
    · simp only [ltOf, decide_eq_true_eq] at *; exact hpre.lt_of_lt_of_le h1 (Int.le_of_lt h2)
    · simp only [ltOf, decide_eq_false_iff_not, Int.not_lt] at *
      have a1 := hpre.anti x y; have a2 := hpre.anti y z; have a3 := hpre.anti x z
      have := hpre.trans z y x (by omega) (by omega)
      omega
  have := AnyQ.slices_SortFunc Try.sortF 4 Try.isAgg24 Try.sizeOf24 (encIn w0) (fun x => fv_len x.1) (fun x v hv => fv_one x.1 v hv) (fun x y => cF x.1.f y.1.f) hO 13 #[] blk 0 cap (allIn w0 xs hxs).toArray w eg hcmp hH hblk (by simpa [hd] using hlen)
  rw [List.size_toArray, hd] at this
  refine this.mono fun e w' ⟨h1, d', n, os, hp, hs, hw⟩ => ⟨h1, d'.toList.map (·.1), ?_, ?_, ?_, ?_⟩
  · have hsz : d'.size = xs.length := by rw [hp.1, List.size_toArray, hd]
    have h3 := hp.2.2
    have e1 : d'.extract 0 xs.length = d' := by rw [← hsz]; exact Array.extract_size
    have e2 : (allIn w0 xs hxs).toArray.extract 0 xs.length = (allIn w0 xs hxs).toArray := by
      have := Array.extract_size (xs := (allIn w0 xs hxs).toArray)
      rwa [List.size_toArray, hd] at this
    rw [e1, e2] at h3
    have := h3.map (fun x : In w0 => x.1)
    rwa [List.toList_toArray, allIn_val] at this
  · have hsz : d'.size = xs.length := by rw [hp.1, List.size_toArray, hd]
    intro i j hi hj hij
    rw [List.length_map, Array.length_toList] at hi hj
    have h3 := hs i j (Nat.zero_le _) hij (by omega)
    rw [getElem!_pos d' i hi, getElem!_pos d' j hj] at h3
    simp only [ltOf, decide_eq_false_iff_not, Int.not_lt] at h3
    simp only [List.getElem_map, Array.getElem_toList]
    have := pre_cF.anti d'[i].1.f d'[j].1.f
    omega
  · rw [rowF_holdsK w0, Array.toArray_toList, hw]
    exact holdsK_sortWorldK_c (encIn w0) 4 w blk 0 (allIn w0 xs hxs).toArray d' n os hH hblk hp.1
  · rw [hw]; exact but_sortWorldK _ _ _ _ _ _ _ _

theorem sort_none (p : Option Addr) (cap : Nat) (f : Value) (w : World) : Calls Try.prog 20 #[.slice p 0 cap, f] w fun e w' => e = .returned (.tuple #[]) ∧ w = w' :=
  (AnyF.slices_SortFunc_none Try.sortF p cap f w).mono fun _ _ ⟨h1, h2⟩ => ⟨h1, h2.symm⟩

end Go.Proofs.Ytdlhleblolcjpab
