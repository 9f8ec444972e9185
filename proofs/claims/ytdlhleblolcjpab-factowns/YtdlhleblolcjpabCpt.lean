/-
  slices.CompactFunc over a row of facts: of neighbours that are the same the first is kept.
-/
import Derived.Test.YtdlhleblolcjpabSrt
import Derived.Lib.SliceRun
namespace Go.Proofs.Ytdlhleblolcjpab
open Go.RowKit Go.Sort

abbrev cV (x y : Fv) : Int := cF x.f y.f

theorem ordered1_at (x y : Fv) (w : World) (hx : Fv.At w x) (hy : Fv.At w y) : Calls Try.prog 22 #[x.val, y.val] w fun e w' => e = .returned (.bool (decide (cV x y = 0))) ∧ ∃ q os, w' = grow (w.drewN q) os := by
  have hO := fun (W : World) (hg : Grew w W) => order_at x y W (hx.grew hg) (hy.grew hg)
  have hg2 : ∀ o o' : Obj, Grew w ((w.alloc o).alloc o') := fun o o' => ((Grew.refl w).allocs o).allocs o'
  show Calls _ _ _ _ fun e w' => e = .returned (.bool (decide (cF x.f y.f = 0))) ∧ Grew w w'
  generalize cF x.f y.f = r at *
  obtain ⟨x1, x2, x3, xa, xc, xk⟩ := x; obtain ⟨y1, y2, y3, ya, yc, yk⟩ := y
  go_enter Try.func22, Try.ntmps22
  go_wp2_with fail
  refine (hO _ (hg2 _ _)).mono ?_; rintro e w1 ⟨rfl, hg⟩
  go_wp2_with fail
  go_ret
  refine ⟨ret_bool ?_, (hg2 _ _).trans hg⟩
  rw [Bool.eq_iff_iff]; simp

/-- a fact stored at a place of a row -/
theorem RowF.store {w : World} {b : Nat} {ys : List Fv} (h : RowF w b ys) (k : Nat) (hk : k < ys.length) (x : Fv) :
    RowF ((((w.setCell ⟨b, k * 4, none⟩ (str x.at_)).setCell ⟨b, k * 4 + 1, none⟩ (str x.by_)).setCell ⟨b, k * 4 + 2, none⟩ (str x.pred)).setCell ⟨b, k * 4 + 3, none⟩ (.slice x.a x.ks.length x.cap)) b (ys.set k x) := by
  obtain ⟨c0, c1, c2, c3⟩ := h.get k hk
  intro i hi c hc
  rw [List.length_set] at hi
  obtain ⟨h1, h2⟩ := h i hi c hc
  refine ⟨?_, by simpa using h2⟩
  by_cases e : k = i
  · subst e
    rw [List.getElem_set_self]
    match c, hc with
    | 0, _ => simp [World.cell?_setCell_other, World.cell?_setCell_same', c0, fv]
    | 1, _ => simp [World.cell?_setCell_other, World.cell?_setCell_same', c1, fv]
    | 2, _ => simp [World.cell?_setCell_other, World.cell?_setCell_same', c2, fv]
    | 3, _ => simp [World.cell?_setCell_other, World.cell?_setCell_same', c3, fv]
  · rw [List.getElem_set_ne e, ← h1]
    rw [World.cell?_setCell_other, World.cell?_setCell_other, World.cell?_setCell_other, World.cell?_setCell_other]
    all_goals (simp only [ne_eq, Addr.mk.injEq, not_and]; intros; omega)

theorem zeroCells_len (c : Array Value) (n : Nat) : (Builtin.zeroCells c n).size = n * c.size := by simp [Builtin.zeroCells]
theorem zeroCells_one (c : Array Value) (n : Nat) (h0 : 0 < c.size) (h : ∀ i (hi : i < c.size), c[i].oneCell' = true) : ∀ v ∈ (Builtin.zeroCells c n).toList, v.oneCell' = true := by
  intro v hv
  simp only [Builtin.zeroCells, Array.mem_toList_iff, Array.mem_map, Array.mem_range] at hv
  obtain ⟨i, _, rfl⟩ := hv
  rw [getElem!_pos c (i % c.size) (Nat.mod_lt _ h0)]
  exact h _ _

/-- clear(s), s a slice of facts that has some -/
theorem run_clear_facts (w : World) (b o n c : Nat) (hn : 0 < n) (hc : ∀ j, j < n * 4 → (w.cell? ⟨b, o + j, none⟩).isSome = true) (hf : ∀ j, j < n * 4 → w.frozen? ⟨b, o + j, none⟩ = false) :
    ∃ Z : List Value, Z.length = n * 4 ∧ ∀ ty, (Builtin.clear_ #[35] ty #[.slice (some ⟨b, o, none⟩) n c]).run Try.prog w = .ok (.tuple #[]) (w.setCells b o Z) := by
  obtain ⟨zs, hzs⟩ : ∃ zs : Array Value, zs = #[.string .empty, .string .empty, .string .empty, .slice none 0 0] := ⟨_, rfl⟩
  have hsz : zs.size = 4 := by rw [hzs]; rfl
  have h1 : ∀ i (hi : i < zs.size), zs[i].oneCell' = true := by
    subst hzs
    intro i hi
    match i, hi with
    | 0, _ => rfl
    | 1, _ => rfl
    | 2, _ => rfl
    | 3, _ => rfl
  have hz : ∀ w, (zeroValue 24).run Try.prog w = .ok (.agg zs) w := by rw [hzs]; exact Try.zeroValue24
  clear hzs
  have hl : (Builtin.zeroCells zs n).toList.length = n * 4 := by rw [Array.length_toList, zeroCells_len, hsz]
  refine ⟨(Builtin.zeroCells zs n).toList, hl, fun ty => ?_⟩
  have hst := run_storeCells_cells (P := Try.prog) b o _ 0 w (by rw [hl]; simpa using hc) (by rw [hl]; simpa using hf) (zeroCells_one zs n (by omega) h1)
  simp only [Nat.add_zero] at hst
  obtain ⟨m, rfl⟩ : ∃ m, n = m + 1 := ⟨n - 1, by omega⟩
  simp [Builtin.clear_, run_underlying Try.underlying35, hz, hst, Value.cells]

end Go.Proofs.Ytdlhleblolcjpab
