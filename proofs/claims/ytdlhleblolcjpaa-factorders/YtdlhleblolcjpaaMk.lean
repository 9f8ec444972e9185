/-
  Facts are made: constants and Args in memory of the call's own.
-/
import Derived.Test.YtdlhleblolcjpaaOrd
import Derived.Deep.MidRow
namespace Go.Proofs.Ytdlhleblolcjpaa
open Go.RowKit Go.Sort

theorem results_cell {P : Program} {fn : Func} {p : Tmp} {ty : TypeId} {tmps : Array Value} {w : World} {b o : Nat} {cs : List Value} {d : TypeDesc} (h : fn.results = #[.cell p ty]) (hp : tmps.getD p undef = .pointer (some ⟨b, o, none⟩)) (hc : w.rangeAt b o cs)
    (hu : P.underlying ty = some d) (hd : d.isRow = true) (hi : (P.info? ty).map (·.size) = some cs.length) : (results fn tmps).run P w = .ok (.agg cs.toArray) w := by
  simp only [Array.getD_eq_getD_getElem?] at hp
  simp only [results, h]
  simp [asAddr, hp, run_loadVar_mid w b o ty cs d hc hu hd hi]

theorem range_new (w : World) (c : Array Value) (t : TypeId) (cs : List Value) (h : c.toList = cs) : (w.alloc (.cells c t)).rangeAt w.heap.size 0 cs := fun j v hv => by
  subst h
  simp at hv
  simp [hv]

theorem num_at (n : Int) (w : World) : Calls Try.prog 35 #[.int .i64 n] w fun e w' => e = .returned (kval ⟨true, n, []⟩) ∧ Grew w w' := by
  go_enter Try.func35, Try.ntmps35
  go_wp2
  exact bodyPost_ret (results_cell (b := w.heap.size) (o := 0) (cs := kv ⟨true, n, []⟩) rfl rfl (range_new _ _ _ _ rfl) Try.underlying23 rfl (by kernel_rfl)) rfl ⟨rfl, (Grew.refl _).allocs _⟩

theorem Try.infoK : (Try.prog.info? 23).map (fun i => (i.zero, i.size, i.bytes)) = some (some (.agg #[.bool false, .int .i64 0, .string .empty]), 3, 32) := by kernel_rfl
theorem Try.infoF : (Try.prog.info? 30).map (fun i => (i.zero, i.size, i.bytes)) = some (some (.agg #[.string .empty, .string .empty, .string .empty, .slice none 0 0]), 4, 72) := by kernel_rfl

/-- a row of constants of the call's own -/
theorem own_args {w : World} {base : Nat} {v : Value} {n : Nat} {ks : List K} (h : w.ownsRow base 23 3 v n (kcells ks)) (hf : ks.length ≤ 4398046510976) :
    ∃ a c, v = .slice a ks.length c ∧ ArgsAt w a c ks ∧ ∀ ad, a = some ad → base ≤ ad.block := by
  have hn : ks.length = n := by have := h.1; rw [kcells_len] at this; omega
  subst hn
  rcases h.2 with ⟨hv, h0⟩ | ⟨g, cap, cur, hv, hb, hg, hnc, hcm, hcs, ht⟩
  · have : ks = [] := List.eq_nil_of_length_eq_zero h0
    subst this
    exact ⟨none, 0, hv, ArgsAt.nil w, fun _ h => by cases h⟩
  · refine ⟨some ⟨g, 0, none⟩, cap, hv, ⟨hnc, hf, (fun h => by cases h), fun ad ha j u hu => ?_⟩, (fun ad ha => by cases ha; exact hb)⟩
    cases ha
    have hj : j < ks.length * 3 := by have := (List.getElem?_eq_some_iff.1 hu).1; rwa [kcells_len] at this
    rw [← ht, List.getElem?_take, if_pos hj] at hu
    rw [Addr.add_lit, Nat.zero_add]
    simp only [World.cell?, hg]
    simpa using hu

/-- Args lie in a block of constants -/
def TagK (w : World) (a : Option Addr) : Prop := ∀ ad, a = some ad → ∃ cur : Array Value, w.heap[ad.block]? = some (.cells cur 23)
theorem heap_lt {w : World} {b : Nat} {o : Obj} (h : w.heap[b]? = some o) : b < w.heap.size := by
  rcases Nat.lt_or_ge b w.heap.size with h' | h'
  · exact h'
  · simp [h'] at h
theorem TagK.below {w w' : World} {a : Option Addr} (h : TagK w a) (hb : Below w.heap.size w w') : TagK w' a := fun ad ha => by
  obtain ⟨cur, hc⟩ := h ad ha
  exact ⟨cur, (hb.block _ (heap_lt hc)).trans hc⟩
theorem TagK.setCell {w : World} {a : Option Addr} (h : TagK w a) (p : Addr) (u : Value) (hp : ∀ ad, a = some ad → ad.block ≠ p.block) : TagK (w.setCell p u) a := fun ad ha => by
  obtain ⟨cur, hc⟩ := h ad ha
  exact ⟨cur, (Below.heap_setCell w p u _ (hp ad ha)).trans hc⟩
theorem own_args_tag {w : World} {base : Nat} {a : Option Addr} {m c n : Nat} {ks : List K} (h : w.ownsRow base 23 3 (.slice a m c) n (kcells ks)) : TagK w a := fun ad ha => by
  rcases h.2 with ⟨h0, _⟩ | ⟨g, cap, cur, hv, _, hh, _⟩
  · cases h0; cases ha
  · cases hv; cases ha; exact ⟨cur, hh⟩

/-- append([]Const(nil), args...) -/
theorem wpList_append_ks (w : World) {ops : Array Oper} {rest : List Oper} {o : Oper} {a : Act} {Q : Exit → Act → World → Prop} (hgd : o.guard = none) (s x : Operand)
    (ho : o.op = .call { callee := .builtin .append, args := #[s, x], argTypes := #[28, 28] })
    (ks : List K) (ao : Option Addr) (c : Nat) (hs : a.eval s = .slice none 0 0) (hx : a.eval x = .slice ao ks.length c) (hl : ArgsAt w ao c ks)
    (h : ∀ a' c' w', ArgsAt w' a' c' ks → (∀ ad, a' = some ad → w.heap.size ≤ ad.block) → Below w.heap.size w w' → TagK w' a' → wpList Try.prog ops Q rest (a.put o.dst (.slice a' ks.length c')) w') : wpList Try.prog ops Q (o :: rest) a w := by
  obtain ⟨i0, hi, hz0, hz1, hz2⟩ := info_parts Try.infoK
  have hown : w.ownsRow w.heap.size 23 3 (.slice none 0 0) 0 (kcells []) := ⟨rfl, .inl ⟨rfl, rfl⟩⟩
  cases ao with
  | none =>
    obtain ⟨rfl, rfl⟩ := hl.void rfl
    exact wpList_append_own_none hgd s x 28 ho w.heap.size 23 i0 3 Try.underlying28 hi _ 0 (kcells []) hs hown hx (h none 0 w (ArgsAt.nil w) (fun _ h => by cases h) (Below.refl _ _) (fun _ h => by cases h))
  | some ad =>
    have hf := hl.few
    refine wpList_append_own w hgd s x 28 ho w.heap.size 23 i0 _ 3 32 Try.underlying28 hi hz0 hz1 hz2 rfl (by decide) _ 0 (kcells []) hs hown ad ks.length c (kcells ks) hx (kcells_len ks) (hl.cells ad rfl) (kcells_one ks) (by unfold maxLen; omega) (by omega) (Nat.le_refl _) ?_
    intro v' w' ho' hg' hn'
    have hbel : Below w.heap.size w w' := (Below.refl _ _).grown hg' (Nat.le_refl _) (fun k hk => by cases hk)
    have ho2 : w'.ownsRow w.heap.size 23 3 v' (0 + ks.length) (kcells ks) := by simpa [kcells] using ho'
    obtain ⟨a', c', rfl, hA, hF⟩ := own_args (ks := ks) ho2 hf
    exact h a' c' w' hA hF hbel (own_args_tag ho2)

theorem heap_cell {w : World} {b : Nat} {c : Array Value} {t : TypeId} (h : w.heap[b]? = some (.cells c t)) (j : Nat) : w.cell? ⟨b, j, none⟩ = c[j]? := by simp [World.cell?, h]
theorem heap_frozen {w : World} {b : Nat} {c : Array Value} {t : TypeId} (h : w.heap[b]? = some (.cells c t)) (j : Nat) : w.frozen? ⟨b, j, none⟩ = false := by simp [World.frozen?, h]

theorem addr_add_block (a : Addr) (n : Nat) : (a.add n).block = a.block := by unfold Addr.add; split <;> rfl
theorem ArgsAt.setCell {w : World} {a : Option Addr} {c : Nat} {ks : List K} (h : ArgsAt w a c ks) (p : Addr) (u : Value) (hp : ∀ ad, a = some ad → ad.block ≠ p.block) : ArgsAt (w.setCell p u) a c ks :=
  ⟨h.room, h.few, h.void, fun ad ha j v hv => by
    rw [← h.cells ad ha j v hv]
    exact World.cell?_of_block (w := w) (Below.heap_setCell w p u _ (by rw [addr_add_block]; exact hp ad ha))⟩

theorem heap_alloc2 (w : World) (o1 o2 : Obj) : ((w.alloc o1).alloc o2).heap[w.heap.size]? = some o1 ∧ ((w.alloc o1).alloc o2).heap[w.heap.size + 1]? = some o2 := by
  refine ⟨(Below.heap_alloc _ _ _ (by simp)).trans (heap_alloc_new w _), ?_⟩
  have := heap_alloc_new (w.alloc o1) o2
  rwa [show (w.alloc o1).heap.size = w.heap.size + 1 by simp] at this

set_option maxHeartbeats 1000000 in
theorem clone_at (x : Fv) (w : World) (hx : Fv.At w x) : Calls Try.prog 40 #[x.val] w fun e w' => ∃ a c, e = .returned (Fv.val { x with a := a, cap := c }) ∧ ArgsAt w' a c x.ks ∧ (∀ ad, a = some ad → w.heap.size ≤ ad.block) ∧ Below w.heap.size w w' ∧ TagK w' a := by
  obtain ⟨x1, x2, x3, xa, xc, xk⟩ := x
  have hx : ArgsAt w xa xc xk := hx
  have hx1 : ∀ o o' : Obj, ArgsAt ((w.alloc o).alloc o') xa xc xk := fun o o' => hx.below (B := w.heap.size) ((below_alloc _ _).alloc (by simp) _) (Nat.le_refl _)
  go_enter Try.func40, Try.ntmps40
  go_wp2_with (at_builtin; refine wpList_append_ks _ rfl _ _ rfl xk xa xc rfl rfl (hx1 _ _) ?ap)
  case ap =>
    intro a' c' w' hA hF hB hT
    have h1 : w'.heap[w.heap.size]? = some (.cells #[str x1, str x2, str x3, .slice xa xk.length xc] 30) := (hB.block _ (by omega)).trans (heap_alloc2 _ _ _).1
    have h2 : w'.heap[w.heap.size + 1]? = some (.cells #[.string .empty, .string .empty, .string .empty, .slice none 0 0] 30) := (hB.block _ (by omega)).trans (heap_alloc2 _ _ _).2
    have b0 := heap_cell h1 0; have b1 := heap_cell h1 1; have b2 := heap_cell h1 2; have b3 := heap_cell h1 3; have b4 := heap_frozen h1 3
    have d0 := heap_cell h2 0; have d1 := heap_cell h2 1; have d2 := heap_cell h2 2; have d3 := heap_cell h2 3
    have e0 := heap_frozen h2 0; have e1 := heap_frozen h2 1; have e2 := heap_frozen h2 2; have e3 := heap_frozen h2 3
    simp at b0 b1 b2 b3 d0 d1 d2 d3
    have hBw : Below w.heap.size w w' := ((below_alloc _ _).alloc (by simp) _).trans (hB.mono (by omega))
    clear h1 h2 hB
    go_wp2_with fail
    refine bodyPost_ret (results_cell (b := w.heap.size + 1) (o := 0) (cs := fv ⟨x1, x2, x3, a', c', xk⟩) rfl rfl ?_ Try.underlying30 rfl (by kernel_rfl)) rfl ⟨a', c', rfl, ?_, fun ad ha => by have := hF ad ha; omega, ?_, ?_⟩
    · intro j v hv
      match j, hv with
      | 0, hv => simp [fv] at hv; subst hv; simp [World.cell?_setCell_other, World.cell?_setCell_same', d0]
      | 1, hv => simp [fv] at hv; subst hv; simp [World.cell?_setCell_other, World.cell?_setCell_same', d1]
      | 2, hv => simp [fv] at hv; subst hv; simp [World.cell?_setCell_other, World.cell?_setCell_same', d2]
      | 3, hv => simp [fv] at hv; subst hv; simp [World.cell?_setCell_other, World.cell?_setCell_same', d3]
      | j + 4, hv => simp [fv] at hv
    · have hne : ∀ ad : Addr, a' = some ad → ad.block ≠ w.heap.size := fun ad ha => by have := hF ad ha; omega
      have hne' : ∀ ad : Addr, a' = some ad → ad.block ≠ w.heap.size + 1 := fun ad ha => by have := hF ad ha; omega
      exact ((((hA.setCell _ _ hne).setCell _ _ hne').setCell _ _ hne').setCell _ _ hne').setCell _ _ hne'
    · exact ((((hBw.setCell (p := ⟨w.heap.size, 3, none⟩) (Nat.le_refl _) _).setCell (p := ⟨w.heap.size + 1, 0, none⟩) (Nat.le_succ _) _).setCell (p := ⟨w.heap.size + 1, 1, none⟩) (Nat.le_succ _) _).setCell (p := ⟨w.heap.size + 1, 2, none⟩) (Nat.le_succ _) _).setCell (p := ⟨w.heap.size + 1, 3, none⟩) (Nat.le_succ _) _
    · have hne : ∀ ad : Addr, a' = some ad → ad.block ≠ w.heap.size := fun ad ha => by have := hF ad ha; omega
      have hne' : ∀ ad : Addr, a' = some ad → ad.block ≠ w.heap.size + 1 := fun ad ha => by have := hF ad ha; omega
      exact ((((hT.setCell _ _ hne).setCell _ _ hne').setCell _ _ hne').setCell _ _ hne').setCell _ _ hne'

set_option maxHeartbeats 1000000 in
theorem own_at (who pred : List UInt8) (xa : Option Addr) (xc : Nat) (xk : List K) (w : World) (hx : ArgsAt w xa xc xk) : Calls Try.prog 34 #[str who, str pred, .slice xa xk.length xc] w fun e w' => ∃ a c, e = .returned (Fv.val ⟨who, who, pred, a, c, xk⟩) ∧ ArgsAt w' a c xk ∧ (∀ ad, a = some ad → w.heap.size ≤ ad.block) ∧ Below w.heap.size w w' := by
  have hC := fun (W : World) (h : ArgsAt W xa xc xk) => clone_at ⟨who, who, pred, xa, xc, xk⟩ W h
  have hx1 : ∀ o : Obj, ArgsAt (w.alloc o) xa xc xk := fun o => hx.below (B := w.heap.size) (below_alloc _ _) (Nat.le_refl _)
  go_enter Try.func34, Try.ntmps34
  go_wp2_with fail
  refine (hC _ (hx1 _)).mono ?_
  rintro e w' ⟨a', c', rfl, hA, hF, hB, _⟩
  have h2 : w'.heap[w.heap.size]? = some (.cells #[.string .empty, .string .empty, .string .empty, .slice none 0 0] 30) := (hB.block _ (by simp)).trans (heap_alloc_new _ _)
  have d0 := heap_cell h2 0; have d1 := heap_cell h2 1; have d2 := heap_cell h2 2; have d3 := heap_cell h2 3
  have e0 := heap_frozen h2 0; have e1 := heap_frozen h2 1; have e2 := heap_frozen h2 2; have e3 := heap_frozen h2 3
  simp at d0 d1 d2 d3
  have hF' : ∀ ad : Addr, a' = some ad → w.heap.size + 1 ≤ ad.block := fun ad ha => by have := hF ad ha; simpa using this
  have hBw : Below w.heap.size w w' := Below.then (below_alloc _ _) hB
  clear h2 hB hC hx1 hF
  go_wp2_with fail
  refine bodyPost_ret (results_cell (b := w.heap.size) (o := 0) (cs := fv ⟨who, who, pred, a', c', xk⟩) rfl rfl ?_ Try.underlying30 rfl (by kernel_rfl)) rfl ⟨a', c', rfl, ?_, fun ad ha => by have := hF' ad ha; omega, ?_⟩
  · intro j v hv
    match j, hv with
    | 0, hv => simp [fv] at hv; subst hv; simp [World.cell?_setCell_other, World.cell?_setCell_same', d0]
    | 1, hv => simp [fv] at hv; subst hv; simp [World.cell?_setCell_other, World.cell?_setCell_same', d1]
    | 2, hv => simp [fv] at hv; subst hv; simp [World.cell?_setCell_other, World.cell?_setCell_same', d2]
    | 3, hv => simp [fv] at hv; subst hv; simp [World.cell?_setCell_other, World.cell?_setCell_same', d3]
    | j + 4, hv => simp [fv] at hv
  · have hne : ∀ ad : Addr, a' = some ad → ad.block ≠ w.heap.size := fun ad ha => by have := hF' ad ha; omega
    exact (((hA.setCell _ _ hne).setCell _ _ hne).setCell _ _ hne).setCell _ _ hne
  · exact (((hBw.setCell (p := ⟨w.heap.size, 0, none⟩) (Nat.le_refl _) _).setCell (p := ⟨w.heap.size, 1, none⟩) (Nat.le_refl _) _).setCell (p := ⟨w.heap.size, 2, none⟩) (Nat.le_refl _) _).setCell (p := ⟨w.heap.size, 3, none⟩) (Nat.le_refl _) _

end Go.Proofs.Ytdlhleblolcjpaa
