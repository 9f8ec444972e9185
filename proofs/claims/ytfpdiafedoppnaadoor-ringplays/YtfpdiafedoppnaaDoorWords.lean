/-
  The contract of what spreads a block over all rounds.
-/
import Derived.Test.YtfpdiafedoppnaaDoorTurn
import Derived.Deep.WholeRow
namespace Go.Proofs.YtfpdiafedoppnaaDoor
open Go.RowKit

theorem Tryd.infoWords : (Tryd.prog.info? 92).map (·.size) = some 64 := by kernel_rfl
theorem Tryd.infoBlock : (Tryd.prog.info? 98).map (·.size) = some 64 := by kernel_rfl

abbrev ba (l : List UInt8) : Value := .agg (cs l).toArray

/-- t words, and zeros up to 64 -/
def wz (l : List Sm.Wd) : List Value := ws l ++ List.replicate (64 - l.length) (wv 0)

theorem by_cell {w : World} {g : Nat} {b : List UInt8} (h : w.rangeAt g 0 (cs b)) (j : Nat) (hj : j < b.length) : w.cell? ⟨g, j, none⟩ = some (.int .u8 ((Sm.by' b j).toNat : Int)) := by
  have := h j _ (cs_get b j hj)
  rw [Nat.zero_add] at this
  rw [this, Sm.by', List.getD_eq_getElem?_getD, List.getElem?_eq_getElem hj]; rfl
theorem wz_length (l : List Sm.Wd) (h : l.length ≤ 64) : (wz l).length = 64 := by simp [wz, ws_length]; omega
theorem at_cell {w : World} {g : Nat} {l : List Sm.Wd} (h : w.rangeAt g 0 (wz l)) (j : Nat) (hj : j < l.length) : w.cell? ⟨g, j, none⟩ = some (wv (Sm.at' l j)) := by
  have e : (wz l)[j]? = some (wv (Sm.at' l j)) := by
    rw [wz, List.getElem?_append_left (by rw [ws_length]; exact hj)]
    simp [ws, Sm.at', hj]
  have := h j _ e
  rwa [Nat.zero_add] at this

theorem rangeAt_set {w : World} {g : Nat} {l : List Value} (h : w.rangeAt g 0 l) (j : Nat) (v : Value) : (w.setCell ⟨g, j, none⟩ v).rangeAt g 0 (l.set j v) := fun k u hu => by
  rw [Nat.zero_add]
  by_cases e : j = k
  · subst e
    have hj : j < l.length := by have := (List.getElem?_eq_some_iff.1 hu).1; rwa [List.length_set] at this
    have h0 := h j _ (List.getElem?_eq_getElem hj)
    rw [Nat.zero_add] at h0
    rw [List.getElem?_set_self hj] at hu
    rw [World.cell?_setCell_same _ _ _ h0, hu]
  · rw [List.getElem?_set_ne e] at hu
    have h0 := h k _ hu
    rw [Nat.zero_add] at h0
    rw [World.cell?_setCell_other _ _ _ _ (by intro h; cases h; exact e rfl)]
    exact h0
theorem rangeAt_other {w : World} {g g' o j : Nat} {l : List Value} (h : w.rangeAt g o l) (hne : g ≠ g') (v : Value) : (w.setCell ⟨g', j, none⟩ v).rangeAt g o l := fun k u hu => by
  rw [World.cell?_setCell_other _ _ _ _ (by intro h; cases h; exact hne rfl)]
  exact h k u hu
theorem there_set {w : World} {g o n : Nat} (h : w.there g o n) (g' j : Nat) (v : Value) : (w.setCell ⟨g', j, none⟩ v).there g o n := World.there_setCells h g' j [v]

theorem rangeAt_new (w : World) (c : Array Value) (t : TypeId) (l : List Value) (h : c.toList = l) : (w.alloc (.cells c t)).rangeAt w.heap.size 0 l := fun j v hv => by
  rw [cell_of_row _ _ _ c t (0, 0) (heap_alloc_new w _), Nat.zero_add, ← Array.getElem?_toList, h]
  exact hv

theorem ws_one (l : List Sm.Wd) : ∀ u ∈ ws l, u.oneCell' = true := by
  intro u hu
  obtain ⟨_, _, rfl⟩ := List.mem_map.1 hu
  rfl

theorem wpList_store_at {P : Program} {ops : Array Oper} {rest : List Oper} {op : Oper} {a : Act} {w : World} {Q : Exit → Act → World → Prop} (hgd : op.guard = none) (ty : TypeId) (x y : Operand) (ho : op.op = .store ty x y)
    (b o : Nat) (V : List Value) (hx : a.eval x = .pointer (some ⟨b, o, none⟩)) (hy : a.eval y = .agg V.toArray)
    (ht : w.there b o V.length) (hi : (P.info? ty).map (·.size) = some V.length) (h1 : ∀ u ∈ V, u.oneCell' = true)
    (h : wpList P ops Q rest (a.put op.dst undef) (w.setCells b o V)) : wpList P ops Q (op :: rest) a w :=
  wpList_store_mid hgd ty x y ho b o V.toArray hx hy (by simpa using ht) (by simpa using hi) (all_oneCell_toArray h1) (by simpa using h)

/-- .. the world behind it under a name -/
theorem wpList_store_ex {P : Program} {ops : Array Oper} {rest : List Oper} {op : Oper} {a : Act} {w : World} {Q : Exit → Act → World → Prop} (hgd : op.guard = none) (ty : TypeId) (x y : Operand) (ho : op.op = .store ty x y)
    (b o : Nat) (V : List Value) (hx : a.eval x = .pointer (some ⟨b, o, none⟩)) (hy : a.eval y = .agg V.toArray)
    (ht : w.there b o V.length) (hi : (P.info? ty).map (·.size) = some V.length) (h1 : ∀ u ∈ V, u.oneCell' = true)
    (h : ∀ w', w.setCells b o V = w' → wpList P ops Q rest (a.put op.dst undef) w') : wpList P ops Q (op :: rest) a w :=
  wpList_store_at hgd ty x y ho b o V hx hy ht hi h1 (h _ rfl)

/-- a whole row into the block that was made last -/
theorem wpList_store_new {P : Program} {ops : Array Oper} {rest : List Oper} {op : Oper} {a : Act} {w : World} {Q : Exit → Act → World → Prop} {Z : Array Value} (hgd : op.guard = none) (ty : TypeId) (x y : Operand) (ho : op.op = .store ty x y)
    (g : Nat) (hg : g = w.heap.size) (V : List Value) (hx : a.eval x = .pointer (some ⟨g, 0, none⟩)) (hy : a.eval y = .agg V.toArray)
    (hz : Z.size = V.length) (hi : (P.info? ty).map (·.size) = some V.length) (h1 : ∀ u ∈ V, u.oneCell' = true)
    (h : wpList P ops Q rest (a.put op.dst undef) (w.alloc (.cells V.toArray ty))) : wpList P ops Q (op :: rest) a (w.alloc (.cells Z ty)) :=
  wpList_plain hgd fun K hK => by
    subst hg
    unfold Oper.wp execOp
    simp only [ho, hx, hy, Instr.storeAt, Instr.sureAddr, Sem.run_bind, Sem.run_pure, Result.andThen_ok, run_storeVar_new (P := P) w ty Z V.toArray (by simpa using hi) (by simpa using hz) (all_oneCell_toArray h1)]
    exact hK _ _ h

/-- how far the spreading has come: t words lie in the block g, zeros behind them -/
structure WordsAt (w : World) (b : List UInt8) (g r x t : Nat) (wr : World) : Prop where
  le : t ≤ 64
  bytes : wr.rangeAt x 0 (cs b)
  words : wr.rangeAt g 0 (wz (Sm.words b t))
  there : wr.there g 0 64
  res : wr.there r 0 64
  bel : Below w.heap.size w wr

theorem WordsAt.next {w : World} {b : List UInt8} {g r x t : Nat} {wr : World} (h : WordsAt w b g r x t wr) (ht : t < 64) (hg : w.heap.size ≤ g) (hx : x ≠ g) (v : Value) (hv : v = wv (Sm.next b (Sm.words b t))) :
    WordsAt w b g r x (t + 1) (wr.setCell ⟨g, t, none⟩ v) := by
  subst hv
  refine ⟨ht, rangeAt_other h.bytes hx _, ?_, there_set h.there _ _ _, there_set h.res _ _ _, h.bel.setCell (p := ⟨g, t, none⟩) hg _⟩
  have e : wz (Sm.words b (t + 1)) = (wz (Sm.words b t)).set t (wv (Sm.next b (Sm.words b t))) := by
    have hl := Sm.words_length b t
    unfold wz
    rw [Sm.words_length, hl, Sm.words_succ, List.set_append_right t _ (by rw [ws_length, hl]; omega), ws_length, hl, Nat.sub_self, show 64 - t = (64 - (t + 1)) + 1 by omega, List.replicate_succ, List.set_cons_zero, ws, ws, List.map_append, List.append_assoc]
    rfl
  rw [e]
  exact rangeAt_set h.words t _
theorem WordsAt.drew {w : World} {b : List UInt8} {g r x t : Nat} {wr : World} (h : WordsAt w b g r x t wr) : WordsAt w b g r x t wr.drew := ⟨h.le, fun j v hv => h.bytes j v hv, fun j v hv => h.words j v hv, fun j hj => h.there j hj, fun j hj => h.res j hj, h.bel.drew⟩
theorem WordsAt.drewN {w : World} {b : List UInt8} {g r x t : Nat} {wr : World} (h : WordsAt w b g r x t wr) (n : Nat) : WordsAt w b g r x t (wr.drewN n) := ⟨h.le, fun j v hv => h.bytes j v hv, fun j v hv => h.words j v hv, fun j hj => h.there j hj, fun j hj => h.res j hj, below_drewN h.bel n⟩

set_option maxRecDepth 100000 in
set_option maxHeartbeats 800000 in
theorem words_any (b : List UInt8) (w : World) (hb : b.length = 64) :
    Calls Tryd.prog 58 #[ba b] w fun r w' => r = .returned (wa (Sm.words b 64)) ∧ Below w.heap.size w w' := by
  go_enter Tryd.func58, Tryd.ntmps58
  go_wp2_with fail
  go_loopw [7] (fun v wr => ∃ t : Nat, v = .int .i64 (t : Int) ∧ WordsAt w b (w.heap.size + 1 + 1) (w.heap.size + 1) w.heap.size t wr) (fun v _ => 64 - (intOf v).toNat)
  case atStart =>
    refine ⟨0, rfl, by omega, ?_, ?_, ?_, ?_, ?_⟩
    · exact World.rangeAt_alloc (World.rangeAt_alloc (rangeAt_new _ _ _ _ (by simp)) _) _
    · have := rangeAt_new ((w.alloc (.cells (cs b).toArray 98)).alloc (.cells (wz []).toArray 92)) (wz []).toArray 92 (wz []) (by simp)
      simp at this
      rw [Sm.words_zero b]
      exact this
    · have := there_new ((w.alloc (.cells (cs b).toArray 98)).alloc (.cells (wz []).toArray 92)) (wz []).toArray 92 64 rfl
      simp at this
      exact this
    · have := there_new (w.alloc (.cells (cs b).toArray 98)) (wz []).toArray 92 64 rfl
      simp at this
      exact World.there_alloc this _
    · exact Below.then (below_alloc _ _) (Below.then (below_alloc _ _) (below_alloc _ _))
  case round =>
    obtain ⟨t, rfl, hrel⟩ := hrel
    have hl := Sm.words_length b t
    have ht := hrel.le
    by_cases h64 : t < 64
    · have hst := hrel.there t h64
      rw [Nat.zero_add] at hst
      obtain ⟨hs1, hs2⟩ := hst
      obtain ⟨u0, hu0⟩ := Option.isSome_iff_exists.1 hs1
      clear hs1
      have k1 : (t : Int) < 64 := by omega
      by_cases h16 : t < 16
      · obtain ⟨m, hm⟩ : ∃ m, m = 4 * t := ⟨_, rfl⟩
        obtain ⟨m1, hm1⟩ : ∃ m1, m1 = m + 1 := ⟨_, rfl⟩
        obtain ⟨m2, hm2⟩ : ∃ m2, m2 = m + 2 := ⟨_, rfl⟩
        obtain ⟨m3, hm3⟩ : ∃ m3, m3 = m + 3 := ⟨_, rfl⟩
        have c0 := by_cell hrel.bytes m (by omega)
        have c1 := by_cell hrel.bytes m1 (by omega)
        have c2 := by_cell hrel.bytes m2 (by omega)
        have c3 := by_cell hrel.bytes m3 (by omega)
        have w0 : IntKind.i64.wrap (4 * (t : Int)) = (m : Int) := by rw [IntKind.wrap_i64]; omega
        have w1 : IntKind.i64.wrap ((m : Int) + 1) = (m1 : Int) := by rw [IntKind.wrap_i64]; omega
        have w2 : IntKind.i64.wrap ((m : Int) + 2) = (m2 : Int) := by rw [IntKind.wrap_i64]; omega
        have w3 : IntKind.i64.wrap ((m : Int) + 3) = (m3 : Int) := by rw [IntKind.wrap_i64]; omega
        have q0 : (m : Int) < 64 := by omega
        have q1 : (m1 : Int) < 64 := by omega
        have q2 : (m2 : Int) < 64 := by omega
        have q3 : (m3 : Int) < 64 := by omega
        have HM : Hid (m = 4 * t ∧ m1 = m + 1 ∧ m2 = m + 2 ∧ m3 = m + 3) := ⟨hm, hm1, hm2, hm3⟩
        clear hm hm1 hm2 hm3
        have k0 : (t : Int) < 16 := by omega
        go_wp2_with fail
        go_still_tail 31, (by kernel_rfl)
        go_wp2_with fail
        refine ⟨⟨t + 1, by simp, ?_⟩, by simp [intOf]; omega⟩
        refine (hrel.next h64 (by omega) (by omega) _ ?_).drew
        rw [Sm.word_spell b t m m1 m2 m3 HM.out, Sm.next_lo b t h16]
      · obtain ⟨m2, hm2⟩ : ∃ m2, m2 = t - 2 := ⟨_, rfl⟩
        obtain ⟨m7, hm7⟩ : ∃ m7, m7 = t - 7 := ⟨_, rfl⟩
        obtain ⟨mf, hmf⟩ : ∃ mf, mf = t - 15 := ⟨_, rfl⟩
        obtain ⟨mg, hmg⟩ : ∃ mg, mg = t - 16 := ⟨_, rfl⟩
        have c2 := at_cell hrel.words m2 (by omega)
        have c7 := at_cell hrel.words m7 (by omega)
        have cf := at_cell hrel.words mf (by omega)
        have cg := at_cell hrel.words mg (by omega)
        have w2 : IntKind.i64.wrap ((t : Int) - 2) = (m2 : Int) := by rw [IntKind.wrap_i64]; omega
        have w7 : IntKind.i64.wrap ((t : Int) - 7) = (m7 : Int) := by rw [IntKind.wrap_i64]; omega
        have wf : IntKind.i64.wrap ((t : Int) - 15) = (mf : Int) := by rw [IntKind.wrap_i64]; omega
        have wg : IntKind.i64.wrap ((t : Int) - 16) = (mg : Int) := by rw [IntKind.wrap_i64]; omega
        have q2 : (m2 : Int) < 64 := by omega
        have q7 : (m7 : Int) < 64 := by omega
        have qf : (mf : Int) < 64 := by omega
        have qg : (mg : Int) < 64 := by omega
        have HM : Hid (m2 = t - 2 ∧ m7 = t - 7 ∧ mf = t - 15 ∧ mg = t - 16) := ⟨hm2, hm7, hmf, hmg⟩
        clear hm2 hm7 hmf hmg
        have k0 : ¬ (t : Int) < 16 := by omega
        go_wp2_with fail
        go_quiet (first | (go_at_call 60; exact (rot_at _ _ _ (by decide) (by decide)).mono fun _ _ hh => ⟨hh.1, _, hh.2⟩))
        revert nq
        intro n1
        go_wp2_with fail
        go_quiet (first | (go_at_call 60; exact (rot_at _ _ _ (by decide) (by decide)).mono fun _ _ hh => ⟨hh.1, _, hh.2⟩))
        have r2 := (hrel.drewN n1).drewN nq
        have d7 : ((wr.drewN n1).drewN nq).cell? ⟨w.heap.size + 1 + 1, m7, none⟩ = _ := c7
        have dg : ((wr.drewN n1).drewN nq).cell? ⟨w.heap.size + 1 + 1, mg, none⟩ = _ := cg
        have du : ((wr.drewN n1).drewN nq).cell? ⟨w.heap.size + 1 + 1, t, none⟩ = _ := hu0
        have ds : ((wr.drewN n1).drewN nq).frozen? ⟨w.heap.size + 1 + 1, t, none⟩ = _ := hs2
        clear c2 c7 cf cg hu0 hs2 hrel
        generalize (wr.drewN n1).drewN nq = W at *
        go_wp2_with fail
        go_still_tail 15, (by kernel_rfl)
        go_wp2_with fail
        refine ⟨⟨t + 1, by simp, ?_⟩, by simp [intOf]; omega⟩
        refine (r2.next h64 (by omega) (by omega) _ ?_).drew
        obtain ⟨e2, e7, ef, eg⟩ := HM.out
        rw [Sm.next_spell, Sm.next_hi b t h16, e2, e7, ef, eg]
    · obtain rfl : t = 64 := by omega
      have hW : wr.rangeAt (w.heap.size + 1 + 1) 0 (ws (Sm.words b 64)) := by
        have := hrel.words
        rwa [wz, Sm.words_length, Nat.sub_self, List.replicate_zero, List.append_nil] at this
      have hsz : (ws (Sm.words b 64)).length = 64 := by rw [ws_length, hl]
      have hI : (Tryd.prog.info? 92).map (·.size) = some (ws (Sm.words b 64)).length := by rw [hsz]; exact Tryd.infoWords
      have hT : wr.there (w.heap.size + 1) 0 (ws (Sm.words b 64)).length := by rw [hsz]; exact hrel.res
      have h1 := ws_one (Sm.words b 64)
      have hfin : (wr.setCells (w.heap.size + 1) 0 (ws (Sm.words b 64))).rangeAt (w.heap.size + 1) 0 (ws (Sm.words b 64)) := World.rangeAt_setCells_same _ _ _ _ (by rw [hsz]; exact hrel.res)
      have hbel := below_cells (Nat.le_succ _) (ws (Sm.words b 64)) 0 wr hrel.bel
      clear hrel hl ht hsz
      generalize hV : ws (Sm.words b 64) = V at *
      have HV : Hid (ws (Sm.words b 64) = V) := hV
      clear hV
      go_wp2_with (first | (refine wpList_load_mid rfl 92 _ rfl (w.heap.size + 1 + 1) 0 rfl V _ hW Tryd.underlying92 rfl hI ?_) | (refine wpList_store_at rfl 92 _ _ rfl (w.heap.size + 1) 0 V rfl rfl hT hI h1 ?_))
      refine bodyPost_ret (results_cell (b := w.heap.size + 1) (o := 0) (cs := V) rfl rfl hfin Tryd.underlying92 rfl hI) rfl ⟨?_, hbel⟩
      rw [← HV.out]
end Go.Proofs.YtfpdiafedoppnaaDoor
