/-
  The contract of a block's step. The program's two tables lie as its text lays them.
-/
import Derived.Test.YtfpdiafedoppnaaDoorWords
namespace Go.Proofs.YtfpdiafedoppnaaDoor
open Go.RowKit

/-- the program's two tables -/
structure Laid (w : World) : Prop where
  start : w.rangeAt 0 0 (ws Sm.start)
  mix : w.rangeAt 1 0 (ws Sm.mix)
theorem rangeAt_below {w w' : World} {b o : Nat} {l : List Value} (h : w.rangeAt b o l) (hb : Below w.heap.size w w') : w'.rangeAt b o l := fun j v hv => by
  have := h j v hv
  rw [hb.cell (cell_block this)]; exact this
theorem there_below {w w' : World} {b o n : Nat} (h : w.there b o n) (hb : Below w.heap.size w w') : w'.there b o n := fun j hj => by
  obtain ⟨h1, h2⟩ := h j hj
  obtain ⟨v, hv⟩ := Option.isSome_iff_exists.1 h1
  have := cell_block hv
  exact ⟨by rw [hb.cell this, hv]; rfl, by rw [hb.frozen this]; exact h2⟩
theorem Laid.below {w w' : World} (h : Laid w) (hb : Below w.heap.size w w') : Laid w' := ⟨rangeAt_below h.start hb, rangeAt_below h.mix hb⟩
theorem range_word {w : World} {g : Nat} {l : List Sm.Wd} (h : w.rangeAt g 0 (ws l)) (j : Nat) (hj : j < l.length) : w.cell? ⟨g, j, none⟩ = some (wv (Sm.at' l j)) := by
  have e : (ws l)[j]? = some (wv (Sm.at' l j)) := by simp [ws, Sm.at', hj]
  have := h j _ e
  rwa [Nat.zero_add] at this
theorem ws_set (l : List Sm.Wd) (j : Nat) (x : Sm.Wd) : (ws l).set j (wv x) = ws (l.set j x) := by rw [ws, ws, List.map_set]

/-- how far the rounds have come -/
structure TurnsAt (w : World) (s W r : List Sm.Wd) (g5 g6 : Nat) (wr : World) : Prop where
  st : wr.rangeAt w.heap.size 0 (ws s)
  stT : wr.there w.heap.size 0 8
  res : wr.there (w.heap.size + 1 + 1) 0 8
  wd : wr.rangeAt g5 0 (ws W)
  r : wr.rangeAt g6 0 (ws r)
  rT : wr.there g6 0 8
  laid : Laid wr
  bel : Below w.heap.size w wr
  lo : w.heap.size + 1 + 1 < g5
  hi : g5 < g6
theorem TurnsAt.below {w : World} {s W r : List Sm.Wd} {g5 g6 : Nat} {wr w' : World} (h : TurnsAt w s W r g5 g6 wr) (hb : Below wr.heap.size wr w') : TurnsAt w s W r g5 g6 w' :=
  ⟨rangeAt_below h.st hb, there_below h.stT hb, there_below h.res hb, rangeAt_below h.wd hb, rangeAt_below h.r hb, there_below h.rT hb, h.laid.below hb, Below.then h.bel hb, h.lo, h.hi⟩
theorem Laid.cells {w : World} (h : Laid w) (g o : Nat) (V : List Value) (hg : 1 < g) : Laid (w.setCells g o V) :=
  ⟨World.rangeAt_setCells_apart h.start _ _ _ (.inl (by omega)), World.rangeAt_setCells_apart h.mix _ _ _ (.inl (by omega))⟩
theorem Laid.size {w : World} (h : Laid w) : 1 < w.heap.size := by
  have := h.mix 0 _ rfl
  exact cell_block this
theorem TurnsAt.store {w : World} {s W r : List Sm.Wd} {g5 g6 : Nat} {wr : World} (h : TurnsAt w s W r g5 g6 wr) (hw : 1 < w.heap.size) (r' : List Sm.Wd) (hr : r'.length = 8) : TurnsAt w s W r' g5 g6 (wr.setCells g6 0 (ws r')) := by
  have h1 := h.lo
  have h2 := h.hi
  refine ⟨World.rangeAt_setCells_apart h.st _ _ _ (.inl (by omega)), World.there_setCells h.stT _ _ _, World.there_setCells h.res _ _ _, World.rangeAt_setCells_apart h.wd _ _ _ (.inl (by omega)), ?_, World.there_setCells h.rT _ _ _, h.laid.cells _ _ _ (by omega), below_cells (by omega) _ _ _ h.bel, h1, h2⟩
  exact World.rangeAt_setCells_same _ _ _ _ (by rw [ws_length, hr]; exact h.rT)
theorem TurnsAt.drew {w : World} {s W r : List Sm.Wd} {g5 g6 : Nat} {wr : World} (h : TurnsAt w s W r g5 g6 wr) : TurnsAt w s W r g5 g6 wr.drew := h.below (Below.refl _ _).drew
/-- one of the state's words gets its sum -/
theorem TurnsAt.sum {w : World} {s r W : List Sm.Wd} {g5 g6 i : Nat} {wr : World} (h : TurnsAt w (Sm.mixed s r i) W r g5 g6 wr) (hw : 1 < w.heap.size) (hs : s.length = 8) (hr : r.length = 8) (hi : i < 8) (v : Value) (hv : v = wv (Sm.at' s i + Sm.at' r i)) :
    TurnsAt w (Sm.mixed s r (i + 1)) W r g5 g6 (wr.setCell ⟨w.heap.size, i, none⟩ v) := by
  subst hv
  have h1 := h.lo
  have h2 := h.hi
  refine ⟨?_, there_set h.stT _ _ _, there_set h.res _ _ _, rangeAt_other h.wd (by omega) _, rangeAt_other h.r (by omega) _, there_set h.rT _ _ _, h.laid.cells _ i [_] (by omega), h.bel.setCell (p := ⟨w.heap.size, i, none⟩) (Nat.le_refl _) _, h1, h2⟩
  rw [Sm.mixed_succ s r i hs hr hi, ← ws_set]
  exact rangeAt_set h.st i _

set_option maxRecDepth 100000 in
set_option maxHeartbeats 1600000 in
theorem after_any (s : List Sm.Wd) (b : List UInt8) (w : World) (hs : s.length = 8) (hb : b.length = 64) (hL : Laid w) :
    Calls Tryd.prog 55 #[wa s, ba b] w fun r w' => r = .returned (wa (Sm.after s b)) ∧ Below w.heap.size w w' := by
  have iS : (Tryd.prog.info? 97).map (·.size) = some (ws s).length := by rw [ws_length, hs]; exact Tryd.infoState
  have iB : (Tryd.prog.info? 98).map (·.size) = some (cs b).length := by rw [cs_length, hb]; exact Tryd.infoBlock
  have iW : (Tryd.prog.info? 92).map (·.size) = some (ws (Sm.words b 64)).length := by rw [ws_length, Sm.words_length]; exact Tryd.infoWords
  have sz := hL.size
  have oS := ws_one s
  have oW := ws_one (Sm.words b 64)
  go_enter Tryd.func55, Tryd.ntmps55
  go_wp2_with (first | (refine wpList_load_mid rfl 98 _ rfl (w.heap.size + 1) 0 rfl (cs b) _ ?ld Tryd.underlying98 rfl iB ?_))
  case ld => exact World.rangeAt_alloc (by simpa using rangeAt_new (w.alloc (.cells (ws s).toArray 97)) (cs b).toArray 98 (cs b) (by simp)) _
  refine (words_any b _ hb).mono ?_
  rintro e w1 ⟨rfl, hb1⟩
  have z1 : w1.rangeAt w.heap.size 0 (ws s) := rangeAt_below (World.rangeAt_alloc (World.rangeAt_alloc (rangeAt_new w _ _ (ws s) (by simp)) _) _) hb1
  have z2 : w1.there w.heap.size 0 8 := there_below (World.there_alloc (World.there_alloc (there_new w _ _ 8 (by simp [ws_length, hs])) _) _) hb1
  have z3 : w1.there (w.heap.size + 1 + 1) 0 8 := by
    refine there_below ?_ hb1
    simpa using there_new ((w.alloc (.cells (ws s).toArray 97)).alloc (.cells (cs b).toArray 98)) _ 97 8 rfl
  have z4 : Below w.heap.size w w1 := Below.then (below_alloc _ _) (Below.then (below_alloc _ _) (Below.then (below_alloc _ _) hb1))
  have z5 : w.heap.size + 1 + 1 < w1.heap.size := by have := hb1.size; simp at this; omega
  have z6 := hL.below z4
  clear hb1 hL
  go_wp2_with (first | (refine wpList_load_mid rfl 97 _ rfl w.heap.size 0 rfl (ws s) _ ?ls Tryd.underlying97 rfl iS ?_) | (refine wpList_store_new rfl 92 _ _ rfl w1.heap.size rfl (ws (Sm.words b 64)) rfl rfl ?tw iW oW ?_) | (refine wpList_store_new rfl 97 _ _ rfl (w1.heap.size + 1) ?tg (ws s) rfl rfl ?ts iS oS ?_))
  case tw => rw [ws_length, Sm.words_length]; rfl
  case ls => exact World.rangeAt_alloc z1 _
  case tg => simp
  case ts => rw [ws_length, hs]; rfl
  have wl := Sm.words_length b 64
  generalize hW : Sm.words b 64 = W at *
  have HW : Hid (Sm.words b 64 = W) := hW
  clear hW
  have T0 : TurnsAt w s W s w1.heap.size (w1.heap.size + 1) ((w1.alloc (.cells (ws W).toArray 92)).alloc (.cells (ws s).toArray 97)) := by
    have B := Below.then (below_alloc w1 (.cells (ws W).toArray 92)) (below_alloc _ (.cells (ws s).toArray 97))
    refine ⟨rangeAt_below z1 B, there_below z2 B, there_below z3 B, World.rangeAt_alloc (rangeAt_new _ _ _ _ (by simp)) _, ?_, ?_, z6.below B, Below.then z4 B, z5, Nat.lt_succ_self _⟩
    · simpa using rangeAt_new (w1.alloc (.cells (ws W).toArray 92)) (ws s).toArray 97 (ws s) (by simp)
    · simpa using there_new (w1.alloc (.cells (ws W).toArray 92)) (ws s).toArray 97 8 (by simp [ws_length, hs])
  clear z1 z2 z3 z4 z5 z6 iW oW iB
  have e0 : Sm.turns s W 0 = s := Sm.turns_zero s W
  go_loopw [12] (fun v wr => ∃ t : Nat, v = .int .i64 (t : Int) ∧ t ≤ 64 ∧ TurnsAt w s W (Sm.turns s W t) w1.heap.size (w1.heap.size + 1) wr) (fun v _ => 64 - (intOf v).toNat)
  case atStart => exact ⟨0, rfl, by omega, by rw [e0]; exact T0⟩
  case round =>
    clear T0 e0
    obtain ⟨t, rfl, ht, hr⟩ := hrel
    by_cases h64 : t < 64
    · have k1 : (t : Int) < 64 := by omega
      have tl := Sm.turns_length s W hs t
      obtain ⟨R, hR⟩ : ∃ R, R = Sm.turns s W t := ⟨_, rfl⟩
      rw [← hR] at hr tl
      have HR : Hid (R = Sm.turns s W t) := hR
      clear hR
      obtain ⟨a, b', c, d, e, f, g, i, rfl⟩ := Sm.eight tl
      have c0 := range_word hr.r 0 (by simp)
      have c1 := range_word hr.r 1 (by simp)
      have c2 := range_word hr.r 2 (by simp)
      have c3 := range_word hr.r 3 (by simp)
      have c4 := range_word hr.r 4 (by simp)
      have c5 := range_word hr.r 5 (by simp)
      have c6 := range_word hr.r 6 (by simp)
      have c7 := range_word hr.r 7 (by simp)
      simp only [Sm.at', List.getD_cons_zero, List.getD_cons_succ] at c0 c1 c2 c3 c4 c5 c6 c7
      have cm := range_word hr.laid.mix t (by rw [show Sm.mix.length = 64 from rfl]; exact h64)
      have cw := range_word hr.wd t (by omega)
      go_wp2_with fail
      go_still_tail 8, (by kernel_rfl)
      go_wp2_with fail
      rw [Sm.add_eq']
      refine (turned_any a b' c d e f g i (Sm.at' Sm.mix t + Sm.at' W t) wr.drew).mono ?_
      rintro e2 w2 ⟨rfl, hb2⟩
      have hr2 := hr.drew.below hb2
      have iT : (Tryd.prog.info? 97).map (·.size) = some (ws (Sm.turned [a, b', c, d, e, f, g, i] (Sm.at' Sm.mix t + Sm.at' W t))).length := by rw [ws_length, Sm.turned_length]; exact Tryd.infoState
      have hT : w2.there (w1.heap.size + 1) 0 (ws (Sm.turned [a, b', c, d, e, f, g, i] (Sm.at' Sm.mix t + Sm.at' W t))).length := by rw [ws_length, Sm.turned_length]; exact hr2.rT
      have oT := ws_one (Sm.turned [a, b', c, d, e, f, g, i] (Sm.at' Sm.mix t + Sm.at' W t))
      have hr3 := hr2.store sz (Sm.turned [a, b', c, d, e, f, g, i] (Sm.at' Sm.mix t + Sm.at' W t)) (Sm.turned_length _ _)
      clear hr hr2 c0 c1 c2 c3 c4 c5 c6 c7 cm cw hb2
      go_wp2_with (refine wpList_store_at rfl 97 _ _ rfl (w1.heap.size + 1) 0 (ws (Sm.turned [a, b', c, d, e, f, g, i] (Sm.at' Sm.mix t + Sm.at' W t))) rfl rfl hT iT oT ?_)
      refine ⟨⟨t + 1, by simp, by omega, ?_⟩, by simp [intOf]; omega⟩
      rw [Sm.turns_succ, ← HR.out]
      exact hr3
    · have e64 : t = 64 := by omega
      rw [e64] at hr
      clear e64
      have k1 : ¬ (t : Int) < 64 := by omega
      clear h64 ht
      have tl := Sm.turns_length s W hs 64
      obtain ⟨R, hR⟩ : ∃ R, R = Sm.turns s W 64 := ⟨_, rfl⟩
      rw [← hR] at hr tl
      have HR : Hid (R = Sm.turns s W 64) := hR
      clear hR
      go_wp2_with fail
      go_loopw [25] (fun v wr => ∃ j : Nat, v = .int .i64 (j : Int) ∧ j ≤ 8 ∧ TurnsAt w (Sm.mixed s R j) W R w1.heap.size (w1.heap.size + 1) wr) (fun v _ => 8 - (intOf v).toNat)
      case atStart => exact ⟨0, rfl, by omega, by rw [Sm.mixed_zero]; exact hr⟩
      case round =>
        clear hr
        obtain ⟨j, rfl, hj, hr⟩ := hrel
        by_cases h8 : j < 8
        · have k1 : (j : Int) < 8 := by omega
          have c0 := range_word hr.st j (by rw [Sm.mixed_length s R j hs tl]; exact h8)
          rw [Sm.at_mixed s R j hs tl h8] at c0
          have c1 := range_word hr.r j (by omega)
          have hst := (hr.stT j h8).2
          rw [Nat.zero_add] at hst
          go_wp2_with fail
          go_still_tail 8, (by kernel_rfl)
          go_wp2_with fail
          refine ⟨⟨j + 1, by simp, by omega, ?_⟩, by simp [intOf]; omega⟩
          refine (hr.sum sz hs tl h8 _ ?_).drew
          rw [Sm.add_eq']
        · obtain rfl : j = 8 := by omega
          rw [Sm.mixed_all s R hs tl, HR.out, ← HW.out] at hr
          have al := Sm.after_length s b hs
          rw [← Sm.after_def] at hr
          have iA : (Tryd.prog.info? 97).map (·.size) = some (ws (Sm.after s b)).length := by rw [ws_length, al]; exact Tryd.infoState
          have hT : wr.there (w.heap.size + 1 + 1) 0 (ws (Sm.after s b)).length := by rw [ws_length, al]; exact hr.res
          have oA := ws_one (Sm.after s b)
          have hA := hr.st
          have hfin : (wr.setCells (w.heap.size + 1 + 1) 0 (ws (Sm.after s b))).rangeAt (w.heap.size + 1 + 1) 0 (ws (Sm.after s b)) := World.rangeAt_setCells_same _ _ _ _ hT
          have hbel := below_cells (by omega : w.heap.size ≤ w.heap.size + 1 + 1) (ws (Sm.after s b)) 0 wr hr.bel
          go_wp2_with (first | (refine wpList_load_mid rfl 97 _ rfl w.heap.size 0 rfl (ws (Sm.after s b)) _ hA Tryd.underlying97 rfl iA ?_) | (refine wpList_store_at rfl 97 _ _ rfl (w.heap.size + 1 + 1) 0 (ws (Sm.after s b)) rfl rfl hT iA oA ?_))
          exact bodyPost_ret (results_cell (b := w.heap.size + 1 + 1) (o := 0) (cs := ws (Sm.after s b)) rfl rfl hfin Tryd.underlying97 rfl iA) rfl ⟨rfl, hbel⟩
end Go.Proofs.YtfpdiafedoppnaaDoor
