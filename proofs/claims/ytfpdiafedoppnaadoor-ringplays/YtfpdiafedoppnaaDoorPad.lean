/-
  The contract of what pads the last bytes of a text.
-/
import Derived.Test.YtfpdiafedoppnaaDoorAfter
import Derived.Test.YtfpdiafedoppnaaDoorSm2
import Derived.Deep.DeepCutAuto
namespace Go.Proofs.YtfpdiafedoppnaaDoor
open Go.RowKit

theorem cs_set (l : List UInt8) (j : Nat) (x : UInt8) : (cs l).set j (.int .u8 (x.toNat : Int)) = cs (l.set j x) := by rw [cs, cs, List.map_set]

structure PadAt (w : World) (s : List Sm.Wd) (t : List UInt8) (wr : World) : Prop where
  st : wr.rangeAt w.heap.size 0 (ws s)
  stT : wr.there w.heap.size 0 8
  tl : wr.rangeAt (w.heap.size + 1) 0 (cs t)
  tlT : wr.there (w.heap.size + 1) 0 64
  res : wr.there (w.heap.size + 1 + 1) 0 8
  laid : Laid wr
  bel : Below w.heap.size w wr
  sz : 1 < w.heap.size
theorem PadAt.below {w : World} {s : List Sm.Wd} {t : List UInt8} {wr w' : World} (h : PadAt w s t wr) (hb : Below wr.heap.size wr w') : PadAt w s t w' :=
  ⟨rangeAt_below h.st hb, there_below h.stT hb, rangeAt_below h.tl hb, there_below h.tlT hb, there_below h.res hb, h.laid.below hb, Below.then h.bel hb, h.sz⟩
theorem PadAt.byte {w : World} {s : List Sm.Wd} {t : List UInt8} {wr : World} (h : PadAt w s t wr) (e : Nat) (x : UInt8) (v : Value) (hv : v = .int .u8 (x.toNat : Int)) : PadAt w s (t.set e x) (wr.setCell ⟨w.heap.size + 1, e, none⟩ v) := by
  subst hv
  have := h.sz
  refine ⟨rangeAt_other h.st (by omega) _, there_set h.stT _ _ _, ?_, there_set h.tlT _ _ _, there_set h.res _ _ _, h.laid.cells _ e [_] (by omega), h.bel.setCell (p := ⟨w.heap.size + 1, e, none⟩) (Nat.le_succ _) _, h.sz⟩
  rw [← cs_set]
  exact rangeAt_set h.tl e _
theorem PadAt.state {w : World} {s : List Sm.Wd} {t : List UInt8} {wr : World} (h : PadAt w s t wr) (s' : List Sm.Wd) (hs : s'.length = 8) : PadAt w s' t (wr.setCells w.heap.size 0 (ws s')) := by
  have := h.sz
  exact ⟨World.rangeAt_setCells_same _ _ _ _ (by rw [ws_length, hs]; exact h.stT), World.there_setCells h.stT _ _ _, World.rangeAt_setCells_apart h.tl _ _ _ (.inl (by omega)), World.there_setCells h.tlT _ _ _, World.there_setCells h.res _ _ _, h.laid.cells _ _ _ (by omega), below_cells (Nat.le_refl _) _ _ _ h.bel, h.sz⟩
theorem PadAt.tail {w : World} {s : List Sm.Wd} {t : List UInt8} {wr : World} (h : PadAt w s t wr) (t' : List UInt8) (ht : t'.length = 64) : PadAt w s t' (wr.setCells (w.heap.size + 1) 0 (cs t')) := by
  have := h.sz
  exact ⟨World.rangeAt_setCells_apart h.st _ _ _ (.inl (by omega)), World.there_setCells h.stT _ _ _, World.rangeAt_setCells_same _ _ _ _ (by rw [cs_length, ht]; exact h.tlT), World.there_setCells h.tlT _ _ _, World.there_setCells h.res _ _ _, h.laid.cells _ _ _ (by omega), below_cells (Nat.le_succ _) _ _ _ h.bel, h.sz⟩
theorem PadAt.start {w : World} (s : List Sm.Wd) (t : List UInt8) (hL : Laid w) (hs : s.length = 8) (ht : t.length = 64) (Z : Array Value) (hZ : Z.size = 8) :
    PadAt w s t (((w.alloc (.cells (ws s).toArray 97)).alloc (.cells (cs t).toArray 98)).alloc (.cells Z 97)) := by
  have B := Below.then (below_alloc w (.cells (ws s).toArray 97)) (Below.then (below_alloc _ (.cells (cs t).toArray 98)) (below_alloc _ (.cells Z 97)))
  refine ⟨World.rangeAt_alloc (World.rangeAt_alloc (rangeAt_new w _ _ (ws s) (by simp)) _) _, World.there_alloc (World.there_alloc (there_new w _ _ 8 (by simp [ws_length, hs])) _) _, World.rangeAt_alloc ?_ _, World.there_alloc ?_ _, ?_, hL.below B, B, hL.size⟩
  · simpa using rangeAt_new (w.alloc (.cells (ws s).toArray 97)) (cs t).toArray 98 (cs t) (by simp)
  · simpa using there_new (w.alloc (.cells (ws s).toArray 97)) (cs t).toArray 98 64 (by simp [cs_length, ht])
  · simpa using there_new ((w.alloc (.cells (ws s).toArray 97)).alloc (.cells (cs t).toArray 98)) Z 97 8 hZ
theorem there_len {w : World} {g o : Nat} (h : w.there g o 64) : w.there g o (cs (Sm.zeros 64)).length := by rw [cs_length, Sm.zeros_length]; exact h
theorem after_at (s : List Sm.Wd) (b : List UInt8) (v x : Value) (w : World) (hv : v = wa s) (hx : x = ba b) (hs : s.length = 8) (hb : b.length = 64) (hL : Laid w) :
    Calls Tryd.prog 55 #[v, x] w fun r w' => r = .returned (wa (Sm.after s b)) ∧ Below w.heap.size w w' := by
  subst hv hx
  exact after_any s b w hs hb hL

set_option maxRecDepth 100000 in
set_option maxHeartbeats 1600000 in
theorem padded_any (s : List Sm.Wd) (b : List UInt8) (n : Nat) (w : World) (hs : s.length = 8) (hb : b.length = 64) (hn : n ≤ 1000000000000) (hL : Laid w) :
    Calls Tryd.prog 57 #[wa s, ba b, .int .i64 (n : Int)] w fun r w' => r = .returned (wa (Sm.finish s b n)) ∧ Below w.heap.size w w' := by
  obtain ⟨e, he⟩ : ∃ e, e = n % 64 := ⟨_, rfl⟩
  have k0 : (n : Int) % 64 = (e : Int) := by omega
  have k1 : (e : Int) < 64 := by omega
  have k2 : (n : Int) ≤ 1000000000000 := by omega
  have ce := cs_get b e (by omega)
  have iS : ∀ s : List Sm.Wd, s.length = 8 → (Tryd.prog.info? 97).map (·.size) = some (ws s).length := fun s hs => by rw [ws_length, hs]; exact Tryd.infoState
  have iB : ∀ b : List UInt8, b.length = 64 → (Tryd.prog.info? 98).map (·.size) = some (cs b).length := fun b hb => by rw [cs_length, hb]; exact Tryd.infoBlock
  have hb1 : (b.set e 128).length = 64 := by rw [List.length_set, hb]
  have P0 : PadAt w s (b.set e 128) (((w.alloc (.cells (ws s).toArray 97)).alloc (.cells ((cs b).set e (.int .u8 128)).toArray 98)).alloc (.cells #[.int .u32 0, .int .u32 0, .int .u32 0, .int .u32 0, .int .u32 0, .int .u32 0, .int .u32 0, .int .u32 0] 97)) := by
    have := PadAt.start s (b.set e 128) hL hs hb1 #[.int .u32 0, .int .u32 0, .int .u32 0, .int .u32 0, .int .u32 0, .int .u32 0, .int .u32 0, .int .u32 0] rfl
    rw [← cs_set] at this
    exact this
  have HE : Hid (e = n % 64) := he
  clear he
  by_cases h56 : 56 ≤ e
  · have k3 : (56 : Int) ≤ (e : Int) := by omega
    go_enter Tryd.func57, Tryd.ntmps57
    go_wp2_with (first | (refine wpList_load_mid rfl 97 _ rfl w.heap.size 0 rfl (ws s) _ P0.st Tryd.underlying97 rfl (iS s hs) ?_) | (refine wpList_load_mid rfl 98 _ rfl (w.heap.size + 1) 0 rfl (cs (b.set e 128)) _ P0.tl Tryd.underlying98 rfl (iB _ hb1) ?_))
    refine (after_any s (b.set e 128) _ hs hb1 P0.laid).mono ?_
    rintro r1 w1 ⟨rfl, hbw⟩
    have P1 := P0.below hbw
    have hl1 := Sm.after_length s (b.set e 128) hs
    have HF : Hid (Sm.finish s b n = Sm.after (Sm.after s (b.set e 128)) (Sm.lenInto (Sm.zeros 64) n 8)) := by
      rw [Sm.finish_def, ← HE.out, if_pos h56]; trivial
    have o1 := ws_one (Sm.after s (b.set e 128))
    have o2 := cs_one (Sm.zeros 64)
    generalize Sm.after s (b.set e 128) = S at *
    have t1 : w1.there w.heap.size 0 (ws S).length := by rw [ws_length, hl1]; exact P1.stT
    clear P0 hbw ce
    go_wp2_with (first | (refine wpList_store_ex rfl 97 _ _ rfl w.heap.size 0 (ws S) rfl rfl t1 (iS S hl1) o1 ?_; intro w2 hw2; have P2 : PadAt w S (b.set e 128) w2 := hw2 ▸ P1.state S hl1; have t2 : w2.there (w.heap.size + 1) 0 (cs (Sm.zeros 64)).length := there_len P2.tlT; clear P1 t1 hw2) | (refine wpList_store_ex rfl 98 _ _ rfl (w.heap.size + 1) 0 (cs (Sm.zeros 64)) rfl rfl t2 (iB _ (Sm.zeros_length 64)) o2 ?_; intro w3 hw3; have P3 : PadAt w S (Sm.zeros 64) w3 := hw3 ▸ P2.tail (Sm.zeros 64) (Sm.zeros_length 64); clear P2 t2 hw3))
    obtain ⟨T, eT⟩ : ∃ T, T = Sm.zeros 64 := ⟨_, rfl⟩
    rw [← eT] at P3 HF
    have hT : T.length = 64 := by rw [eT]; exact Sm.zeros_length 64
    have hS := hl1
    clear eT hl1
    have q1 : (n : Int) ≤ 1000000000000 := by omega
    go_loopw [23] (fun v wr => ∃ k : Nat, v = .int .i64 (k : Int) ∧ k ≤ 8 ∧ PadAt w S (Sm.lenInto T n k) wr) (fun v _ => 8 - (intOf v).toNat)
    case atStart => exact ⟨0, rfl, by omega, by rw [Sm.lenInto_zero]; exact P3⟩
    case round =>
      clear P3
      obtain ⟨k, rfl, hk, hr⟩ := hrel
      have hll := Sm.lenInto_length T n k
      by_cases h8 : k < 8
      · have r1 : (k : Int) < 8 := by omega
        obtain ⟨j, hj⟩ : ∃ j, j + k = 63 := ⟨63 - k, by omega⟩
        obtain ⟨m, hm⟩ : ∃ m, m = 8 * k := ⟨_, rfl⟩
        have r2 : (63 : Int) - (k : Int) = (j : Int) := by omega
        have r3 : (8 : Int) * (k : Int) = (m : Int) := by omega
        have r4 : (j : Int) < 64 := by omega
        have hst := hr.tlT j (by omega)
        rw [Nat.zero_add] at hst
        obtain ⟨hs1, hs2⟩ := hst
        obtain ⟨u0, hu0⟩ := Option.isSome_iff_exists.1 hs1
        clear hs1
        have hnx := hr.byte j (Sm.lenByte n k) _ rfl
        rw [show j = 63 - k by omega, ← Sm.lenInto_succ, show 63 - k = j by omega] at hnx
        have HM : Hid (m = 8 * k) := hm
        clear hm hj
        go_wp2_with fail
        refine ⟨⟨k + 1, by simp, by omega, ?_⟩, by simp [intOf]; omega⟩
        rw [Sm.lenByte_spell n k (by omega), ← HM.out] at hnx
        exact hnx
      · have e8 : k = 8 := by omega
        rw [e8] at hr hll
        clear e8
        have r1 : ¬ (k : Int) < 8 := by omega
        clear h8 hk
        have al := Sm.after_length S (Sm.lenInto T n 8) hS
        rw [← HF.out] at al
        have b64 : (Sm.lenInto T n 8).length = 64 := by rw [hll, hT]
        go_wp2_with (first | (refine wpList_load_mid rfl 97 _ rfl w.heap.size 0 rfl (ws S) _ hr.st Tryd.underlying97 rfl (iS S hS) ?_) | (refine wpList_load_mid rfl 98 _ rfl (w.heap.size + 1) 0 rfl (cs (Sm.lenInto T n 8)) _ hr.tl Tryd.underlying98 rfl (iB _ b64) ?_))
        refine (after_any S (Sm.lenInto T n 8) wr hS b64 hr.laid).mono ?_
        rintro r5 w5 ⟨rfl, hb5⟩
        rw [← HF.out]
        have P5 := hr.below hb5
        have o5 := ws_one (Sm.finish s b n)
        have t5 : w5.there (w.heap.size + 1 + 1) 0 (ws (Sm.finish s b n)).length := by rw [ws_length, al]; exact P5.res
        have P6 := below_cells (by omega : w.heap.size ≤ w.heap.size + 1 + 1) (ws (Sm.finish s b n)) 0 w5 P5.bel
        have R6 := World.rangeAt_setCells_same w5 (w.heap.size + 1 + 1) 0 (ws (Sm.finish s b n)) t5
        clear hr P5 hb5
        go_wp2_with (refine wpList_store_ex rfl 97 _ _ rfl (w.heap.size + 1 + 1) 0 (ws (Sm.finish s b n)) rfl rfl t5 (iS _ al) o5 ?_; intro w6 hw6; rw [hw6] at P6 R6; clear t5 hw6)
        exact bodyPost_ret (results_cell (b := w.heap.size + 1 + 1) (o := 0) (cs := ws (Sm.finish s b n)) rfl rfl R6 Tryd.underlying97 rfl (iS _ al)) rfl ⟨rfl, P6⟩
  · have k3 : ¬ (56 : Int) ≤ (e : Int) := by omega
    have HF : Hid (Sm.finish s b n = Sm.after s (Sm.lenInto (b.set e 128) n 8)) := by
      rw [Sm.finish_def, ← HE.out, if_neg h56]; trivial
    go_enter Tryd.func57, Tryd.ntmps57
    go_wp2_with fail
    have P3 := P0
    clear P0
    generalize b.set e 128 = T at *
    have hT := hb1
    have hS := hs
    clear hb1
    have q1 : (n : Int) ≤ 1000000000000 := by omega
    go_loopw [23] (fun v wr => ∃ k : Nat, v = .int .i64 (k : Int) ∧ k ≤ 8 ∧ PadAt w s (Sm.lenInto T n k) wr) (fun v _ => 8 - (intOf v).toNat)
    case atStart => exact ⟨0, rfl, by omega, by rw [Sm.lenInto_zero]; exact P3⟩
    case round =>
      clear P3
      obtain ⟨k, rfl, hk, hr⟩ := hrel
      have hll := Sm.lenInto_length T n k
      by_cases h8 : k < 8
      · have r1 : (k : Int) < 8 := by omega
        obtain ⟨j, hj⟩ : ∃ j, j + k = 63 := ⟨63 - k, by omega⟩
        obtain ⟨m, hm⟩ : ∃ m, m = 8 * k := ⟨_, rfl⟩
        have r2 : (63 : Int) - (k : Int) = (j : Int) := by omega
        have r3 : (8 : Int) * (k : Int) = (m : Int) := by omega
        have r4 : (j : Int) < 64 := by omega
        have hst := hr.tlT j (by omega)
        rw [Nat.zero_add] at hst
        obtain ⟨hs1, hs2⟩ := hst
        obtain ⟨u0, hu0⟩ := Option.isSome_iff_exists.1 hs1
        clear hs1
        have hnx := hr.byte j (Sm.lenByte n k) _ rfl
        rw [show j = 63 - k by omega, ← Sm.lenInto_succ, show 63 - k = j by omega] at hnx
        have HM : Hid (m = 8 * k) := hm
        clear hm hj
        go_wp2_with fail
        refine ⟨⟨k + 1, by simp, by omega, ?_⟩, by simp [intOf]; omega⟩
        rw [Sm.lenByte_spell n k (by omega), ← HM.out] at hnx
        exact hnx
      · have e8 : k = 8 := by omega
        rw [e8] at hr hll
        clear e8
        have r1 : ¬ (k : Int) < 8 := by omega
        clear h8 hk
        have al := Sm.after_length s (Sm.lenInto T n 8) hS
        rw [← HF.out] at al
        have b64 : (Sm.lenInto T n 8).length = 64 := by rw [hll, hT]
        go_wp2_with (first | (refine wpList_load_mid rfl 97 _ rfl w.heap.size 0 rfl (ws s) _ hr.st Tryd.underlying97 rfl (iS s hS) ?_) | (refine wpList_load_mid rfl 98 _ rfl (w.heap.size + 1) 0 rfl (cs (Sm.lenInto T n 8)) _ hr.tl Tryd.underlying98 rfl (iB _ b64) ?_))
        refine (after_any s (Sm.lenInto T n 8) wr hS b64 hr.laid).mono ?_
        rintro r5 w5 ⟨rfl, hb5⟩
        rw [← HF.out]
        have P5 := hr.below hb5
        have o5 := ws_one (Sm.finish s b n)
        have t5 : w5.there (w.heap.size + 1 + 1) 0 (ws (Sm.finish s b n)).length := by rw [ws_length, al]; exact P5.res
        have P6 := below_cells (by omega : w.heap.size ≤ w.heap.size + 1 + 1) (ws (Sm.finish s b n)) 0 w5 P5.bel
        have R6 := World.rangeAt_setCells_same w5 (w.heap.size + 1 + 1) 0 (ws (Sm.finish s b n)) t5
        clear hr P5 hb5
        go_wp2_with (refine wpList_store_ex rfl 97 _ _ rfl (w.heap.size + 1 + 1) 0 (ws (Sm.finish s b n)) rfl rfl t5 (iS _ al) o5 ?_; intro w6 hw6; rw [hw6] at P6 R6; clear t5 hw6)
        exact bodyPost_ret (results_cell (b := w.heap.size + 1 + 1) (o := 0) (cs := ws (Sm.finish s b n)) rfl rfl R6 Tryd.underlying97 rfl (iS _ al)) rfl ⟨rfl, P6⟩
end Go.Proofs.YtfpdiafedoppnaaDoor
