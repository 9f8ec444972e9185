/-
  The contract of pads: the two masked keys; nothing that was there turns.
-/
import Derived.Test.YtfpdiafedoppnaaDoorBehind
import Derived.Deep.DeepCutAuto
import Derived.Laws.CopyOwn
namespace Go.Proofs.YtfpdiafedoppnaaDoor
open Go.RowKit

theorem Tryd.infoPad : (Tryd.prog.info? 79).map (·.size) = some 64 := by kernel_rfl

/-- two results handed back out of variables of its own -/
theorem results_cell2 {P : Program} {fn : Func} {p q : Tmp} {ty : TypeId} {tmps : Array Value} {w : World} {b o b' o' : Nat} {cs cs' : List Value} {d : TypeDesc} (h : fn.results = #[.cell p ty, .cell q ty]) (hp : tmps.getD p undef = .pointer (some ⟨b, o, none⟩)) (hq : tmps.getD q undef = .pointer (some ⟨b', o', none⟩)) (hc : w.rangeAt b o cs) (hc' : w.rangeAt b' o' cs')
    (hu : P.underlying ty = some d) (hd : d.isRow = true) (hi : (P.info? ty).map (·.size) = some cs.length) (hi' : (P.info? ty).map (·.size) = some cs'.length) : (results fn tmps).run P w = .ok (.tuple #[.agg cs.toArray, .agg cs'.toArray]) w := by
  simp only [Array.getD_eq_getD_getElem?] at hp hq
  simp only [results, h]
  simp [asAddr, hp, hq, run_loadVar_mid w b o ty cs d hc hu hd hi, run_loadVar_mid w b' o' ty cs' d hc' hu hd hi']

/-- copy of bytes, nil or not, into a row's middle -/
theorem wpList_copy_holds {w : World} {ops : Array Oper} {rest : List Oper} {o : Oper} {a : Act} {Q : Exit → Act → World → Prop} (hgd : o.guard = none) (d s : Operand)
    (ho : o.op = .call { callee := .builtin .copy, args := #[d, s], argTypes := #[38, 38] })
    (g off dLen dCap : Nat) (ao : Option Addr) (n c : Nat) (k : List UInt8) (hd : a.eval d = .slice (some ⟨g, off, none⟩) dLen dCap) (hs : a.eval s = .slice ao n c) (hk : k.length = n) (hn : n ≤ dLen) (hl : Holds w ao c k) (ht : w.there g off n)
    (h : ∀ w', w.setCells g off (cs k) = w' → wpList Tryd.prog ops Q rest (a.put o.dst (goInt n)) w') : wpList Tryd.prog ops Q (o :: rest) a w := by
  subst hk
  cases ao with
  | none =>
    obtain ⟨rfl, rfl⟩ := hl.2.1 rfl
    exact wpList_copy_nothing hgd d s 38 38 ho 5 Tryd.underlying38 Tryd.sizeU8 (some ⟨g, off, none⟩) none dLen dCap 0 0 hd hs (by simp) (h w rfl)
  | some ad =>
    refine wpList_copy_ex hgd d s 38 38 ho 5 Tryd.underlying38 Tryd.sizeU8 g off dLen dCap ad k.length c hd hs (cs k) ?_ (hl.2.2 ad rfl) ?_ (cs_one k) ?_
    · rw [cs_length]; exact (Nat.min_eq_left hn).symm
    · rw [cs_length]; exact ht
    · intro w' hw'
      rw [cs_length]
      exact h w' hw'

/-- two rows of 64 bytes in the call's own memory -/
structure TwoAt (w : World) (o i : List UInt8) (wr : World) : Prop where
  lo : o.length = 64
  li : i.length = 64
  ro : wr.rangeAt w.heap.size 0 (cs o)
  ri : wr.rangeAt (w.heap.size + 1) 0 (cs i)
  tO : wr.there w.heap.size 0 64
  tI : wr.there (w.heap.size + 1) 0 64
  bel : Below w.heap.size w wr
theorem TwoAt.below {w : World} {o i : List UInt8} {wr w' : World} (h : TwoAt w o i wr) (hb : Below wr.heap.size wr w') : TwoAt w o i w' :=
  ⟨h.lo, h.li, rangeAt_below h.ro hb, rangeAt_below h.ri hb, there_below h.tO hb, there_below h.tI hb, Below.then h.bel hb⟩
theorem TwoAt.drew {w : World} {o i : List UInt8} {wr : World} (h : TwoAt w o i wr) : TwoAt w o i wr.drew := h.below (Below.refl _ _).drew
theorem TwoAt.into {w : World} {o i : List UInt8} {wr : World} (h : TwoAt w o i wr) (p : List UInt8) (hp : p.length ≤ 64) : TwoAt w (Sm.into o p 0) i (wr.setCells w.heap.size 0 (cs p)) := by
  refine ⟨by rw [Sm.into_length _ _ _ (by have := h.lo; omega)]; exact h.lo, h.li, ?_, World.rangeAt_setCells_apart h.ri _ _ _ (.inl (by omega)), World.there_setCells h.tO _ _ _, World.there_setCells h.tI _ _ _, below_cells (Nat.le_refl _) _ _ _ h.bel⟩
  exact rangeAt_into (o := 0) (e := 0) h.ro (fun j hj => h.tO j (by omega)) (by have := h.lo; omega)
theorem TwoAt.inner {w : World} {o i : List UInt8} {wr : World} (h : TwoAt w o i wr) (p : List UInt8) (hp : p.length = 64) : TwoAt w o p (wr.setCells (w.heap.size + 1) 0 (cs p)) :=
  ⟨h.lo, hp, World.rangeAt_setCells_apart h.ro _ _ _ (.inl (by omega)), World.rangeAt_setCells_same _ _ _ _ (by rw [cs_length, hp]; exact h.tI), World.there_setCells h.tO _ _ _, World.there_setCells h.tI _ _ _, below_cells (Nat.le_succ _) _ _ _ h.bel⟩
theorem TwoAt.outer {w : World} {o i : List UInt8} {wr : World} (h : TwoAt w o i wr) (p : List UInt8) (hp : p.length = 64) : TwoAt w p i (wr.setCells w.heap.size 0 (cs p)) :=
  ⟨hp, h.li, World.rangeAt_setCells_same _ _ _ _ (by rw [cs_length, hp]; exact h.tO), World.rangeAt_setCells_apart h.ri _ _ _ (.inl (by omega)), World.there_setCells h.tO _ _ _, World.there_setCells h.tI _ _ _, below_cells (Nat.le_refl _) _ _ _ h.bel⟩
theorem range_set_other {w : World} {g : Nat} {l : List Value} (h : w.rangeAt g 0 l) (g' j : Nat) (v : Value) (hg : g ≠ g') : (w.setCell ⟨g', j, none⟩ v).rangeAt g 0 l :=
  World.rangeAt_setCells_apart h g' j [v] (.inl hg)
theorem TwoAt.set1 {w : World} {o i : List UInt8} {wr : World} (h : TwoAt w o i wr) (j : Nat) (x : UInt8) (v : Value) (hv : v = .int .u8 (x.toNat : Int)) : TwoAt w (o.set j x) i (wr.setCell ⟨w.heap.size, j, none⟩ v) := by
  subst hv
  refine ⟨by rw [List.length_set]; exact h.lo, h.li, ?_, range_set_other h.ri _ _ _ (by omega), there_set h.tO _ _ _, there_set h.tI _ _ _, h.bel.setCell (p := ⟨w.heap.size, j, none⟩) (Nat.le_refl _) _⟩
  rw [← cs_set]
  exact rangeAt_set h.ro j _
theorem TwoAt.set2 {w : World} {o i : List UInt8} {wr : World} (h : TwoAt w o i wr) (j : Nat) (x : UInt8) (v : Value) (hv : v = .int .u8 (x.toNat : Int)) : TwoAt w o (i.set j x) (wr.setCell ⟨w.heap.size + 1, j, none⟩ v) := by
  subst hv
  refine ⟨h.lo, by rw [List.length_set]; exact h.li, range_set_other h.ro _ _ _ (by omega), ?_, there_set h.tO _ _ _, there_set h.tI _ _ _, h.bel.setCell (p := ⟨w.heap.size + 1, j, none⟩) (Nat.le_succ _) _⟩
  rw [← cs_set]
  exact rangeAt_set h.ri j _

theorem two_new (w : World) : TwoAt w (Sm.zeros 64) (Sm.zeros 64) ((w.alloc (.cells (cs (Sm.zeros 64)).toArray 79)).alloc (.cells (cs (Sm.zeros 64)).toArray 79)) := by
  have B0 := below_alloc w (.cells (cs (Sm.zeros 64)).toArray 79)
  have R0 := rangeAt_new w (cs (Sm.zeros 64)).toArray 79 (cs (Sm.zeros 64)) (by simp)
  have T0 := there_new w (cs (Sm.zeros 64)).toArray 79 64 rfl
  have s0 : (w.alloc (.cells (cs (Sm.zeros 64)).toArray 79)).heap.size = w.heap.size + 1 := by simp
  generalize w.alloc (.cells (cs (Sm.zeros 64)).toArray 79) = w0 at *
  have B1 := below_alloc w0 (.cells (cs (Sm.zeros 64)).toArray 79)
  have R1 := rangeAt_new w0 (cs (Sm.zeros 64)).toArray 79 (cs (Sm.zeros 64)) (by simp)
  have T1 := there_new w0 (cs (Sm.zeros 64)).toArray 79 64 rfl
  rw [s0] at R1 T1
  exact ⟨Sm.zeros_length _, Sm.zeros_length _, rangeAt_below R0 B1, R1, there_below T0 B1, T1, Below.then B0 B1⟩

theorem key64_into (l : List UInt8) : Sm.into (Sm.zeros 64) (Mm.keyOf l) 0 = Mm.key64 l := by
  have := Mm.keyOf_length l
  rw [Mm.key64_of]
  unfold Sm.into Sm.zeros
  rw [List.take_zero, List.nil_append, Nat.zero_add, List.drop_replicate]

theorem two_cell {w : World} {g k : Nat} {l : List UInt8} {x : UInt8} (h : w.rangeAt g 0 (cs l)) (hx : l[k]? = some x) : w.cell? ⟨g, k, none⟩ = some (.int .u8 (x.toNat : Int)) := by
  have := h k (.int .u8 (x.toNat : Int)) (by simp [cs, hx])
  rwa [Nat.zero_add] at this
theorem cells_zeros (w : World) : ((w.alloc (.cells (cs (Sm.zeros 64)).toArray 79)).alloc (.cells (cs (Sm.zeros 64)).toArray 79)).heap.size = w.heap.size + 1 + 1 := by simp

set_option maxRecDepth 100000 in
set_option maxHeartbeats 1600000 in
theorem pads_any (l : List UInt8) (b : Option Addr) (c : Nat) (w : World) (hb : Holds w b c l) (hL : Laid w) (hl : l.length ≤ 100000000000) :
    Calls Tryd.prog 37 #[.slice b l.length c] w fun e w' => e = .returned (.tuple #[ba (Mm.mask 92 (Mm.key64 l)), ba (Mm.mask 54 (Mm.key64 l))]) ∧ Below w.heap.size w w' := by
  have T0 := two_new w
  have s0 := cells_zeros w
  have hKl := Mm.keyOf_length l
  have hInto := key64_into l
  by_cases h64 : l.length ≤ 64
  have q0 : ¬ (64 : Int) < (l.length : Int) := by omega
  have hke := Mm.keyOf_short l h64
  rw [hke] at hInto hKl
  have T1 := T0.into l hKl
  rw [hInto] at T1
  have h1 := hb.below T0.bel
  have t1 : ((w.alloc (.cells (cs (Sm.zeros 64)).toArray 79)).alloc (.cells (cs (Sm.zeros 64)).toArray 79)).there w.heap.size 0 l.length := fun j hj => T0.tO j (by omega)
  clear hInto hke T0 s0
  go_enter Tryd.func37, Tryd.ntmps37
  go_wp2_with (refine wpList_copy_holds rfl _ _ rfl w.heap.size 0 64 64 b l.length c l rfl rfl rfl hKl h1 t1 ?_; intro w2 hw2; have T2 := T1; change World.setCells ((w.alloc (.cells (cs (Sm.zeros 64)).toArray 79)).alloc (.cells (cs (Sm.zeros 64)).toArray 79)) w.heap.size 0 (cs l) = w2 at hw2; rw [hw2] at T2; clear hw2 T1 t1 h1)
  rotate_left
  have q0 : (64 : Int) < (l.length : Int) := by omega
  have hke := Mm.keyOf_long l h64
  go_enter Tryd.func37, Tryd.ntmps37
  go_wp2_with fail
  change Calls _ _ _ ((w.alloc (.cells (cs (Sm.zeros 64)).toArray 79)).alloc (.cells (cs (Sm.zeros 64)).toArray 79)) _
  generalize (w.alloc (.cells (cs (Sm.zeros 64)).toArray 79)).alloc (.cells (cs (Sm.zeros 64)).toArray 79) = w0 at T0 s0 ⊢
  refine (hsum_any b c l w0 (hb.below T0.bel) (hL.below T0.bel) (by omega)).mono ?_
  rintro e1 wa ⟨rfl, hba⟩
  have Ta := T0.below hba
  rw [← hke]
  have hK32 : (Mm.keyOf l).length = 32 := by rw [hke]; exact Sm.sum_length l
  generalize Mm.keyOf l = K at hKl hInto hke hK32 ⊢
  clear hke
  have HI : Hid (Sm.into (Sm.zeros 64) K 0 = Mm.key64 l) := hInto
  clear hInto
  have iD : (Tryd.prog.info? 42).map (·.size) = some (cs K).length := by rw [cs_length, hK32]; exact Tryd.infoDigest
  have oD := cs_one K
  have Tb := Ta.below (below_alloc wa (.cells (cs K).toArray 42))
  have h1 := hK32 ▸ holds_new wa K (cs K).toArray 42 (by simp)
  have T1 := Tb.into K hKl
  rw [HI.out] at T1
  have t1 : (wa.alloc (.cells (cs K).toArray 42)).there w.heap.size 0 32 := fun j hj => Tb.tO j (by omega)
  have k32 : 32 ≤ 64 := by omega
  clear T0 s0 hba Ta Tb
  go_wp2_with (first | (refine wpList_store_new rfl 42 _ _ rfl wa.heap.size rfl (cs K) rfl rfl ?hz iD oD ?_) | (refine wpList_copy_holds rfl _ _ rfl w.heap.size 0 64 64 (some ⟨wa.heap.size, 0, none⟩) 32 32 K rfl rfl hK32 k32 h1 t1 ?_; intro w2 hw2; have T2 := T1; rw [hw2] at T2; clear hw2 T1 t1 h1))
  case hz => rw [cs_length, hK32]; rfl
  all_goals
    have hX := Mm.key64_length l
    generalize hXe : Mm.key64 l = X at T2 hX
    have HX : Hid (Mm.key64 l = X) := hXe
    clear hXe
    have T3 := T2.drew.inner X hX
    have t3 : w2.drew.there (w.heap.size + 1) 0 64 := T2.drew.tI
    have h3 : Holds w2.drew (some ⟨w.heap.size, 0, none⟩) 64 X := hX ▸ holds_range T2.drew.ro
    go_still_tail 2, (by kernel_rfl)
    refine wpList_copy_holds rfl _ _ rfl (w.heap.size + 1) 0 64 64 (some ⟨w.heap.size, 0, none⟩) 64 64 X rfl rfl hX (Nat.le_refl _) h3 t3 ?_
    intro w3 hw3
    change w2.drew.setCells (w.heap.size + 1) 0 (cs X) = w3 at hw3
    rw [hw3] at T3
    clear hw3 t3 h3 T2
    go_wp2_with fail
    go_loopw [18] (fun v wr => ∃ t : Nat, v = .int .i64 (t : Int) ∧ t ≤ 64 ∧ TwoAt w (Mm.maskTo 92 X t) (Mm.maskTo 54 X t) wr) (fun v _ => 64 - (intOf v).toNat)
    case atStart => exact ⟨0, rfl, by omega, by rw [Mm.maskTo_zero, Mm.maskTo_zero]; exact T3⟩
    case round =>
      clear T3
      obtain ⟨t, rfl, ht, hT⟩ := hrel
      by_cases hlt : t < 64
      · have q1 : (t : Int) < 64 := by omega
        obtain ⟨x, hx⟩ : ∃ x, X[t]'(by omega) = x := ⟨_, rfl⟩
        have e1 := Mm.maskTo_succ 92 X t (by omega)
        have e2 := Mm.maskTo_succ 54 X t (by omega)
        have c1 := two_cell hT.ro (Mm.maskTo_at 92 X t (by omega))
        have c2 := two_cell hT.ri (Mm.maskTo_at 54 X t (by omega))
        obtain ⟨_, f1⟩ := hT.tO t hlt
        obtain ⟨_, f2⟩ := hT.tI t hlt
        rw [Nat.zero_add] at f1 f2
        rw [hx] at e1 e2 c1 c2
        have x1 : bits .xor .u8 (x.toNat : Int) 92 = (((x ^^^ 92).toNat : Nat) : Int) := Mm.xor_u8 x 92
        have x2 : bits .xor .u8 (x.toNat : Int) 54 = (((x ^^^ 54).toNat : Nat) : Int) := Mm.xor_u8 x 54
        have hT2 := (hT.set1 t (x ^^^ 92) _ rfl).set2 t (x ^^^ 54) _ rfl
        rw [← e1, ← e2] at hT2
        have HT2 : Hid _ := hT2
        clear hT hT2 e1 e2 hx
        go_wp2_with fail
        exact ⟨⟨t + 1, by simp, by omega, HT2.out⟩, by simp [intOf]; omega⟩
      · have q1 : ¬ (t : Int) < 64 := by omega
        obtain rfl : t = 64 := by omega
        rw [Mm.maskTo_all _ _ _ (by omega), Mm.maskTo_all _ _ _ (by omega)] at hT
        have lO := Mm.mask_length 92 X
        have lI := Mm.mask_length 54 X
        rw [hX] at lO lI
        generalize hO : Mm.mask 92 X = O at hT lO
        generalize hI : Mm.mask 54 X = I at hT lI
        have HO : Hid (Mm.mask 92 X = O) := hO
        have HI2 : Hid (Mm.mask 54 X = I) := hI
        have r1 := hT.ro
        have r2 := hT.ri
        have P1 := hT.outer O lO
        have iO : (Tryd.prog.info? 79).map (·.size) = some (cs O).length := by rw [cs_length, lO]; exact Tryd.infoPad
        have iI : (Tryd.prog.info? 79).map (·.size) = some (cs I).length := by rw [cs_length, lI]; exact Tryd.infoPad
        have oO := cs_one O
        have oI := cs_one I
        have t1 : wr.there w.heap.size 0 (cs O).length := by rw [cs_length, lO]; exact hT.tO
        clear hO hI hT hlt q1
        go_wp2_with (first | (refine wpList_load_mid rfl 79 _ rfl w.heap.size 0 rfl (cs O) _ r1 Tryd.underlying79 rfl iO ?_) | (refine wpList_load_mid rfl 79 _ rfl (w.heap.size + 1) 0 rfl (cs I) _ r2 Tryd.underlying79 rfl iI ?_) | (refine wpList_store_ex rfl 79 _ _ rfl w.heap.size 0 (cs O) rfl rfl t1 iO oO ?_; intro w6 hw6; have P2 := P1; rw [hw6] at P2; have P3 := P2.inner I lI; have t2 : w6.there (w.heap.size + 1) 0 (cs I).length := (cs_length I).symm ▸ lI.symm ▸ P2.tI; clear t1 hw6 P1 r1 r2) | (refine wpList_store_ex rfl 79 _ _ rfl (w.heap.size + 1) 0 (cs I) rfl rfl t2 iI oI ?_; intro w7 hw7; have P4 := P3; rw [hw7] at P4; clear t2 hw7 P3 P2))
        refine bodyPost_ret (results_cell2 (b := w.heap.size) (o := 0) (b' := w.heap.size + 1) (o' := 0) (cs := cs O) (cs' := cs I) rfl rfl rfl P4.ro P4.ri Tryd.underlying79 rfl iO iI) rfl ⟨?_, P4.bel⟩
        rw [← HO.out, ← HI2.out, ← HX.out]
end Go.Proofs.YtfpdiafedoppnaaDoor
