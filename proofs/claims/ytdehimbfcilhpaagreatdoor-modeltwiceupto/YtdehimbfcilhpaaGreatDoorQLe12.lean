/-
  slices.Insert of one fact, in the midst, where there is no room: a new row.
-/
import Derived.Lib.AppendZerosOnto
import Derived.Laws.NewBlocks
import Derived.Deep.Cut
import Derived.Test.YtdehimbfcilhpaaGreatDoorQIm13
import Derived.Test.YtdehimbfcilhpaaGreatDoorQWf12
import Derived.Test.YtdehimbfcilhpaaGreatDoorQNk
namespace Go.Proofs.YtdehimbfcilhpaaGreatDoor
open Go.RowKit Go.Lib Go.Shelf

abbrev zF : List Value := [.string ⟨#[]⟩, .string ⟨#[]⟩, .string ⟨#[]⟩, .slice none 0 0]
/-- the new row: what stood ahead of i, then nothing -/
def groR (i n G : Nat) (ys : List Fv) : Array Value := (fcells (ys.take i)).toArray ++ Builtin.zeroCells zF.toArray (n + 1 - i) ++ Builtin.zeroCells zF.toArray (G - (n + 1))
/-- .. x laid at i -/
def groA (R : Array Value) (i : Nat) (x : Fv) : Array Value := (R.toList.take (i * 4) ++ fv x ++ R.toList.drop (i * 4 + (fv x).length)).toArray
/-- .. what stood from i on behind it -/
def groB (R : Array Value) (i : Nat) (ys : List Fv) : Array Value := (R.toList.take ((i + 1) * 4) ++ fcells (ys.drop i) ++ R.toList.drop ((i + 1) * 4 + (fcells (ys.drop i)).length)).toArray
theorem zF_len (k : Nat) : (Builtin.zeroCells zF.toArray k).size = k * 4 := by
  simp [Builtin.zeroCells]
theorem groR_size {i n G : Nat} {ys : List Fv} (hn : ys.length = n) (hi : i < n) (hG : n + 1 ≤ G) : (groR i n G ys).size = G * 4 := by
  have : (fcells (ys.take i)).length = i * 4 := by rw [fcells_len, List.length_take]; omega
  simp only [groR, Array.size_append, zF_len, List.size_toArray, this]
  omega
theorem groA_size {R : Array Value} {i G : Nat} {x : Fv} (hR : R.size = G * 4) (hi : i + 1 ≤ G) : (groA R i x).size = G * 4 := by
  have hx : (fv x).length = 4 := rfl
  simp [groA, hR, hx]; omega
theorem groB_size {R : Array Value} {i n G : Nat} {ys : List Fv} (hR : R.size = G * 4) (hn : ys.length = n) (hi : i < n) (hG : n + 1 ≤ G) : (groB R i ys).size = G * 4 := by
  have hDl : (fcells (ys.drop i)).length = (ys.length - i) * 4 := by rw [fcells_len, List.length_drop]
  simp [groB, hR, hDl]; omega
theorem gro_cells {i n G : Nat} {ys : List Fv} {x : Fv} (hn : ys.length = n) (hi : i < n) : (groB (groA (groR i n G ys) i x) i ys).toList.take ((n + 1) * 4) = fcells (ys.take i ++ x :: ys.drop i) := by
  have hDl : (fcells (ys.drop i)).length = (n - i) * 4 := by rw [fcells_len, List.length_drop, hn]
  have hTl : (fcells (ys.take i)).length = i * 4 := by rw [fcells_len, List.length_take]; omega
  have hx : (fv x).length = 4 := rfl
  have e0 : fcells (ys.take i ++ x :: ys.drop i) = fcells (ys.take i) ++ fv x ++ fcells (ys.drop i) := by rw [fcells_append]; simp [fcells]
  have eR : (groR i n G ys).toList = fcells (ys.take i) ++ ((Builtin.zeroCells zF.toArray (n + 1 - i)).toList ++ (Builtin.zeroCells zF.toArray (G - (n + 1))).toList) := by simp [groR]
  have eA : (groA (groR i n G ys) i x).toList.take ((i + 1) * 4) = fcells (ys.take i) ++ fv x := by
    have : (groA (groR i n G ys) i x).toList = (fcells (ys.take i) ++ fv x) ++ (groR i n G ys).toList.drop (i * 4 + 4) := by
      unfold groA
      rw [hx, eR, ← hTl, List.take_left]
    rw [this]
    exact List.take_left' (by simp [hTl, hx]; omega)
  have eB : (groB (groA (groR i n G ys) i x) i ys).toList = (fcells (ys.take i) ++ fv x ++ fcells (ys.drop i)) ++ (groA (groR i n G ys) i x).toList.drop ((i + 1) * 4 + (fcells (ys.drop i)).length) := by
    unfold groB
    rw [eA]
  rw [eB, e0]
  exact List.take_left' (by simp [hTl, hx, hDl]; omega)

set_option maxRecDepth 100000 in
set_option maxHeartbeats 2000000 in
theorem insertGrow_at (b c i vb : Nat) (x : Fv) (ys : List Fv) (w : World) (hi : i < ys.length) (hnc : ys.length ≤ c) (hroom : c < ys.length + 1) (hc : c ≤ 1000000)
    (hcs : ∀ j v, (fcells ys)[j]? = some v → w.cell? ⟨b, j, none⟩ = some v) (hv : w.heap[vb]? = some (.cells (fv x).toArray 36)) :
    Calls Tryz.prog 64 #[.slice (some ⟨b, 0, none⟩) ys.length c, .int .i64 (i : Int), .slice (some ⟨vb, 0, none⟩) 1 1] w fun e w' => ∃ v, e = .returned v ∧ w'.ownsRow w.heap.size 36 4 v (ys.length + 1) (fcells (ys.take i ++ x :: ys.drop i)) ∧ Below w.heap.size w w' := by
  have mixed : Tryz.prog.follows .mixedOrders = true := by kernel_rfl
  have iF : (Tryz.prog.info? 36).map (·.size) = some 4 := by kernel_rfl
  obtain ⟨i0, hi0, hz0, hzs, hzb⟩ := info_parts Tryz.infoF
  obtain ⟨n, hn⟩ : ∃ n, ys.length = n := ⟨_, rfl⟩
  rw [hn] at hi hnc hroom ⊢
  have hz2 : ¬ ((i : Int) = (n : Int)) := by omega
  have hz3 : (c : Int) < (n : Int) + 1 := by omega
  have hbw : b < w.heap.size := block_lt_of_cell (hcs 0 _ (List.getElem?_eq_getElem (by rw [fcells_len]; omega)))
  have hvw : vb < w.heap.size := heap_lt hv
  have hTl : (fcells (ys.take i)).length = i * 4 := by rw [fcells_len, List.length_take]; omega
  have hDl : (fcells (ys.drop i)).length = (n - i) * 4 := by rw [fcells_len, List.length_drop, hn]
  have hkk : (n : Int) + 1 - (i : Int) = ((n + 1 - i : Nat) : Int) := by omega
  have hik : i + (n + 1 - i) = n + 1 := by omega
  have hold : (Builtin.firstCells i0.size i (.slice (some ⟨b, 0, none⟩) i c)).run Tryz.prog w.drew = .ok (fcells (ys.take i)).toArray w.drew := by
    rw [hzs]
    exact run_firstCells_some w.drew 4 i ⟨b, 0, none⟩ i c (fcells (ys.take i)) hTl (fun j v hj => by
      rw [Addr.add_lit, Nat.zero_add]
      refine hcs j v ?_
      have e := congrArg fcells (List.take_append_drop i ys)
      rw [fcells_append] at e
      rw [← e, List.getElem?_append_left (List.getElem?_eq_some_iff.1 hj).1]
      exact hj)
  have hrz : ∀ ty, (Builtin.append_ #[24, 3] ty #[.slice (some ⟨b, 0, none⟩) i c, .int .i64 ((n : Int) + 1 - (i : Int))]).run Tryz.prog w =
      .ok (.slice (some ⟨w.heap.size, 0, none⟩) (n + 1) (grownCap w (n + 1) c 36)) (w.drew.alloc (.cells (groR i n (grownCap w (n + 1) c 36) ys) 36)) := fun ty => by
    have h := Lib.run_append_grow_zeros w 24 3 ty 36 i0 _ .i64 .i64 Tryz.underlying24 Tryz.underlying3 hi0 hz0 (some ⟨b, 0, none⟩) i c (fcells (ys.take i)) hold (n + 1 - i) (by omega) (by omega) (by omega) (by omega) (by rw [hzb]; omega) (by rw [hzb, hik]; exact growslice_fits hroom (by omega))
    rw [hik] at h
    rw [hkk]
    exact h
  have hGn : n + 1 ≤ grownCap w (n + 1) c 36 := grownCap_ge w _ _ _
  have hG63 : grownCap w (n + 1) c 36 ≤ maxLen := grownCap_le_maxLen w (n + 1) c 36 (by unfold maxLen; omega)
  generalize grownCap w (n + 1) c 36 = G at *
  have hRs := groR_size hn hi hGn
  have hAs := groA_size (i := i) (x := x) hRs (by omega)
  have hBs := groB_size hAs hn hi hGn
  have hfin := gro_cells (G := G) (x := x) hn hi
  generalize groR i n G ys = R at *
  have hN1 : ∀ W : World, W = (w.alloc (.cells R 36)).drew → W.heap[w.heap.size]? = some (.cells R 36) := fun W h => by rw [h]; exact heap_alloc_new w _
  have hcpA : ∀ (W : World), W.heap[w.heap.size]? = some (.cells R 36) → W.heap[vb]? = some (.cells (fv x).toArray 36) → ∀ ty dc, (Builtin.copy_ #[24, 24] ty #[.slice (some ⟨w.heap.size, i * 4, none⟩) (n + 1 - i) dc, .slice (some ⟨vb, 0, none⟩) 1 1]).run Tryz.prog W = .ok (goInt 1) (W.setRow w.heap.size (groA R i x)) := fun W h1 h2 ty dc =>
    run_copy_k W _ _ ty 36 4 w.heap.size (i * 4) (n + 1 - i) dc 1 ⟨vb, 0, none⟩ 1 1 R 36 (fv x) Tryz.underlying24 iF h1 (by simp only [Nat.min_def]; split <;> omega) rfl
      (fun j v hj => by
        rw [Addr.add_lit, heap_cell h2]
        simpa using hj)
      (by rw [hRs]; simp [fv]; omega) (fun u hu => fcells_one [x] u (by simpa [fcells] using hu))
  have hcpB : ∀ (W : World), W.heap[w.heap.size]? = some (.cells (groA R i x) 36) → (∀ j v, (fcells ys)[j]? = some v → W.cell? ⟨b, j, none⟩ = some v) → ∀ ty dc sc, (Builtin.copy_ #[24, 24] ty #[.slice (some ⟨w.heap.size, (i + 1) * 4, none⟩) (n - i) dc, .slice (some ⟨b, i * 4, none⟩) (n - i) sc]).run Tryz.prog W = .ok (goInt ((n - i : Nat) : Int)) (W.setRow w.heap.size (groB (groA R i x) i ys)) := fun W h1 h2 ty dc sc =>
    run_copy_k W _ _ ty 36 4 w.heap.size ((i + 1) * 4) (n - i) dc (n - i) ⟨b, i * 4, none⟩ (n - i) sc (groA R i x) 36 (fcells (ys.drop i)) Tryz.underlying24 iF h1 (by simp) hDl
      (fun j v hj => by
        rw [Addr.add_lit]
        refine h2 (i * 4 + j) v ?_
        have hd := fcells_drop ys i (by omega)
        rw [hd, List.getElem?_drop] at hj
        exact hj)
      (by rw [hDl, hAs]; omega) (fcells_one _)
  have hw1 : IntKind.i64.wrap ((i : Int) + 1) = (i : Int) + 1 := by rw [IntKind.wrap_i64]; omega
  have hb1 : (0 : Int) ≤ (i : Int) + 1 := by omega
  have hin : i ≤ n := by omega
  have htn : ((i : Int) + 1).toNat = i + 1 := by omega
  have hb3 : (i : Int) ≤ (n : Int) := by omega
  have hGi : ¬ (G = i) := by omega
  have hGim : ¬ (G = i + 1) := by omega
  have hci : ¬ (c = i) := by omega
  have hb4 : (i : Int) ≤ (n : Int) + 1 := by omega
  have HF := hideP (And.intro hRs (And.intro hAs (And.intro hBs (And.intro hfin (And.intro hGn hG63)))))
  have HN := hideP hn
  have G63 : G ≤ 9223372036854775807 := by unfold maxLen at hG63; omega
  have hA1 : ((w.alloc (.cells R 36)).drew).heap[w.heap.size]? = some (.cells R 36) := heap_alloc_new w _
  have hA2 : ((w.alloc (.cells R 36)).drew).heap[vb]? = some (.cells (fv x).toArray 36) := (below_heap (below_alloc w (.cells R 36)) hv : (w.alloc (.cells R 36)).heap[vb]? = _)
  have hA3 : ∀ j v, (fcells ys)[j]? = some v → ((w.alloc (.cells R 36)).drew).cell? ⟨b, j, none⟩ = some v := fun j v hj => ((below_alloc w _).cell (p := ⟨b, j, none⟩) hbw).trans (hcs j v hj)
  have hB1 : (((w.alloc (.cells R 36)).drew).setRow w.heap.size (groA R i x)).heap[w.heap.size]? = some (.cells (groA R i x) 36) := setRow_heap _ w.heap.size R _ _ _ hA1
  have hB3 : ∀ j v, (fcells ys)[j]? = some v → (((w.alloc (.cells R 36)).drew).setRow w.heap.size (groA R i x)).drew.cell? ⟨b, j, none⟩ = some v := fun j v hj => by
    have h2 : (((w.alloc (.cells R 36)).drew).setRow w.heap.size (groA R i x)).heap[b]? = ((w.alloc (.cells R 36)).drew).heap[b]? := setRow_other _ _ _ _ (by omega)
    rw [← hA3 j v hj]
    exact World.cell?_of_block (w := (w.alloc (.cells R 36)).drew) h2
  have HA1 := hideP hA1
  have HA2 := hideP hA2
  have HB1 := hideP hB1
  have HB3 := hideP hB3
  have HA := hcpA _ hA1 hA2
  have HB := hcpB (((w.alloc (.cells R 36)).drew).setRow w.heap.size (groA R i x)).drew hB1 hB3
  clear hkk hik hold hRs hAs hBs hfin hTl hDl hn hcpA hcpB hA1 hA2 hA3 hB1 hB3 hN1
  go_enter Tryz.func64, Tryz.ntmps64
  go_upto_region 10 with (at_builtin; refine Lib.wpList_append_run _ rfl _ _ _ _ rfl _ _ rfl rfl _ _ (hrz _) ?_)
  go_wp2_with (at_builtin; trace_state; refine wpList_copy_runI _ rfl _ _ 24 24 rfl _ _ rfl rfl (HA.out _ (by exact HA1.out) (by exact HA2.out) _ _) ?_)
  go_region_law_o (fail)
  go_wp2_with fail
  go_ret
  obtain ⟨r1, r2, r3, r4, r5, r6⟩ := HF.out
  have hlen : (ys.take i ++ x :: ys.drop i).length = n + 1 := by
    rw [List.length_append, List.length_take, List.length_cons, List.length_drop, HN.out]; omega
  have HB2 := setRow_heap (((w.alloc (.cells R 36)).drew).setRow w.heap.size (groA R i x)).drew w.heap.size (groA R i x) (groB (groA R i x) i ys) 36 _ HB1.out
  refine ⟨_, rfl, ⟨by rw [fcells_len, hlen], .inr ⟨w.heap.size, G, groB (groA R i x) i ys, rfl, Nat.le_refl _, HB2, r5, r6, r3, r4⟩⟩, ?_⟩
  refine ⟨rfl, rfl, rfl, ?_, fun k hk => ?_⟩
  · simp [World.setRow]
  · have e1 : ((((w.alloc (.cells R 36)).drew).setRow w.heap.size (groA R i x)).drew.setRow w.heap.size (groB (groA R i x) i ys)).heap[k]? = (((w.alloc (.cells R 36)).drew).setRow w.heap.size (groA R i x)).heap[k]? := setRow_other _ _ _ _ (by omega)
    have e2 : (((w.alloc (.cells R 36)).drew).setRow w.heap.size (groA R i x)).heap[k]? = (w.alloc (.cells R 36)).heap[k]? := setRow_other _ _ _ _ (by omega)
    rw [e1, e2]
    exact (below_alloc w _).block k hk
end Go.Proofs.YtdehimbfcilhpaaGreatDoor

/-
  slices.Insert of one fact into a row of the call's own.
-/
namespace Go.Proofs.YtdehimbfcilhpaaGreatDoor
open Go.RowKit Go.Lib Go.Shelf

theorem insert_at (B : Nat) (a : Option Addr) (c i vb : Nat) (ys : List Fv) (x : Fv) (w : World) (ho : w.ownsRow B 36 4 (.slice a ys.length c) ys.length (fcells ys)) (hB : B ≤ w.heap.size) (hf : ys.length ≤ 100000) (hi : i ≤ ys.length) (hv : w.heap[vb]? = some (.cells (fv x).toArray 36)) (hvb : ∀ ad, a = some ad → ad.block ≠ vb) :
    Calls Tryz.prog 64 #[.slice a ys.length c, .int .i64 (i : Int), .slice (some ⟨vb, 0, none⟩) 1 1] w fun e w' => ∃ v, e = .returned v ∧ w'.ownsRow B 36 4 v (ys.length + 1) (fcells (ys.take i ++ x :: ys.drop i)) ∧ w.grownBy w' (Value.slice a ys.length c).ownBlock := by
  have hx : Lies w (some ⟨vb, 0, none⟩) 1 [x] := ⟨Nat.le_refl _, by unfold maxLen; omega, by simp, (fun h => by cases h), fun ad had j u hu => by
    cases had
    rw [Addr.add_lit, heap_cell hv, Nat.zero_add]
    simpa [fcells] using hu⟩
  rcases Nat.eq_or_lt_of_le hi with rfl | hlt
  · refine (insertEnd_at B a c ys (some ⟨vb, 0, none⟩) 1 x w ho hB (by omega) hx).mono ?_
    rintro e w' ⟨v, rfl, h1, h2⟩
    refine ⟨v, rfl, ?_, h2⟩
    rw [List.take_length, List.drop_length]
    simpa using h1
  · rcases ho.2 with ⟨_, h'⟩ | ⟨g, cap, cur, h, hg, hh, hnc, hcm, hcs, ht⟩
    · omega
    · cases h
      have hgl := heap_lt hh
      rcases Nat.lt_or_ge c (ys.length + 1) with hr | hr
      · refine (insertGrow_at g c i vb x ys w hlt hnc hr (by omega) (fun j v hj => ?_) hv).mono ?_
        · rw [heap_cell hh]
          rw [← ht] at hj
          have hj2 := (List.getElem?_eq_some_iff.1 hj).1
          rw [List.length_take] at hj2
          rw [List.getElem?_take_of_lt (by omega)] at hj
          simpa using hj
        · rintro e w' ⟨v, rfl, h1, h2⟩
          refine ⟨v, rfl, ⟨h1.1, ?_⟩, ⟨h2.os, h2.tape, h2.output, h2.size, fun k hk _ => h2.block k hk⟩⟩
          rcases h1.2 with h | ⟨g', cap', cur', e1, e2, rest⟩
          · exact .inl h
          · exact .inr ⟨g', cap', cur', e1, Nat.le_trans hB e2, rest⟩
      · refine (insertMid_at g c i vb cur x ys w hlt hr (by omega) (fun e => hvb _ rfl e.symm) hh hcs ht hv).mono ?_
        rintro e w' ⟨rfl, rfl⟩
        have hA := setRow_heap w.drew g cur (midA cur i ys) 36 _ hh
        have hBm := setRow_heap (w.drew.setRow g (midA cur i ys)) g (midA cur i ys) (midB cur i ys x) 36 _ hA
        refine ⟨_, rfl, ⟨?_, .inr ⟨g, c, midB cur i ys x, rfl, hg, hBm, hr, hcm, midB_size hlt hr hcs, midB_cells hlt hr hcs ht⟩⟩, ⟨rfl, rfl, rfl, by simp [World.setRow], fun k hk hne => ?_⟩⟩
        · rw [fcells_len, List.length_append, List.length_take, List.length_cons, List.length_drop]; omega
        · have hkg : k ≠ g := fun e => hne (by rw [e]; rfl)
          rw [setRow_other _ _ _ _ hkg, setRow_other _ _ _ _ hkg]; rfl
end Go.Proofs.YtdehimbfcilhpaaGreatDoor

/-
  model.grown: sorted facts with what follows at once from them.
-/
namespace Go.Proofs.YtdehimbfcilhpaaGreatDoor
open Go.RowKit Go.Lib Go.Shelf
attribute [local go_sem] Oper.semAt_some

theorem ins_found {l : List F} {f : F} (hs : SS l) (h : hasF l f = true) : ins l f = l :=
  (SS_ins hs f).uniq hs fun x => by
    rw [mem_ins]
    exact ⟨fun q => q.elim id fun e => by rw [e]; exact (hasF_iff _ _).1 h, .inl⟩
theorem ins_new {ys : List Fv} {z : Fv} {i : Nat} (hp : SPos ys z.f i) (hn : hasF (ys.map Fv.f) z.f = false) : ins (ys.map Fv.f) z.f = (ys.take i ++ z :: ys.drop i).map Fv.f := by
  have e : (ys.take i ++ z :: ys.drop i).map Fv.f = (ys.map Fv.f).take i ++ z.f :: (ys.map Fv.f).drop i := by simp [List.map_take, List.map_drop]
  rw [e, ins_at z.f (ys.map Fv.f) i (by simpa using hp.1) (fun j hj hji => by rw [List.getElem_map]; exact hp.2.1 j (by simpa using hj) hji) (fun hk => by rw [List.getElem_map]; have := hp.2.2 i (by simpa using hk) (Nat.le_refl _); omega)]
  split
  · rename_i hlt
    rw [if_neg]
    intro h0
    have : z.f ∈ ys.map Fv.f := by rw [← (cF_zero _ _).1 h0]; exact List.getElem_mem hlt
    rw [(hasF_iff _ _).2 this] at hn
    cases hn
  · rfl
/-- what grown comes to -/
def GrAns (d : Ml.Wd) (l : List Ru) (m n : List F) : Prop := SS n ∧ (n = Ml.step d l m ∨ (400 < n.length ∧ ∀ x ∈ n, x ∈ Ml.step d l m))
/-- between two rounds -/
structure GrI (w : World) (b7 : Nat) (d : Ml.Wd) (l : List Ru) (m : List F) (Le : Nat → Prop) (pre : List F) (W : World) : Prop where
  row : ∃ ys a c, W.heap[b7]? = some (.cells #[.slice a (List.length ys) c] 24) ∧ W.ownsRow w.heap.size 36 4 (.slice a (List.length ys) c) (List.length ys) (fcells ys) ∧ EachK W ys ∧ ys.map Fv.f = pre.foldl ins m ∧ Le ys.length
  mem : ∀ x ∈ pre, x ∈ Ml.onceL d l m
  below : Below w.heap.size w W
theorem GrI.itr {w : World} {b7 C : Nat} {d : Ml.Wd} {l : List Ru} {m : List F} {Le : Nat → Prop} {pre : List F} {W W' : World} (h : GrI w b7 d l m Le pre W) (hi : Itr 166 C W W') (hC : w.heap.size ≤ C) : GrI w b7 d l m Le pre W' := by
  obtain ⟨ys, a, c, h1, h2, h3, h4, h5⟩ := h.row
  exact ⟨⟨ys, a, c, hi.same _ _ _ _ h1 (by decide), ownsRow_itr h2 hi (by decide), h3.safe (hi.safe (by decide)), h4, h5⟩, h.mem, h.below.trans (hi.toBelow.mono hC)⟩

set_option maxRecDepth 100000 in
set_option maxHeartbeats 4000000 in
theorem grown_at (ra : Option Addr) (rc : Nat) (rs : List Rv) (ha : Option Addr) (hc : Nat) (hs : List (List UInt8)) (na : Option Addr) (nc : Nat) (ns : List (List UInt8)) (fa : Option Addr) (fc : Nat) (zs : List Fv) (w : World)
    (hi : AIn w ra rc rs ha hc hs na nc ns fa fc zs) (hl : Lies w fa fc zs) (hk : EachK w zs) (hss : SS (zs.map Fv.f)) (h4 : zs.length ≤ 400) :
    Calls Tryz.prog 37 #[wdv ha hc hs na nc ns, .slice ra rs.length rc, .slice fa zs.length fc] w fun e w' => (∃ ys a c, e = .returned (.slice a (List.length ys) c) ∧ OwF w' w.heap.size a c ys ∧ EachK w' ys ∧ GrAns ⟨hs, ns⟩ (rs.map Rv.r) (zs.map Fv.f) (ys.map Fv.f)) ∧ Below w.heap.size w w' := by
  have iF : (Tryz.prog.info? 36).map (·.size) = some 4 := by kernel_rfl
  have A1 := below_alloc w (.cells #[.slice ha hs.length hc, .slice na ns.length nc] 41)
  have H1 := heap_alloc_new w (.cells #[.slice ha hs.length hc, .slice na ns.length nc] 41)
  have T1 := hideP (cloneF_at fa fc zs (w.alloc (.cells #[.slice ha hs.length hc, .slice na ns.length nc] 41)) (hl.below A1 (Nat.le_refl _)))
  have EK1 := hk.safe (Safe.below A1 : Safe 56 _ _)
  have HI := hideP hi
  have HSS := hideP hss
  clear hi hl hk hss
  refine calls_marks Tryz.func37 rfl ?_
  simp only [Tryz.ntmps37, List.size_toArray, List.length_cons, List.length_nil, Nat.reduceAdd, Nat.reduceSub, Array.replicate_succ, Array.replicate_zero, List.push_toArray, List.append_toArray, List.nil_append, List.cons_append]
  go_wp2_with fail
  refine T1.out.mono ?_
  rintro e w2 ⟨v2, rfl, O2, B2⟩
  obtain ⟨a2, c2, rfl, _⟩ := own_facts O2 (by omega)
  have B12 := Below.then A1 B2
  have H2 := below_heap B2 H1
  have EK2 := EK1.safe (Safe.below B2 : Safe 56 _ _)
  have N2 := heap_alloc_new w2 (.cells #[.slice none 0 0] 24)
  clear T1 H1 EK1
  go_wp2_with (refine wpList_store_cel rfl 24 _ _ rfl w2.heap.size 0 1 24 (.slice a2 zs.length c2) #[.slice a2 zs.length c2] rfl rfl N2 rfl (by decide) (by kernel_rfl) rfl rfl ?_; intro w3 N3 t3; have B3 := below_tok t3; have G0 := below_heap B3 H2; have g0 : w3.cell? ⟨w.heap.size, 0, none⟩ = some (.slice ha hs.length hc) := (by rw [heap_cell G0]; rfl); have g1 : w3.cell? ⟨w.heap.size, 1, none⟩ = some (.slice na ns.length nc) := (by rw [heap_cell G0]; rfl))
  have T2 := hideP (atOnce_at ra rc rs ha hc hs na nc ns fa fc zs w3)
  have B13 := Below.then B12 B3
  have O3 := ownsRow_base (ownsRow_keep O2 (Safe.below B3 : Safe 36 _ _)) A1.size
  have EK3 := EK2.safe (Safe.below B3 : Safe 56 _ _)
  have hb7 : w.heap.size ≤ w2.heap.size := B12.size
  have h37 : w2.heap.size < w3.heap.size := heap_lt N3
  clear N2 t3 H2 EK2 O2
  generalize w2.heap.size = b7 at *
  refine T2.out.mono ?_
  rintro e w4 ⟨rfl, B4, S4, C4⟩
  have B14 := Below.then B13 B4
  have HC := hideP C4
  have I4 : GrI w b7 ⟨hs, ns⟩ (rs.map Rv.r) (zs.map Fv.f) (fun n => n ≤ 400) [] w4 := ⟨⟨zs, a2, c2, below_heap B4 N3, ownsRow_keep O3 (Safe.below B4), EK3.safe (Safe.below B4), rfl, h4⟩, (fun _ h => by cases h), B14⟩
  clear T2 C4 g0 g1 N3 G0 O3 EK3
  go_wp2_with fail
  refine wp_range (pt := 166) (gf := 59) (lb := #[ptr (w3.heap.size + 1), ptr w3.heap.size, ptr (w3.heap.size + 1 + 1)]) rfl (enters_of Tryz.func59 (by kernel_rfl) rfl)
    (Elt := EltO ⟨hs, ns⟩ (rs.map Rv.r) (zs.map Fv.f)) (Kp := fun l2 => Rnd w.heap.size fun k => (k = b7) ∨ (k = l2 ∧ w.heap.size ≤ l2)) (S := fun fs => ∀ x, x ∈ fs ↔ x ∈ Ml.onceL ⟨hs, ns⟩ (rs.map Rv.r) (zs.map Fv.f)) (Sp := fun _ => True) (N := rs.length * hs.length * 60001)
    ?seq (fun h k => h.trans k) (fun l2 W5 o o' h1 _ _ => Rnd.but (but_putObj W5 l2 o') (.inr ⟨rfl, Nat.le_trans B14.size h1⟩)) rfl
    (GrI w b7 ⟨hs, ns⟩ (rs.map Rv.r) (zs.map Fv.f) fun n => n ≤ 400)
    (fun c pre W => c = .exit 0 ∧ GrI w b7 ⟨hs, ns⟩ (rs.map Rv.r) (zs.map Fv.f) (fun n => 400 < n ∧ n ≤ 401) pre W)
    (fun s A A' h hit => h.itr hit B14.size)
    (fun c s A A' h hit => ⟨h.1, h.2.itr hit B14.size⟩)
    I4
    (fun f a' W5 => ∃ (z : Fv) (S : Nat) (u0 u1 u2 u3 u6 u11 u12 u13 u14 u15 u16 u17 : Value), W5.heap[S]? = some (.cells (fv z).toArray 36) ∧ z.f = f ∧ f ∈ Ml.onceL ⟨hs, ns⟩ (rs.map Rv.r) (zs.map Fv.f) ∧ RowT kK 56 W5 z.a z.cap z.ks ∧ a' = { tmps := #[u0, u1, u2, u3, undef, undef, u6, ptr b7, ptr S, undef, undef, u11, u12, u13, u14, u15, u16, u17, undef, undef, undef, undef, undef, undef, undef, undef, undef, undef, undef, undef, undef, undef, undef, undef, undef], defers := [] })
    (fun f a' A A' h hit => by
      obtain ⟨z, S, u0, u1, u2, u3, u6, u11, u12, u13, u14, u15, u16, u17, h1, h2, hm, h3, h4⟩ := h
      exact ⟨z, S, u0, u1, u2, u3, u6, u11, u12, u13, u14, u15, u16, u17, hit.same _ _ _ _ h1 (by decide), h2, hm, h3.safe (hit.safe (by decide)), h4⟩)
    ?assign ?body ?done ?stop
  case seq =>
    intro W1 hb1 hs1
    exact once_seq (X := fun k => k = b7) HI.out ⟨below_heap hb1 HC.out.rules, below_heap hb1 HC.out.world, below_heap hb1 HC.out.facts⟩ (fun k hk => ⟨by omega, by omega⟩) ⟨by omega, by omega, by omega⟩ (B14.trans (hb1.mono B14.size))
  case assign =>
    rintro l2 pre f _ W5 K hl5 hlt5 HI5 ⟨⟨z, rfl, hzf, RZ⟩, MEM⟩ hK
    have N5 := heap_alloc_new W5 (.cells #[.string { data := #[] }, .string { data := #[] }, .string { data := #[] }, .slice none 0 0] 36)
    refine round_region (by rintro ⟨_, _, h⟩; exact h) rfl ?_
    go_wp2_with (refine wpList_store_all rfl 36 _ _ rfl W5.heap.size 4 _ 36 (fv z) rfl rfl N5 rfl rfl iF rfl ?_; intro w6 N6 d6; have B6 := below_tok d6)
    exact hK _ _ (keeps_below B6) (Rnd.of_below B6) (HI5.itr (Itr.below B6 (Nat.le_refl _)) HI5.below.size) ⟨z, _, _, _, _, _, _, _, _, _, _, _, _, _, N6, hzf, MEM, RZ.safe (Safe.below B6), rfl⟩
  case body =>
    rintro l2 pre f _ W7 hl5 hlt5 HI7 ⟨z, S, u0, u1, u2, u3, u6, u11, u12, u13, u14, u15, u16, u17, N7, rfl, MEM, RZ, rfl⟩ hN
    obtain ⟨ys, a, c, k1, O7, E7, hF, h400⟩ := HI7.row
    have B7 := HI7.below
    have g1 : W7.cell? ⟨b7, 0, none⟩ = some (.slice a (List.length ys) c) := by rw [heap_cell k1]; rfl
    obtain ⟨a', c', e', OF7⟩ := own_facts O7 (by omega)
    cases e'
    have SSy : SS (ys.map Fv.f) := by rw [hF]; exact (foldl_ins _ _ HSS.out).1
    have TS := hideP (msearch_at a c ys z W7 OF7.lies (fun y hy => row_args (E7 y hy).row) (row_args RZ.row) SSy)
    have HM := hideP MEM
    have HP := hideP HI7.mem
    have HF := hideP hF
    have HSy := hideP SSy
    clear MEM hN SSy hF HI7 OF7
    refine wpIn_block ?_
    apply wpIn_seq_k
    intro K5 hK5
    apply wpIn_seq_k
    intro K6 hK6
    refine round_region (by rintro ⟨_, _, h⟩; exact h) rfl ?_
    go_wp2_with (refine wpList_load_all rfl 36 _ rfl S 4 36 (fv z) _ rfl N7 rfl Tryz.underlying36 rfl iF ?_)
    refine TS.out.mono ?_
    rintro e w8 ⟨⟨i8, rfl, P8⟩, B8⟩
    have k8 := below_heap B8 k1
    have N8 := below_heap B8 N7
    have g8 : w8.cell? ⟨b7, 0, none⟩ = some (.slice a (List.length ys) c) := by rw [heap_cell k8]; rfl
    have O8 := ownsRow_keep O7 (Safe.below B8 : Safe 36 _ _)
    have E8 := E7.safe (Safe.below B8 : Safe 56 _ _)
    have RZ8 := RZ.safe (Safe.below B8 : Safe 56 _ _)
    have T8 : Below w.heap.size w w8 := B7.trans (B8.mono B7.size)
    have HP8 := hideP P8
    clear TS g1 k1 N7 O7 E7 RZ P8
    cases hq : hasF (ys.map Fv.f) z.f with
    | true =>
      have hz := hideP (ins_found HSy.out hq)
      have q4 : ¬ (400 : Int) < (List.length ys : Int) := by omega
      clear hq
      go_wp2_with fail
      gi_wp2
      exact ⟨keeps_below B8, Rnd.of_below B8, ⟨⟨ys, a, c, k8, O8, E8, by rw [List.foldl_append, ← HF.out]; exact hz.out.symm, h400⟩, (fun x hx => by
        rcases List.mem_append.1 hx with hx | hx
        · exact HP.out x hx
        · rw [List.mem_singleton] at hx; subst hx; exact HM.out), T8⟩⟩
    | false =>
      have hz := hideP (ins_new HP8.out hq)
      clear hq
      go_wp2_with fail
      apply wpIn_seq_k
      intro K7 hK7
      refine round_region (by rintro ⟨_, _, h⟩; exact h) rfl ?_
      go_wp2_with fail
      refine wpIn_cond_true rfl ?_
      have A9 := below_alloc w8 (.cells (fv z).toArray 36)
      have N9 := heap_alloc_new w8 (.cells (fv z).toArray 36)
      have O9 := ownsRow_keep O8 (Safe.below A9 : Safe 36 _ _)
      have k9 := below_heap A9 k8
      have hbs : w.heap.size ≤ (w8.alloc (.cells (fv z).toArray 36)).heap.size := Nat.le_trans T8.size A9.size
      have hvb : ∀ ad, a = some ad → ad.block ≠ w8.heap.size := fun ad had e => by
        rcases O8.2 with ⟨h, _⟩ | ⟨g, cap, cur, h, _, hg, _⟩
        · rw [had] at h; cases h
        · rw [had] at h; cases h
          have := heap_lt hg
          simp at e; omega
      have TI := hideP (insert_at w.heap.size a c i8 w8.heap.size ys z (w8.alloc (.cells (fv z).toArray 36)) O9 hbs (by omega) HP8.out.1 N9 hvb)
      refine round_region (by rintro ⟨_, _, h⟩; exact h) rfl ?_
      go_wp2_with (first
        | (refine wpList_load_all rfl 36 _ rfl S 4 36 (fv z) _ rfl N8 rfl Tryz.underlying36 rfl iF ?_)
        | (refine wpList_build_one rfl 24 36 _ rfl (fv z) _ 4 72 rfl rfl (by decide) (by decide) Tryz.underlying24 Tryz.infoF ?_))
      refine TI.out.mono ?_
      rintro e w10 ⟨v10, rfl, O10, G10⟩
      have ln : (ys.take i8 ++ z :: ys.drop i8).length = ys.length + 1 := by
        have := HP8.out.1
        rw [List.length_append, List.length_take, List.length_cons, List.length_drop]; omega
      obtain ⟨a10, c10, rfl, _⟩ := own_facts O10 (by rw [ln]; omega)
      rw [ln]
      have k10 := grown_safe (ty := 24) O9 G10 (by decide) _ _ k9
      have S10 := grown_safe (ty := 56) O9 G10 (by decide)
      have R10 : Rnd w.heap.size (fun k => k = b7) (w8.alloc (.cells (fv z).toArray 36)) w10 := grown_rnd O9 G10 (Nat.le_refl _)
      have E10 := (E8.safe (Safe.below A9 : Safe 56 _ _)).safe S10
      have Z10 := (RZ8.safe (Safe.below A9 : Safe 56 _ _)).safe S10
      have bw10 := own_below O9 G10 hbs
      go_wp2_with (refine wpList_store_cel rfl 24 _ _ rfl b7 0 1 24 (.slice a10 (ys.length + 1) c10) #[.slice a10 (ys.length + 1) c10] rfl rfl k10 rfl (by decide) (by kernel_rfl) rfl rfl ?_; intro w11 N11 t11)
      rw [ln] at O10
      have sf : ∀ ty : TypeId, ty ≠ 24 → Safe ty w10 w11 := fun ty hn => t11.safeT k10 hn
      have R11 : Rnd w.heap.size (fun k => k = b7) W7 w11 := (Rnd.of_below (Below.then B8 A9)).trans (R10.trans (Rnd.but t11 rfl))
      have BW : Below w.heap.size w w11 := ((T8.trans (A9.mono T8.size)).trans bw10).trans (t11.lower hb7 (Nat.le_trans hbs bw10.size))
      have MM : ∀ x ∈ pre ++ [z.f], x ∈ Ml.onceL ⟨hs, ns⟩ (rs.map Rv.r) (zs.map Fv.f) := fun x hx => by
        rcases List.mem_append.1 hx with hx | hx
        · exact HP.out x hx
        · rw [List.mem_singleton] at hx; subst hx; exact HM.out
      have EE : EachK w11 (ys.take i8 ++ z :: ys.drop i8) := fun y hy => by
        rcases List.mem_append.1 hy with hy | hy
        · exact (E10 y (List.mem_of_mem_take hy)).safe (sf _ (by decide))
        · rcases List.mem_cons.1 hy with rfl | hy
          · exact Z10.safe (sf _ (by decide))
          · exact (E10 y (List.mem_of_mem_drop hy)).safe (sf _ (by decide))
      have FF : (ys.take i8 ++ z :: ys.drop i8).map Fv.f = (pre ++ [z.f]).foldl ins (zs.map Fv.f) := by rw [List.foldl_append, ← HF.out]; exact hz.out.symm
      have OO := ownsRow_keep O10 (sf _ (by decide))
      have g11 : w11.cell? ⟨b7, 0, none⟩ = some (.slice a10 (ys.length + 1) c10) := by rw [heap_cell N11]; rfl
      have GR : ∀ Le : Nat → Prop, Le (ys.length + 1) → GrI w b7 ⟨hs, ns⟩ (rs.map Rv.r) (zs.map Fv.f) Le (pre ++ [z.f]) w11 := fun Le hLe => ⟨⟨_, a10, c10, by rw [ln]; exact N11, by rw [ln]; exact OO, EE, FF, by rw [ln]; exact hLe⟩, MM, BW⟩
      have HGR := hideP GR
      have KF := R11.keeps (B := w4.heap.size) (fun k hk => by have := B4.size; omega)
      clear GR FF MM EE OO TI R10 E10 Z10
      by_cases h5 : ys.length + 1 ≤ 400
      · have q4 : ¬ (400 : Int) < (List.length ys : Int) + 1 := by omega
        gi_wp2
        exact ⟨(by rw [← S4]; exact KF), R11.mono (fun k hk => .inl hk), HGR.out _ h5⟩
      · have q4 : (400 : Int) < (List.length ys : Int) + 1 := by omega
        gi_wp2
        exact ⟨KF, rfl, HGR.out _ (by omega)⟩
  case done =>
    rintro D fs W7 hD7 hS7 HI7 hK7
    obtain ⟨ys, a, c, k7, O7, E7, hF, hLe⟩ := HI7.row
    have g7 : W7.cell? ⟨b7, 0, none⟩ = some (.slice a (List.length ys) c) := by rw [heap_cell k7]; rfl
    have MK : Marks w4.heap.size [D] W7 := ⟨fun D' h => (by rw [List.mem_singleton] at h; subst h; exact hK7), (by simp), fun D' h => (by rw [List.mem_singleton] at h; subst h; exact hD7)⟩
    have IT : Itr 166 w4.heap.size W7 (shut [D] W7) := shut_itr [D] W7 MK.open_ MK.nodup MK.low
    have O9 := ownsRow_itr O7 IT (by decide)
    have E9 := E7.safe (IT.safe (by decide))
    have B9 : Below w.heap.size w (shut [D] W7) := HI7.below.trans (IT.toBelow.mono B14.size)
    obtain ⟨a2, c2, e2, OF⟩ := own_facts O9 (by omega)
    cases e2
    have GA : GrAns ⟨hs, ns⟩ (rs.map Rv.r) (zs.map Fv.f) (ys.map Fv.f) := by
      rw [hF]
      exact ⟨(foldl_ins _ _ HSS.out).1, .inl (Ml.grown_all HSS.out hS7)⟩
    have HG := hideP GA
    clear hF GA O7 E7 HI7 hS7
    go_wp2_with fail
    exact leaves_marks [D] W7 MK.open_ MK.nodup ⟨_, results_tmp rfl _ _ _, ⟨ys, a, c, rfl, OF, E9, HG.out⟩, B9⟩
  case stop =>
    rintro D c pre W7 hD7 _ ⟨rfl, HI7⟩ hK7
    obtain ⟨ys, a, c, k7, O7, E7, hF, hLe⟩ := HI7.row
    have g7 : W7.cell? ⟨b7, 0, none⟩ = some (.slice a (List.length ys) c) := by rw [heap_cell k7]; rfl
    have MK : Marks w4.heap.size [D] W7 := ⟨fun D' h => (by rw [List.mem_singleton] at h; subst h; exact hK7), (by simp), fun D' h => (by rw [List.mem_singleton] at h; subst h; exact hD7)⟩
    have IT : Itr 166 w4.heap.size W7 (shut [D] W7) := shut_itr [D] W7 MK.open_ MK.nodup MK.low
    have O9 := ownsRow_itr O7 IT (by decide)
    have E9 := E7.safe (IT.safe (by decide))
    have B9 : Below w.heap.size w (shut [D] W7) := HI7.below.trans (IT.toBelow.mono B14.size)
    obtain ⟨a2, c2, e2, OF⟩ := own_facts O9 (by omega)
    cases e2
    have GA : GrAns ⟨hs, ns⟩ (rs.map Rv.r) (zs.map Fv.f) (ys.map Fv.f) := by
      rw [hF]
      have hg := Ml.grown_some (w := ⟨hs, ns⟩) (l := rs.map Rv.r) HSS.out HI7.mem
      exact ⟨hg.1, .inr ⟨by rw [← hF, List.length_map]; exact hLe.1, hg.2.2⟩⟩
    have HG := hideP GA
    clear hF GA O7 E7 HI7
    refine wpIn_exit ?_
    go_wp2_with fail
    exact leaves_marks [D] W7 MK.open_ MK.nodup ⟨_, results_tmp rfl _ _ _, ⟨ys, a, c, rfl, OF, E9, HG.out⟩, B9⟩
end Go.Proofs.YtdehimbfcilhpaaGreatDoor

/-
  model.Least.
-/
namespace Go.Proofs.YtdehimbfcilhpaaGreatDoor
open Go.RowKit Go.Lib Go.Shelf

/-- what is known of a world, rules and a base -/
structure LIn (w : World) (ra : Option Addr) (rc : Nat) (rs : List Rv) (ha : Option Addr) (hc : Nat) (hs : List (List UInt8)) (na : Option Addr) (nc : Nat) (ns : List (List UInt8)) : Prop where
  rules : Rws w ra rc rs
  smr : ∀ r ∈ rs, SmR r
  smh : ∀ r ∈ rs.map Rv.r, SmH r
  homes : Row sK w ha hc hs
  hl : ∀ h ∈ hs, h.length ≤ 1048576
  names : Row sK w na nc ns
  tab : TabB w.heap.size w
theorem LIn.below {w w' : World} {ra : Option Addr} {rc : Nat} {rs : List Rv} {ha : Option Addr} {hc : Nat} {hs : List (List UInt8)} {na : Option Addr} {nc : Nat} {ns : List (List UInt8)} (h : LIn w ra rc rs ha hc hs na nc ns) (hb : Below w.heap.size w w') : LIn w' ra rc rs ha hc hs na nc ns :=
  ⟨h.rules.below hb, h.smr, h.smh, h.homes.below hb (Nat.le_refl _), h.hl, h.names.below hb (Nat.le_refl _), h.tab.now hb hb.size⟩
theorem LIn.ain {w : World} {ra : Option Addr} {rc : Nat} {rs : List Rv} {ha : Option Addr} {hc : Nat} {hs : List (List UInt8)} {na : Option Addr} {nc : Nat} {ns : List (List UInt8)} {fa : Option Addr} {fc : Nat} {zs : List Fv} (h : LIn w ra rc rs ha hc hs na nc ns) (hf : Fts w fa fc zs) (hz : ∀ z ∈ zs, SmF z.f) (zl : zs.length ≤ 1000000) (few : Ml.Few ⟨hs, ns⟩ (rs.map Rv.r) (zs.map Fv.f)) : AIn w ra rc rs ha hc hs na nc ns fa fc zs :=
  ⟨h.rules, h.smr, h.homes, h.hl, h.names, hf, hz, h.tab, zl, few⟩
/-- facts that lie in a row, each with constants of its own -/
structure FsAt (w : World) (a : Option Addr) (c : Nat) (ys : List Fv) : Prop where
  lies : Lies w a c ys
  each : EachK w ys
theorem FsAt.below {w w' : World} {a : Option Addr} {c : Nat} {ys : List Fv} (h : FsAt w a c ys) (hb : Below w.heap.size w w') : FsAt w' a c ys := ⟨h.lies.below hb (Nat.le_refl _), h.each.safe (Safe.below hb)⟩
theorem FsAt.fts {w : World} {a : Option Addr} {c : Nat} {ys : List Fv} (h : FsAt w a c ys) : Fts w a c ys := ⟨liesRow h.lies, fun z hz => row_args (h.each z hz).row⟩
def errOf (o : Option (List F)) : Int := if o.isSome then 0 else 150
/-- what a step leads to -/
theorem next_of {d : Ml.Wd} {l : List Ru} {m n : List F} {o : Option (List F)} (h : Ml.LstF d l m o) (hs : SS m) (h4 : m.length ≤ 400) (g : GrAns d l m n) : (n.length = m.length ∧ o = some m) ∨ (n.length ≠ m.length ∧ m.length < n.length ∧ Ml.LstF d l n o) := by
  rcases g.2 with rfl | ⟨g1, g2⟩
  · rcases h.next h4 with ⟨h1, h2⟩ | ⟨h1, h2⟩
    · exact .inl ⟨by rw [h1], h2⟩
    · have := Ml.step_more hs h1
      exact .inr ⟨by omega, this, h2⟩
  · have hl := Ml.sub_len g.1 g2
    rcases h.next h4 with ⟨h1, h2⟩ | ⟨h1, h2⟩
    · rw [h1] at hl; omega
    · rw [h2.none_of (by omega)]
      exact .inr ⟨by omega, by omega, .full g1⟩

set_option maxRecDepth 100000 in
set_option maxHeartbeats 2000000 in
theorem mleast_at (ra : Option Addr) (rc : Nat) (rs : List Rv) (ha : Option Addr) (hc : Nat) (hs : List (List UInt8)) (na : Option Addr) (nc : Nat) (ns : List (List UInt8)) (fa : Option Addr) (fc : Nat) (zs : List Fv) (o : Option (List F)) (w : World)
    (hi : LIn w ra rc rs ha hc hs na nc ns) (hl : Lies w fa fc zs) (hz : ∀ z ∈ zs, Fv.At w z) (hsm : ∀ z ∈ zs, SmF z.f) (hL : Ml.LstF ⟨hs, ns⟩ (rs.map Rv.r) (sortF (zs.map Fv.f)) o) :
    Calls Tryz.prog 19 #[wdv ha hc hs na nc ns, .slice ra rs.length rc, .slice fa zs.length fc] w fun e w' => (∃ ys a c, e = .returned (.tuple #[.slice a (List.length ys) c, .int .i64 (errOf o)]) ∧ FsAt w' a c ys ∧ ys.map Fv.f = o.getD []) ∧ Below w.heap.size w w' := by
  have A1 := below_alloc w (.cells #[.slice ha hs.length hc, .slice na ns.length nc] 41)
  have H1 := heap_alloc_new w (.cells #[.slice ha hs.length hc, .slice na ns.length nc] 41)
  have T1 := hideP (sorted_at fa fc zs (w.alloc (.cells #[.slice ha hs.length hc, .slice na ns.length nc] 41)) (hl.below A1 (Nat.le_refl _)) (fun z h => (hz z h).below A1 (Nat.le_refl _)))
  have HI := hideP hi
  have HL := hideP hL
  have HSM := hideP hsm
  clear hi hl hz hsm hL
  go_enter Tryz.func19, Tryz.ntmps19
  go_wp2_with fail
  refine T1.out.mono ?_
  rintro e w2 ⟨a2, c2, us, rfl, OF2, EA2, hs2, B2⟩
  have B12 := Below.then A1 B2
  have H2 := below_heap B2 H1
  have F2 : FsAt w2 a2 c2 us := ⟨OF2.lies, fun z h => ⟨args_row (EA2 z h).1, (EA2 z h).2.2.2⟩⟩
  have L2 : Hid (Ml.LstF ⟨hs, ns⟩ (rs.map Rv.r) (us.map Fv.f) o) := by show Ml.LstF _ _ _ _; rw [hs2]; exact HL.out
  have SS2 : Hid (SS (us.map Fv.f)) := by show SS _; rw [hs2]; exact sortF_SS _
  have SM2 : Hid (∀ x ∈ us.map Fv.f, SmF x) := fun x hx => by
    rw [hs2, mem_sortF] at hx
    obtain ⟨z, h1, rfl⟩ := List.mem_map.1 hx
    exact HSM.out z h1
  clear T1 H1 OF2 EA2 hs2 HL HSM
  generalize hS : w.heap.size = S at *
  go_wp2_with fail
  go_loopw [8, 9] (fun v8 _ wr => ∃ (ys : List Fv) (a : Option Addr) (c : Nat), v8 = .slice a (List.length ys) c ∧ ys.length ≤ 1954687338211 ∧ FsAt wr a c ys ∧ Hid (Ml.LstF ⟨hs, ns⟩ (rs.map Rv.r) (ys.map Fv.f) o) ∧ Hid (SS (ys.map Fv.f)) ∧ Hid (∀ x ∈ ys.map Fv.f, SmF x) ∧ wr.heap[S]? = some (.cells #[.slice ha hs.length hc, .slice na ns.length nc] 41) ∧ Below S w wr) (fun v8 _ _ => match v8 with
    | .slice _ n _ => 401 - n
    | _ => 0)
  case atStart => exact ⟨us, a2, c2, rfl, F2.lies.few, F2, L2, SS2, SM2, H2, B12⟩
  case round =>
    obtain ⟨ys, a, c, rfl, few, FA, HL1, HS1, HM1, HB, BB⟩ := hrel
    have g0 : wr.cell? ⟨S, 0, none⟩ = some (.slice ha hs.length hc) := by rw [heap_cell HB]; rfl
    have g1 : wr.cell? ⟨S, 1, none⟩ = some (.slice na ns.length nc) := by rw [heap_cell HB]; rfl
    have BW : Below w.heap.size w wr := by rw [hS]; exact BB
    by_cases h4 : ys.length ≤ 400
    · have q4 : (List.length ys : Int) ≤ 400 := by omega
      have lm : (ys.map Fv.f).length ≤ 400 := by rw [List.length_map]; exact h4
      have TG := hideP (grown_at ra rc rs ha hc hs na nc ns a c ys wr ((HI.out.below BW).ain FA.fts (fun z h => HM1.out _ (List.mem_map_of_mem h)) (by omega) (HL1.out.few lm)) FA.lies FA.each HS1.out h4)
      have LM := hideP lm
      clear lm
      go_wp2_with fail
      refine TG.out.mono ?_
      rintro e w5 ⟨⟨ns5, a5, c5, rfl, OF5, EK5, GA⟩, B5⟩
      have NX := next_of HL1.out HS1.out LM.out GA
      rw [List.length_map, List.length_map] at NX
      have SMn : Hid (∀ x ∈ ns5.map Fv.f, SmF x) := fun x hx => by
        have hst := step_ok (w := ⟨hs, ns⟩) HS1.out HI.out.smh HI.out.hl HM1.out
        rcases GA.2 with e | ⟨_, e⟩
        · rw [e] at hx; exact hst x hx
        · exact hst x (e x hx)
      have SSn := hideP GA.1
      have FA5 := FA.below B5
      have HB5 := below_heap B5 HB
      have BB5 : Below S w w5 := BB.trans (B5.mono (by rw [← hS]; exact BB.size))
      have few5 := OF5.few
      clear TG GA g0 g1
      rcases NX with ⟨n1, n2⟩ | ⟨n1, n2, n3⟩
      · have q5 : ((List.length ns5 : Int) == (List.length ys : Int)) = true := by rw [beq_iff_eq]; omega
        have HO := hideP n2
        clear n1 n2
        go_wp2_with fail
        go_ret2
        exact ⟨⟨ys, a, c, by rw [HO.out]; rfl, FA5, by rw [HO.out]; rfl⟩, by first | exact BB5 | (rw [hS]; exact BB5)⟩
      · have q5 : ((List.length ns5 : Int) == (List.length ys : Int)) = false := by rw [beq_eq_false_iff_ne]; omega
        have HN := hideP n3
        clear n1 n3
        go_wp2_with fail
        exact ⟨⟨ns5, a5, c5, rfl, few5, ⟨OF5.lies, EK5⟩, HN, SSn, SMn, HB5, BB5⟩, by simp; omega⟩
    · have q4 : ¬ (List.length ys : Int) ≤ 400 := by omega
      have HO := hideP (HL1.out.none_of (by rw [List.length_map]; omega))
      go_wp2_with fail
      go_ret2
      exact ⟨⟨[], none, 0, by rw [HO.out]; rfl, ⟨Lies.nil _, (fun _ h => by cases h)⟩, by rw [HO.out]; rfl⟩, BB⟩
end Go.Proofs.YtdehimbfcilhpaaGreatDoor
