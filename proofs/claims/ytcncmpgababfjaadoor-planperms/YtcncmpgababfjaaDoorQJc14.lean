/-
  count: those of a literal's terms that are constants are counted, its variables wait.
-/
import Derived.Test.YtcncmpgababfjaaDoorQJb14
import Derived.Test.YtcncmpgababfjaaDoorQBs
import Derived.Deep.RegionHeldLaw
import Derived.Deep.RegionHeld3
import Derived.OwnWalk
import Derived.Deep.AppendLies
import Derived.WalkArith
namespace Go.Proofs.YtcncmpgababfjaaDoor
open Go.RowKit Go.Lib Go.Shelf

/-- what a step of the order's own leaves: what lay below B, and blocks of other types than int -/
structure Kq14 (B : Nat) (w w' : World) : Prop where
  bel : Below B w w'
  safe : ∀ ty : TypeId, ty ≠ 3 → Safe ty w w'
theorem Kq14.refl (B : Nat) (w : World) : Kq14 B w w := ⟨Below.refl _ _, fun _ _ => Safe.refl _ _⟩
theorem Kq14.trans {B : Nat} {a b c : World} (x : Kq14 B a b) (y : Kq14 B b c) : Kq14 B a c := ⟨x.bel.trans y.bel, fun ty h => (x.safe ty h).trans (y.safe ty h)⟩
theorem Kq14.next {B : Nat} {w w' : World} (h : Below w.heap.size w w') (hB : B ≤ w.heap.size) : Kq14 B w w' := ⟨h.mono hB, fun _ _ => Safe.below h⟩
theorem Kq14.ints {B b : Nat} {w w' : World} {C : Array Value} (h : But b w w') (hb : w.heap[b]? = some (.cells C 3)) (hB : B ≤ b) : Kq14 B w w' :=
  ⟨h.lower hB (Nat.le_trans hB (Nat.le_of_lt (heap_lt hb))), fun _ hn => Safe.but h hb hn⟩
theorem Kq14.map {B b : Nat} {w w' : World} {es : Array MapEntry} {clock : Nat} (h : But b w w') (hb : w.heap[b]? = some (.map es clock)) (hB : B ≤ b) : Kq14 B w w' :=
  ⟨h.lower hB (Nat.le_trans hB (Nat.le_of_lt (heap_lt hb))), fun _ _ k cur hk => h.heap (fun e => by subst e; rw [hb] at hk; cases hk) hk⟩
theorem Kq14.grown {B base : Nat} {w w' : World} {v : Value} {zs : List Int} (h : w.ownsInts base 3 .i64 v zs) (hg : w.grownBy w' v.ownBlock) (hB : B ≤ base) (hw : B ≤ w.heap.size) : Kq14 B w w' :=
  ⟨(Below.refl B w).grown hg hw fun k hk => Nat.le_trans hB (h.1.lt k hk).1, fun _ hn => Safe.grown h.1 hg hn⟩
theorem Kq14.heap {B : Nat} {w w' : World} (h : Kq14 B w w') {b : Nat} {C : Array Value} {ty : TypeId} (hb : w.heap[b]? = some (.cells C ty)) (hn : ty ≠ 3) : w'.heap[b]? = some (.cells C ty) := h.safe ty hn b C hb
/-- numbers in a block -/
def nvs (K : List Nat) : Array Value := (K.map fun n : Nat => Value.int .i64 (n : Int)).toArray
theorem nvs_get (K : List Nat) (i : Nat) (h : i < K.length) : (nvs K)[i]? = some (.int .i64 (K[i] : Int)) := by
  unfold nvs
  rw [List.getElem?_toArray, List.getElem?_map, List.getElem?_eq_getElem h]; rfl
theorem nvs_set (K : List Nat) (i x : Nat) : (nvs K).setIfInBounds i (.int .i64 (x : Int)) = nvs (K.set i x) := by
  unfold nvs
  rw [List.setIfInBounds_toArray, List.map_set]
theorem nvs_bump {w : World} {kb : Nat} {K : List Nat} (h : w.heap[kb]? = some (.cells (nvs K) 3)) (i x : Nat) (v : Value) (hv : v = .int .i64 (x : Int)) : (w.setCell ⟨kb, i, none⟩ v).heap[kb]? = some (.cells (nvs (K.set i x)) 3) := by
  subst hv
  rw [heap_setCell_same w kb i _ _ _ h, nvs_set]
theorem nvs_size (K : List Nat) : (nvs K).size = K.length := by simp [nvs]
theorem Tryd.iT14 : (Tryd.prog.info? 25).map (·.size) = some 4 := by kernel_rfl
theorem Tryd.iN14 : (Tryd.prog.info? 3).map (fun i => (i.zero, i.size, i.bytes)) = some (some (.int .i64 0), 1, 8) := by kernel_rfl

/-- a number more waits: what stands -/
theorem wait_end {w2 w4 w5 : World} {B bm base M kb : Nat} {gg : List UInt8 → List Nat} {v : Value} {zs : List Int} (S2 : WaitAt w2 bm base M gg) (hkb : kb < base) (hBk : B ≤ kb) (hBm : B ≤ bm) (hw : base ≤ w2.heap.size)
    (hoi : w2.ownsInts base 3 .i64 v zs) (hall : w2.grownBy w4 v.ownBlock) (b5 : But bm w4 w5) : Kq14 B w2 w5 ∧ (kb ≠ bm → w5.heap[kb]? = w2.heap[kb]?) ∧ base ≤ w5.heap.size := by
  obtain ⟨es, clock, hm2⟩ := S2.map
  have hne : ∀ k, k < base → some k ≠ v.ownBlock := fun k hk e => by have := (hoi.1.lt k e.symm).1; omega
  have hm4 := (hall.block bm (heap_lt hm2) (hne bm S2.lt.2)).trans hm2
  refine ⟨(Kq14.grown hoi hall (by omega) (by omega)).trans (Kq14.map b5 hm4 hBm), fun hk => ?_, Nat.le_trans hw (Nat.le_trans hall.size b5.size)⟩
  rw [b5.block kb (by have := hall.size; omega) hk, hall.block kb (by omega) (hne kb hkb)]

theorem same_nul14 (t : Tm) : sameT t ⟨[], ⟨false, 0, []⟩⟩ = Mt.nul t := by
  obtain ⟨v, ⟨a, b, c⟩⟩ := t
  cases v <;> cases a <;> cases c <;> simp [sameT, Mt.nul] <;> rfl
set_option maxRecDepth 100000 in
set_option maxHeartbeats 2000000 in
theorem count_at (a : Option Addr) (c : Nat) (ts : List Tm) (B ob kb bm base N i n : Nat) (v0 v1 v2 : Value) (K : List Nat) (g : List UInt8 → List Nat) (w : World)
    (hr : ∀ W, Kq14 B w W → Row tK W a c ts) (H : w.heap[ob]? = some (.cells #[v0, v1, v2, .slice (some ⟨kb, 0, none⟩) n n, .map (some bm)] 48))
    (HK : w.heap[kb]? = some (.cells (nvs K) 3)) (hK : K.length = n) (hn : n ≤ 1000000) (S : WaitAt w bm base N g) (hkb : kb < base) (hi : i < K.length) (hBk : B ≤ kb) (hBm : B ≤ bm) (hw : base ≤ w.heap.size)
    (hv : ∀ t ∈ ts, t.v.length ≤ maxLen) (hN : N + ts.length ≤ 900000) (hKi : K[i] + ts.length ≤ 900000) :
    Calls Tryd.prog 20 #[ptr ob, .int .i64 (i : Int), .slice a ts.length c] w fun e w' => e = .returned (.tuple #[]) ∧ Kq14 B w w' ∧ w'.heap[kb]? = some (.cells (nvs (K.set i (K[i] + Pn.kns [] ts))) 3) ∧ WaitAt w' bm base (N + ts.length) (Pn.addW g i ts) := by
  have few := (hr w (Kq14.refl _ _)).few
  obtain ⟨i0, hi0, hz0, hz1, hz2⟩ := info_parts Tryd.iN14
  have wf0 := WalkArith.wf_i64 (n := (i : Int)) (by omega)
  have one0 : ∀ u ∈ [Value.int .i64 (i : Int)], u.oneCell' = true := fun u hu => by rw [List.mem_singleton] at hu; subst hu; rfl
  have app0 : ∀ l : List Nat, nInts l ++ [(i : Int)] = nInts (l ++ [i]) := fun l => by simp [nInts]
  have TT := Tryd.underlying25
  have HR := hideP hr
  clear hr
  have hkm : kb ≠ bm := fun e => by
    obtain ⟨es, cl, hm⟩ := S.map
    rw [← e, HK] at hm
    cases hm
  have hob : ob ≠ bm := fun e => by
    obtain ⟨es, cl, hm⟩ := S.map
    rw [← e, H] at hm
    cases hm
  go_enter Tryd.func20, Tryd.ntmps20
  go_wp2_with fail
  go_loopw [10] (fun v wr => ∃ j : Nat, v = .int .i64 (j : Int) ∧ j ≤ ts.length ∧ Kq14 B w wr ∧ wr.heap[kb]? = some (.cells (nvs (K.set i (K[i] + Pn.kns [] (ts.take j)))) 3) ∧ WaitAt wr bm base (N + j) (Pn.addW g i (ts.take j)) ∧ base ≤ wr.heap.size) (fun v _ => ts.length - (RowKit.intOf v).toNat)
  case atStart => exact ⟨0, rfl, Nat.zero_le _, Kq14.refl _ _, by simpa [Pn.kns] using HK, by rw [List.take_zero, Pn.addW_nil]; exact S, hw⟩
  case round =>
    obtain ⟨j, rfl, hj, Q, HKj, Sj, hwj⟩ := hrel
    by_cases hlt : j < ts.length
    · have hq : (j : Int) < (ts.length : Int) := by omega
      have Rj := HR.out wr Q
      obtain ⟨b, o, rfl⟩ := Rj.addr (by omega)
      have rg := Rj.range j hlt
      have Hj := Q.heap H (by decide)
      have hvj := hv ts[j] (List.getElem_mem hlt)
      have TK : ts.take (j + 1) = ts.take j ++ [ts[j]] := List.take_succ_eq_append_getElem hlt
      have kle := Pn.kns_le [] (ts.take j)
      rw [List.length_take] at kle
      generalize ts[j] = t at *
      have HG := hideP (show Pn.kns [] (ts.take (j + 1)) = Pn.kns [] (ts.take j) + Pn.kn [] t by rw [TK, Pn.kns_snoc])
      have HW := hideP TK
      clear TK
      generalize hm : Pn.kns [] (ts.take j) = m at *
      have HM := hideP hm
      clear hm
      have H1 := heap_alloc_new wr (.cells #[.string { data := #[] }, .bool false, .int .i64 0, .string { data := #[] }] 25)
      have HV := hideP (fun h : t.v ≠ [] => (show Pn.kn [] t = 0 by unfold Pn.kn; split; rfl; rw [if_neg (by simpa using h)]))
      have hnt : wr.heap.size ≠ bm := Nat.ne_of_gt Sj.lt.1
      by_cases h0 : t.v = []
      · have q : t.v.isEmpty = true := by simpa using h0
        have HN := hideP (show Pn.kn [] t = if Mt.nul t = true then 0 else 1 by unfold Pn.kn; split; rfl; rw [if_pos (.inl h0)])
        have HA := hideP (Pn.addW_skip g i (ts.take j) t h0)
        have E : ∀ W, (Op.equalIn 10000 25 (.agg (tv t).toArray) (.agg #[.string { data := #[] }, .bool false, .int .i64 0, .string { data := #[] }])).run Tryd.prog W = .ok (Mt.nul t) W := fun W => by
          have := eqTerm t ⟨[], ⟨false, 0, []⟩⟩ W
          rw [same_nul14] at this
          exact this
        have hBw : B ≤ wr.heap.size := Nat.le_trans hBk (Nat.le_trans (Nat.le_of_lt hkb) hwj)
        have hi2 : i < (K.set i (K[i] + m)).length := by rw [List.length_set]; exact hi
        have hset : (K.set i (K[i] + m))[i] = K[i] + m := List.getElem_set_self _
        have qi : (i : Int) < (n : Int) := by omega
        cases hn0 : Mt.nul t with
        | true =>
          rw [hn0] at E
          have h1 := HN.out
          rw [hn0, if_pos rfl] at h1
          go_wp2_with (first
            | (refine wpList_load_mid rfl 25 _ rfl b (o + j * 4) rfl (tv t) _ rg TT rfl Tryd.iT14 ?_)
            | (refine wpList_load_all rfl 25 _ rfl wr.heap.size 4 25 (tv t) _ rfl H2 rfl TT rfl Tryd.iT14 ?_)
            | (refine wpList_store_all rfl 25 _ _ rfl wr.heap.size 4 _ 25 (tv t) rfl rfl H1 rfl rfl Tryd.iT14 rfl ?_; intro w2 H2 b2; have B2 := below_tok b2; have e2 : w2.cell? ⟨wr.heap.size, 0, none⟩ = some (str t.v) := (by rw [heap_cell H2]; rfl); have Q2 := Kq14.next B2 hBw; have o2 := Q2.heap Hj (by decide); have d2 : w2.cell? ⟨ob, 3, none⟩ = some (.slice (some ⟨kb, 0, none⟩) n n) := (by rw [heap_cell o2]; rfl); have k2 := below_heap B2 HKj; have x2 : w2.cell? ⟨kb, i, none⟩ = some (.int .i64 ((K[i] + m : Nat) : Int)) := (by rw [heap_cell k2, nvs_get _ _ hi2, hset]); have z2 : w2.frozen? ⟨kb, i, none⟩ = false := heap_frozen k2 _))
          go_roundw
          case rel => exact ⟨j + 1, rfl, hlt, Q.trans Q2, by rw [HG.out, h1, Nat.add_zero]; exact k2, by rw [HW.out, HA.out]; exact (Sj.next B2).mono (by omega), Nat.le_trans hwj B2.size⟩
          case measure => simp [RowKit.intOf]; omega
        | false =>
          rw [hn0] at E
          have h1 := HN.out
          rw [hn0, if_neg (by simp)] at h1
          go_wp2_with (first
            | (refine wpList_load_mid rfl 25 _ rfl b (o + j * 4) rfl (tv t) _ rg TT rfl Tryd.iT14 ?_)
            | (refine wpList_load_all rfl 25 _ rfl wr.heap.size 4 25 (tv t) _ rfl H2 rfl TT rfl Tryd.iT14 ?_)
            | (refine wpList_store_all rfl 25 _ _ rfl wr.heap.size 4 _ 25 (tv t) rfl rfl H1 rfl rfl Tryd.iT14 rfl ?_; intro w2 H2 b2; have B2 := below_tok b2; have e2 : w2.cell? ⟨wr.heap.size, 0, none⟩ = some (str t.v) := (by rw [heap_cell H2]; rfl); have Q2 := Kq14.next B2 hBw; have o2 := Q2.heap Hj (by decide); have d2 : w2.cell? ⟨ob, 3, none⟩ = some (.slice (some ⟨kb, 0, none⟩) n n) := (by rw [heap_cell o2]; rfl); have k2 := below_heap B2 HKj; have x2 : w2.cell? ⟨kb, i, none⟩ = some (.int .i64 ((K[i] + m : Nat) : Int)) := (by rw [heap_cell k2, nvs_get _ _ hi2, hset]); have z2 : w2.frozen? ⟨kb, i, none⟩ = false := heap_frozen k2 _))
          go_roundw
          case rel =>
            have bS := (But.refl kb w2).set i (.int .i64 ((K[i] : Int) + (m : Int) + 1))
            refine ⟨j + 1, rfl, hlt, (Q.trans Q2).trans (Kq14.ints bS k2 hBk), ?_, ?_, Nat.le_trans hwj (Nat.le_trans B2.size bS.size)⟩
            · rw [nvs_bump k2 i (K[i] + m + 1) _ (by congr 1), List.set_set, HG.out, h1, Nat.add_assoc]
            · rw [HW.out, HA.out]
              exact ((Sj.next B2).but bS hkm hkb).mono (by omega)
          case measure => simp [RowKit.intOf]; omega
      · have q : t.v.isEmpty = false := by simpa using h0
        go_wp2_with (first
          | (refine wpList_load_mid rfl 25 _ rfl b (o + j * 4) rfl (tv t) _ rg TT rfl Tryd.iT14 ?_)
          | (refine wpList_store_all rfl 25 _ _ rfl wr.heap.size 4 _ 25 (tv t) rfl rfl H1 rfl rfl Tryd.iT14 rfl ?_; intro w2 H2 b2; have B2 := below_tok b2; have o2 := (Kq14.next B2 (Nat.le_trans hBk (Nat.le_trans (Nat.le_of_lt hkb) hwj))).heap Hj (by decide); have e2 : w2.cell? ⟨wr.heap.size, 0, none⟩ = some (str t.v) := (by rw [heap_cell H2]; rfl); have c2 : w2.cell? ⟨ob, 4, none⟩ = some (.map (some bm)) := (by rw [heap_cell o2]; rfl)))
        have Q2 : Kq14 B w w2.drew := Q.trans ((Kq14.next B2 (Nat.le_trans hBk (Nat.le_trans (Nat.le_of_lt hkb) hwj))).trans ⟨(Below.refl _ _).drew, fun _ _ => Safe.refl _ _⟩)
        have S2 : WaitAt w2.drew bm base (N + j) (Pn.addW g i (ts.take j)) := (Sj.next B2).keep fun _ _ _ => rfl
        have hw2 : base ≤ w2.drew.heap.size := Nat.le_trans hwj B2.size
        have kb2 : w2.drew.heap[kb]? = some (.cells (nvs (K.set i (K[i] + m))) 3) := (show w2.heap[kb]? = _ from below_heap B2 HKj)
        have A3 : Below w2.drew.heap.size w2.drew (w2.alloc (.cells #[.int .i64 (i : Int)] 3)).drew := below_alloc w2.drew (.cells #[.int .i64 (i : Int)] 3)
        have new3 : ∀ j u, [Value.int .i64 (i : Int)][j]? = some u → (w2.alloc (.cells #[.int .i64 (i : Int)] 3)).drew.cell? ((⟨w2.heap.size, 0, none⟩ : Addr).add j) = some u := cell_one_new w2 (.int .i64 (i : Int)) 3
        have o2' : w2.drew.heap[ob]? = _ := o2
        have H2' : w2.drew.heap[wr.heap.size]? = _ := H2
        have o3 := below_heap A3 o2'
        have H3 := below_heap A3 H2'
        have c3 : (w2.alloc (.cells #[.int .i64 (i : Int)] 3)).drew.cell? ⟨ob, 4, none⟩ = some (.map (some bm)) := (by rw [heap_cell o3]; rfl)
        have e3 : (w2.alloc (.cells #[.int .i64 (i : Int)] 3)).drew.cell? ⟨wr.heap.size, 0, none⟩ = some (str t.v) := (by rw [heap_cell H3]; rfl)
        obtain ⟨v, hrun, hoi, hzl, hback⟩ := S2.at t.v hvj (by omega)
        obtain ⟨u, hrun', hoi', hzl', hback'⟩ := (S2.next A3).at t.v hvj (by omega)
        have l63 : (nInts (Pn.addW g i (ts.take j) t.v)).length + 1 ≤ maxLen := by have := nInts_len (Pn.addW g i (ts.take j) t.v); unfold maxLen; omega
        have lby : ((nInts (Pn.addW g i (ts.take j) t.v)).length + 1) * 8 ≤ 140737488355328 := by have := nInts_len (Pn.addW g i (ts.take j) t.v); omega
        have lbs := Nat.le_trans hw2 A3.size
        have own3 : (w2.alloc (.cells #[.int .i64 (i : Int)] 3)).drew.ownsRow base 3 1 v _ _ := hoi.1.alloc (.cells #[.int .i64 (i : Int)] 3)
        have gro3 : ∀ z, w2.drew.grownBy (w2.alloc (.cells #[.int .i64 (i : Int)] 3)).drew z := fun z => World.grownBy_alloc w2.drew (.cells #[.int .i64 (i : Int)] 3) z
        have hbk := hideP hback
        have hbk' := hideP hback'
        clear hback hback'
        go_region_held_law (fun W => W.cell? ⟨ob, 4, none⟩ = some (.map (some bm)) ∧ W.cell? ⟨wr.heap.size, 0, none⟩ = some (str t.v)) (first | exact ⟨c2, e2⟩ | exact ⟨c3, e3⟩ | exact ⟨c4, e4⟩ | exact ⟨c5, e5⟩) (first
          | (refine step_append_lies _ rfl _ _ 34 rfl base 3 i0 (.int .i64 0) 1 8 Tryd.underlying34 hi0 hz0 hz1 hz2 rfl (by decide) v _ _ rfl own3 ⟨w2.heap.size, 0, none⟩ 1 1 [.int .i64 (i : Int)] rfl rfl new3 one0 (by decide) l63 lby lbs (w2.alloc (.cells #[.int .i64 (i : Int)] 3)).drew.heap.size rfl ?_; intro q cap w4 hown hgrow hat hlt
             have ho := hoi.appended hown wf0
             rw [app0] at ho
             have hall : (w2.drew).grownBy w4 v.ownBlock := (gro3 _).trans hgrow
             have o4 := Safe.grown own3 hgrow (show (48 : TypeId) ≠ 3 by decide) _ _ o3
             have H4 := Safe.grown own3 hgrow (show (25 : TypeId) ≠ 3 by decide) _ _ H3
             have c4 : w4.cell? ⟨ob, 4, none⟩ = some (.map (some bm)) := (by rw [heap_cell o4]; rfl)
             have e4 : w4.cell? ⟨wr.heap.size, 0, none⟩ = some (str t.v) := (by rw [heap_cell H4]; rfl)
             obtain ⟨w5, hup, S5, b5⟩ := hbk.out w4 _ i hall ho (hat.imp (fun h => h.symm) fun h => ⟨q, rfl, by rw [h]; exact A3.size⟩)
             have c5 : w5.cell? ⟨ob, 4, none⟩ = some (.map (some bm)) := (by rw [heap_cell (b5.heap hob o4)]; rfl)
             have e5 : w5.cell? ⟨wr.heap.size, 0, none⟩ = some (str t.v) := (by rw [heap_cell (b5.heap hnt H4)]; rfl)
             have R5 := wait_end S2 hkb hBk hBm hw2 hoi hall b5
             have QF := Q2.trans R5.1
             have KF := (R5.2.1 hkm).trans kb2
             have wF := R5.2.2
             clear R5 hown hgrow ho o4 H4 hat hlt)
          | (refine step_append_lies _ rfl _ _ 34 rfl base 3 i0 (.int .i64 0) 1 8 Tryd.underlying34 hi0 hz0 hz1 hz2 rfl (by decide) u _ _ rfl hoi'.1 ⟨w2.heap.size, 0, none⟩ 1 1 [.int .i64 (i : Int)] rfl rfl new3 one0 (by decide) l63 lby lbs (w2.alloc (.cells #[.int .i64 (i : Int)] 3)).drew.heap.size rfl ?_; intro q cap w4 hown hgrow hat hlt
             have ho := hoi'.appended hown wf0
             rw [app0] at ho
             have hall : (w2.alloc (.cells #[.int .i64 (i : Int)] 3)).drew.grownBy w4 u.ownBlock := hgrow
             have o4 := Safe.grown hoi'.1 hgrow (show (48 : TypeId) ≠ 3 by decide) _ _ o3
             have H4 := Safe.grown hoi'.1 hgrow (show (25 : TypeId) ≠ 3 by decide) _ _ H3
             have c4 : w4.cell? ⟨ob, 4, none⟩ = some (.map (some bm)) := (by rw [heap_cell o4]; rfl)
             have e4 : w4.cell? ⟨wr.heap.size, 0, none⟩ = some (str t.v) := (by rw [heap_cell H4]; rfl)
             obtain ⟨w5, hup, S5, b5⟩ := hbk'.out w4 _ i hall ho (hat.imp (fun h => h.symm) fun h => ⟨q, rfl, by rw [h]; exact Nat.le_refl _⟩)
             have c5 : w5.cell? ⟨ob, 4, none⟩ = some (.map (some bm)) := (by rw [heap_cell (b5.heap hob o4)]; rfl)
             have e5 : w5.cell? ⟨wr.heap.size, 0, none⟩ = some (str t.v) := (by rw [heap_cell (b5.heap hnt H4)]; rfl)
             have R5 := wait_end (S2.next A3) hkb hBk hBm (Nat.le_trans hw2 A3.size) hoi' hall b5
             have QF := Q2.trans ((Kq14.next A3 (by omega)).trans R5.1)
             have KF := (R5.2.1 hkm).trans (below_heap A3 kb2)
             have wF := R5.2.2
             clear R5 hown hgrow ho o4 H4 hat hlt))
        all_goals go_wp2_with fail
        all_goals go_roundw
        case rel => exact ⟨j + 1, rfl, hlt, QF, by rw [HG.out, HV.out h0, Nat.add_zero]; exact KF, by rw [HW.out, Pn.addW_snoc _ _ _ _ h0]; exact S5, wF⟩
        case measure => simp [RowKit.intOf]; omega
        case rel => exact ⟨j + 1, rfl, hlt, QF, by rw [HG.out, HV.out h0, Nat.add_zero]; exact KF, by rw [HW.out, Pn.addW_snoc _ _ _ _ h0]; exact S5, wF⟩
        case measure => simp [RowKit.intOf]; omega
    · have hq : ¬ (j : Int) < (ts.length : Int) := by omega
      obtain rfl : j = ts.length := by omega
      rw [List.take_length] at HKj Sj
      go_wp2_with fail
      go_end0
      exact ⟨rfl, Q, HKj, Sj⟩
end Go.Proofs.YtcncmpgababfjaaDoor
