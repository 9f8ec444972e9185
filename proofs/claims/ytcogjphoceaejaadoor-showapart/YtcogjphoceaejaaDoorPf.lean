/-
  The program's parser: literals, bodies, rules, programs.
-/
import Derived.Test.YtcogjphoceaejaaDoorPe
namespace Go.Proofs.YtcogjphoceaejaaDoor
open Go.RowKit Go.Lib Go.Shelf

def lcs (b : Tm) (pr : List UInt8) (s : Value) (a : Tm) : List Value := [str b.v, .bool b.k.num, .int .i64 b.k.n, str b.k.s, str pr, s, str a.v, .bool a.k.num, .int .i64 a.k.n, str a.k.s]
def rcs (b : Tm) (pr : List UInt8) (s : Value) (a : Tm) (l : Value) : List Value := [str b.v, .bool b.k.num, .int .i64 b.k.n, str b.k.s, str pr, s, str a.v, .bool a.k.num, .int .i64 a.k.n, str a.k.s, l]
abbrev zL : Obj := .cells #[.string { data := #[] }, .bool false, .int .i64 0, .string { data := #[] }, .string { data := #[] }, .slice none 0 0, .string { data := #[] }, .bool false, .int .i64 0, .string { data := #[] }] 62
abbrev zR : Obj := .cells #[.string { data := #[] }, .bool false, .int .i64 0, .string { data := #[] }, .string { data := #[] }, .slice none 0 0, .string { data := #[] }, .bool false, .int .i64 0, .string { data := #[] }, .slice none 0 0] 41
theorem new_lit (w : World) : (w.alloc zL).heap[w.heap.size]? = some (.cells (lcs t0 [] (.slice none 0 0) t0).toArray 62) := heap_alloc_new w zL
theorem new_rule (w : World) : (w.alloc zR).heap[w.heap.size]? = some (.cells (rcs t0 [] (.slice none 0 0) t0 (.slice none 0 0)).toArray 41) := heap_alloc_new w zR
def vLit : Lt → Value → World → Prop := fun l u w => ∃ x : Lv, u = lval x ∧ x.l = l ∧ x.At w
def vLits : List Lt → Value → World → Prop := fun ls u w => ∃ a c xs, u = .slice a (List.length xs) c ∧ xs.map Lv.l = ls ∧ RowT lK 62 w a c xs ∧ ∀ x ∈ xs, x.At w
def vRule : Ru → Value → World → Prop := fun r u w => ∃ x : Rv, u = rval x ∧ x.r = r ∧ x.At w
theorem took_eq_yes {k : Int} {s : List UInt8} {L : List Lx.Tok} (h : Ps.isT k s (Ps.hd L) = true) : tookR k s L = (true, L.tail) := by unfold tookR; rw [if_pos h]
theorem took_eq_no {k : Int} {s : List UInt8} {L : List Lx.Tok} (h : ¬ Ps.isT k s (Ps.hd L) = true) : tookR k s L = (false, L) := by unfold tookR; rw [if_neg h]

set_option maxRecDepth 100000 in
set_option maxHeartbeats 4000000 in
theorem literal_at (p E : Nat) (L : List Lx.Tok) (w : World) (h : PAt w p E L) :
    Calls Tryd.prog 89 #[ptr p] w (Does p E w (Ps.lit E L) vLit) := by
  have HM := hideP (fun L w hp => term_at p E L w hp)
  have HN := hideP (fun L w hp => need_at p E 1 [115, 97, 121, 115] L w hp (by decide))
  have HAt := hideP (fun L w hp => atom_at p E L w hp)
  have HT := hideP (fun L w hp => took_at p E 1 [97, 116] L w hp (by decide))
  have HA0 := hideP (fun w h => ahead0 p E L w h)
  have HA1 := hideP (fun w h => ahead1 p E L w h)
  have HP := hideP (fun w => mayBePred_at (Ps.hd L) w)
  have HI := hideP (fun w => is_at (Ps.hd L.tail) 1 [115, 97, 121, 115] w)
  have iN : (Tryd.prog.info? 62).map (·.size) = some 10 := by kernel_rfl
  have hp := h.lt
  have B0 := below_alloc w zL
  have V0 := new_lit w
  have P0 := h.below B0
  have b0 : But p w (w.alloc zL) := But.of_below B0
  have hsaid : Hid (Ps.said L = (!Ps.mayW (Ps.hd L) || Ps.isT 1 [115, 97, 121, 115] (Ps.hd L.tail))) := rfl
  go_enter Tryd.func89, Tryd.ntmps89
  go_wp2_with fail
  refine (HA0.out _ P0).mono ?_
  rintro e z1 ⟨rfl, c1⟩
  generalize hS : w.heap.size = S at *
  have HS := hideP hS; clear hS
  have V1 := below_heap c1 V0
  have P1 := P0.below c1
  have D1 := b0.below c1
  clear V0 P0 b0 c1 B0
  generalize Ps.hd L = t at *
  generalize Ps.mayW t = m at *
  go_wp2_with fail
  refine (HP.out _).mono ?_
  rintro e z2 ⟨rfl, c2⟩
  have V2 := below_heap c2 V1
  have P2 := P1.below c2
  have D2 := D1.below c2
  clear V1 P1 D1 c2
  cases m
  · have HSD := hideP (hsaid.out.trans (show (!false || _) = true from rfl))
    clear hsaid
    go_wp2_with fail
    refine (HM.out L z2 P2).mono ?_
    generalize hx : Ps.term E L = r3
    rintro e z3 ⟨c3, hd⟩
    have D3 := D2.trans c3
    rcases r3 with x | ⟨b, L0⟩
    · obtain rfl := hd
      have HX := hideP hx; clear hx
      simp only [Pan]
      go_wp2_with fail
      exact ⟨rfl, by unfold Ps.lit Ps.by_; rw [if_pos HSD.out, HX.out]; exact does_no D3⟩
    have H3 := hideP hx; clear hx
    obtain ⟨⟨_, rfl, rfl⟩, P3⟩ := hd
    have V3 := c3.heap (show S ≠ p by omega) V2
    go_wp2_with (first
      | (refine wpList_store_rec rfl 25 _ _ rfl S 0 10 4 62 (tv b) (lcs b [] (.slice none 0 0) t0).toArray rfl rfl V3 rfl rfl (by decide) (by kernel_rfl) rfl rfl ?_; intro z4 V4 c4))
    have P4 := P3.but c4 V3 (by decide) (by decide)
    have D4 := D3.fresh c4 (Nat.le_of_eq HS.out)
    refine (HN.out L0 z4 P4).mono ?_
    generalize hx : Ps.need E 1 [115, 97, 121, 115] L0 = r5
    rintro e w1 ⟨c5, hd⟩
    have B1 := D4.trans c5
    rcases r5 with x | ⟨_, L1⟩
    · obtain rfl := hd
      have HX := hideP hx; clear hx
      simp only [Pan]
      go_wp2_with fail
      exact ⟨rfl, by unfold Ps.lit Ps.by_ Ps.says; rw [if_pos HSD.out, H3.out, Ps.bnd_ok, HX.out]; exact does_no B1⟩
    have H5 := hideP hx; clear hx
    obtain ⟨⟨_, rfl, rfl⟩, p1⟩ := hd
    have V1 := c5.heap (show S ≠ p by omega) V4
    have HB : Hid (Ps.by_ E L = .ok (b, L1)) := by show _ = _; unfold Ps.by_ Ps.says; rw [if_pos HSD.out, H3.out, Ps.bnd_ok, H5.out]; rfl
    clear V2 P2 D2 c3 P3 V3 V4 c4 P4 D4 c5 D3 H3 H5 HSD
    go_wp2_with fail
    refine (HAt.out L1 w1 p1).mono ?_
    generalize hx : Ps.atom E L1 = r2
    rintro e w2 ⟨b2, hd⟩
    have B2 := B1.trans b2
    rcases r2 with x | ⟨⟨pr, ts⟩, L2⟩
    · obtain rfl := hd
      have HX := hideP hx; clear hx
      simp only [Pan]
      go_wp2_with fail
      exact ⟨rfl, by unfold Ps.lit; rw [HB.out, Ps.bnd_ok, HX.out]; exact does_no B2⟩
    have H2 := hideP hx; clear hx
    obtain ⟨⟨_, rfl, ⟨a2, c2, rfl, r2⟩⟩, p2⟩ := hd
    have V2 := b2.heap (show S ≠ p by omega) V1
    go_wp2_with (first
      | (refine wpList_store_cel rfl 9 _ _ rfl S 4 10 62 (str pr) (lcs b pr (.slice none 0 0) t0).toArray rfl rfl V2 rfl (by decide) (by kernel_rfl) rfl rfl ?_; intro w3 V3 b3)
      | (refine wpList_store_cel rfl 38 _ _ rfl S 5 10 62 (.slice a2 ts.length c2) (lcs b pr (.slice a2 ts.length c2) t0).toArray rfl rfl V3 rfl (by decide) (by kernel_rfl) rfl rfl ?_; intro w4 V4 b4))
    have p4 := (p2.but b3 V2 (by decide) (by decide)).but b4 V3 (by decide) (by decide)
    have r4 := (r2.safe (Safe.but b3 V2 (by decide))).safe (Safe.but b4 V3 (by decide))
    have B4 := (B2.fresh b3 (Nat.le_of_eq HS.out)).fresh b4 (Nat.le_of_eq HS.out)
    clear V1 p1 B1 b2 p2 r2 B2 V2 V3 b3 b4
    have TK := HT.out L2 w4 p4
    by_cases hc : Ps.isT 1 [97, 116] (Ps.hd L2) = true
    · rw [took_eq_yes hc] at TK
      have HC := hideP hc; clear hc
      refine TK.mono ?_
      rintro e w5 ⟨rfl, p5, b5⟩
      have V5 := b5.heap (show S ≠ p by omega) V4
      have r5 := r4.safe (p4.safe b5 (by decide))
      have B5 := B4.trans b5
      clear TK V4 p4 r4 B4 b5
      go_wp2_with fail
      refine (HM.out L2.tail w5 p5).mono ?_
      generalize hx : Ps.term E L2.tail = r6
      rintro e w6 ⟨b6, hd⟩
      have B6 := B5.trans b6
      rcases r6 with x | ⟨a, L3⟩
      · obtain rfl := hd
        have HX := hideP hx; clear hx
        simp only [Pan]
        go_wp2_with fail
        exact ⟨rfl, by unfold Ps.lit; rw [HB.out, Ps.bnd_ok, H2.out, Ps.bnd_ok]; unfold Ps.opt Ps.at_; rw [if_pos HC.out, HX.out]; exact does_no B6⟩
      have H6 := hideP hx; clear hx
      obtain ⟨⟨_, rfl, rfl⟩, p6⟩ := hd
      have V6 := b6.heap (show S ≠ p by omega) V5
      have r6 := r5.safe (p5.safe b6 (by decide))
      go_wp2_with (first
        | (refine wpList_store_rec rfl 25 _ _ rfl S 6 10 4 62 (tv a) (lcs b pr (.slice a2 ts.length c2) a).toArray rfl rfl V6 rfl rfl (by decide) (by kernel_rfl) rfl rfl ?_; intro w7 V7 b7)
        | (refine wpList_load_all rfl 62 _ rfl S 10 62 (lcs b pr (.slice a2 ts.length c2) a) _ rfl V7 rfl Tryd.underlying62 rfl iN ?_)
        | (refine wpList_store_all rfl 62 _ _ rfl S 10 _ 62 (lcs b pr (.slice a2 ts.length c2) a) rfl rfl V7 rfl rfl iN rfl ?_; intro w8 V8 b8))
      have p8 := (p6.but b7 V6 (by decide) (by decide)).but b8 V7 (by decide) (by decide)
      have r8 := (r6.safe (Safe.but b7 V6 (by decide))).safe (Safe.but b8 V7 (by decide))
      have B8 := (B6.fresh b7 (Nat.le_of_eq HS.out)).fresh b8 (Nat.le_of_eq HS.out)
      refine bodyPost_ret (results_cell (b := S) rfl rfl V8 Tryd.underlying62 rfl (by kernel_rfl)) rfl ?_
      have e : Ps.lit E L = .ok (⟨b, pr, ts, a⟩, L3) := by unfold Ps.lit; rw [HB.out, Ps.bnd_ok, H2.out, Ps.bnd_ok]; unfold Ps.opt Ps.at_; rw [if_pos HC.out, H6.out]; rfl
      rw [e]
      exact does_ok B8 ⟨⟨b, pr, a2, c2, ts, a⟩, rfl, rfl, r8⟩ p8
    · rw [took_eq_no hc] at TK
      have HC := hideP hc; clear hc
      refine TK.mono ?_
      rintro e w5 ⟨rfl, p5, b5⟩
      have V5 := b5.heap (show S ≠ p by omega) V4
      have r5 := r4.safe (p4.safe b5 (by decide))
      have B5 := B4.trans b5
      clear TK V4 p4 r4 B4 b5
      go_wp2_with (first
        | (refine wpList_load_all rfl 62 _ rfl S 10 62 (lcs b pr (.slice a2 ts.length c2) t0) _ rfl V5 rfl Tryd.underlying62 rfl iN ?_)
        | (refine wpList_store_all rfl 62 _ _ rfl S 10 _ 62 (lcs b pr (.slice a2 ts.length c2) t0) rfl rfl V5 rfl rfl iN rfl ?_; intro w8 V8 b8))
      have p8 := p5.but b8 V5 (by decide) (by decide)
      have r8 := r5.safe (Safe.but b8 V5 (by decide))
      have B8 := B5.fresh b8 (Nat.le_of_eq HS.out)
      refine bodyPost_ret (results_cell (b := S) rfl rfl V8 Tryd.underlying62 rfl (by kernel_rfl)) rfl ?_
      have e : Ps.lit E L = .ok (⟨b, pr, ts, t0⟩, L2) := by unfold Ps.lit; rw [HB.out, Ps.bnd_ok, H2.out, Ps.bnd_ok]; unfold Ps.opt Ps.at_; rw [if_neg HC.out]; rfl
      rw [e]
      exact does_ok B8 ⟨⟨b, pr, a2, c2, ts, t0⟩, rfl, rfl, r8⟩ p8
  · go_wp2_with fail
    refine (HA1.out _ P2).mono ?_
    rintro e z3 ⟨rfl, c3⟩
    have V3 := below_heap c3 V2
    have P3 := P2.below c3
    have D3 := D2.below c3
    clear V2 P2 D2 c3
    generalize Ps.hd L.tail = t' at *
    generalize Ps.isT 1 [115, 97, 121, 115] t' = q at *
    go_wp2_with fail
    refine (HI.out _).mono ?_
    rintro e w1 ⟨rfl, c4⟩
    have V9 := below_heap c4 V3
    have P9 := P3.below c4
    have D9 := D3.below c4
    clear V3 P3 D3 c4
    cases q
    · obtain ⟨b, hb0⟩ : ∃ b, b = t0 := ⟨t0, rfl⟩
      obtain ⟨L1, hL1⟩ : ∃ L1, L1 = L := ⟨L, rfl⟩
      have HB : Hid (Ps.by_ E L = .ok (b, L1)) := by show _ = _; rw [hb0, hL1]; unfold Ps.by_; rw [if_neg (by rw [hsaid.out]; decide)]
      have p1 : PAt w1 p E L1 := by rw [hL1]; exact P9
      have V1 : w1.heap[S]? = some (.cells (lcs b [] (.slice none 0 0) t0).toArray 62) := by rw [hb0]; exact V9
      have B1 := D9
      clear hsaid V9 P9 D9 hb0 hL1
      go_wp2_with fail
      refine (HAt.out L1 w1 p1).mono ?_
      generalize hx : Ps.atom E L1 = r2
      rintro e w2 ⟨b2, hd⟩
      have B2 := B1.trans b2
      rcases r2 with x | ⟨⟨pr, ts⟩, L2⟩
      · obtain rfl := hd
        have HX := hideP hx; clear hx
        simp only [Pan]
        go_wp2_with fail
        exact ⟨rfl, by unfold Ps.lit; rw [HB.out, Ps.bnd_ok, HX.out]; exact does_no B2⟩
      have H2 := hideP hx; clear hx
      obtain ⟨⟨_, rfl, ⟨a2, c2, rfl, r2⟩⟩, p2⟩ := hd
      have V2 := b2.heap (show S ≠ p by omega) V1
      go_wp2_with (first
        | (refine wpList_store_cel rfl 9 _ _ rfl S 4 10 62 (str pr) (lcs b pr (.slice none 0 0) t0).toArray rfl rfl V2 rfl (by decide) (by kernel_rfl) rfl rfl ?_; intro w3 V3 b3)
        | (refine wpList_store_cel rfl 38 _ _ rfl S 5 10 62 (.slice a2 ts.length c2) (lcs b pr (.slice a2 ts.length c2) t0).toArray rfl rfl V3 rfl (by decide) (by kernel_rfl) rfl rfl ?_; intro w4 V4 b4))
      have p4 := (p2.but b3 V2 (by decide) (by decide)).but b4 V3 (by decide) (by decide)
      have r4 := (r2.safe (Safe.but b3 V2 (by decide))).safe (Safe.but b4 V3 (by decide))
      have B4 := (B2.fresh b3 (Nat.le_of_eq HS.out)).fresh b4 (Nat.le_of_eq HS.out)
      clear V1 p1 B1 b2 p2 r2 B2 V2 V3 b3 b4
      have TK := HT.out L2 w4 p4
      by_cases hc : Ps.isT 1 [97, 116] (Ps.hd L2) = true
      · rw [took_eq_yes hc] at TK
        have HC := hideP hc; clear hc
        refine TK.mono ?_
        rintro e w5 ⟨rfl, p5, b5⟩
        have V5 := b5.heap (show S ≠ p by omega) V4
        have r5 := r4.safe (p4.safe b5 (by decide))
        have B5 := B4.trans b5
        clear TK V4 p4 r4 B4 b5
        go_wp2_with fail
        refine (HM.out L2.tail w5 p5).mono ?_
        generalize hx : Ps.term E L2.tail = r6
        rintro e w6 ⟨b6, hd⟩
        have B6 := B5.trans b6
        rcases r6 with x | ⟨a, L3⟩
        · obtain rfl := hd
          have HX := hideP hx; clear hx
          simp only [Pan]
          go_wp2_with fail
          exact ⟨rfl, by unfold Ps.lit; rw [HB.out, Ps.bnd_ok, H2.out, Ps.bnd_ok]; unfold Ps.opt Ps.at_; rw [if_pos HC.out, HX.out]; exact does_no B6⟩
        have H6 := hideP hx; clear hx
        obtain ⟨⟨_, rfl, rfl⟩, p6⟩ := hd
        have V6 := b6.heap (show S ≠ p by omega) V5
        have r6 := r5.safe (p5.safe b6 (by decide))
        go_wp2_with (first
          | (refine wpList_store_rec rfl 25 _ _ rfl S 6 10 4 62 (tv a) (lcs b pr (.slice a2 ts.length c2) a).toArray rfl rfl V6 rfl rfl (by decide) (by kernel_rfl) rfl rfl ?_; intro w7 V7 b7)
          | (refine wpList_load_all rfl 62 _ rfl S 10 62 (lcs b pr (.slice a2 ts.length c2) a) _ rfl V7 rfl Tryd.underlying62 rfl iN ?_)
          | (refine wpList_store_all rfl 62 _ _ rfl S 10 _ 62 (lcs b pr (.slice a2 ts.length c2) a) rfl rfl V7 rfl rfl iN rfl ?_; intro w8 V8 b8))
        have p8 := (p6.but b7 V6 (by decide) (by decide)).but b8 V7 (by decide) (by decide)
        have r8 := (r6.safe (Safe.but b7 V6 (by decide))).safe (Safe.but b8 V7 (by decide))
        have B8 := (B6.fresh b7 (Nat.le_of_eq HS.out)).fresh b8 (Nat.le_of_eq HS.out)
        refine bodyPost_ret (results_cell (b := S) rfl rfl V8 Tryd.underlying62 rfl (by kernel_rfl)) rfl ?_
        have e : Ps.lit E L = .ok (⟨b, pr, ts, a⟩, L3) := by unfold Ps.lit; rw [HB.out, Ps.bnd_ok, H2.out, Ps.bnd_ok]; unfold Ps.opt Ps.at_; rw [if_pos HC.out, H6.out]; rfl
        rw [e]
        exact does_ok B8 ⟨⟨b, pr, a2, c2, ts, a⟩, rfl, rfl, r8⟩ p8
      · rw [took_eq_no hc] at TK
        have HC := hideP hc; clear hc
        refine TK.mono ?_
        rintro e w5 ⟨rfl, p5, b5⟩
        have V5 := b5.heap (show S ≠ p by omega) V4
        have r5 := r4.safe (p4.safe b5 (by decide))
        have B5 := B4.trans b5
        clear TK V4 p4 r4 B4 b5
        go_wp2_with (first
          | (refine wpList_load_all rfl 62 _ rfl S 10 62 (lcs b pr (.slice a2 ts.length c2) t0) _ rfl V5 rfl Tryd.underlying62 rfl iN ?_)
          | (refine wpList_store_all rfl 62 _ _ rfl S 10 _ 62 (lcs b pr (.slice a2 ts.length c2) t0) rfl rfl V5 rfl rfl iN rfl ?_; intro w8 V8 b8))
        have p8 := p5.but b8 V5 (by decide) (by decide)
        have r8 := r5.safe (Safe.but b8 V5 (by decide))
        have B8 := B5.fresh b8 (Nat.le_of_eq HS.out)
        refine bodyPost_ret (results_cell (b := S) rfl rfl V8 Tryd.underlying62 rfl (by kernel_rfl)) rfl ?_
        have e : Ps.lit E L = .ok (⟨b, pr, ts, t0⟩, L2) := by unfold Ps.lit; rw [HB.out, Ps.bnd_ok, H2.out, Ps.bnd_ok]; unfold Ps.opt Ps.at_; rw [if_neg HC.out]; rfl
        rw [e]
        exact does_ok B8 ⟨⟨b, pr, a2, c2, ts, t0⟩, rfl, rfl, r8⟩ p8
    · have HSD := hideP (hsaid.out.trans (show (!true || true) = true from rfl))
      clear hsaid
      go_wp2_with fail
      refine (HM.out L w1 P9).mono ?_
      generalize hx : Ps.term E L = r3
      rintro e y3 ⟨c3, hd⟩
      have D3 := D9.trans c3
      rcases r3 with x | ⟨b, L0⟩
      · obtain rfl := hd
        have HX := hideP hx; clear hx
        simp only [Pan]
        go_wp2_with fail
        exact ⟨rfl, by unfold Ps.lit Ps.by_; rw [if_pos HSD.out, HX.out]; exact does_no D3⟩
      have H3 := hideP hx; clear hx
      obtain ⟨⟨_, rfl, rfl⟩, P3⟩ := hd
      have V3 := c3.heap (show S ≠ p by omega) V9
      go_wp2_with (first
        | (refine wpList_store_rec rfl 25 _ _ rfl S 0 10 4 62 (tv b) (lcs b [] (.slice none 0 0) t0).toArray rfl rfl V3 rfl rfl (by decide) (by kernel_rfl) rfl rfl ?_; intro y4 V4 c4))
      have P4 := P3.but c4 V3 (by decide) (by decide)
      have D4 := D3.fresh c4 (Nat.le_of_eq HS.out)
      refine (HN.out L0 y4 P4).mono ?_
      generalize hx : Ps.need E 1 [115, 97, 121, 115] L0 = r5
      rintro e w1 ⟨c5, hd⟩
      have B1 := D4.trans c5
      rcases r5 with x | ⟨_, L1⟩
      · obtain rfl := hd
        have HX := hideP hx; clear hx
        simp only [Pan]
        go_wp2_with fail
        exact ⟨rfl, by unfold Ps.lit Ps.by_ Ps.says; rw [if_pos HSD.out, H3.out, Ps.bnd_ok, HX.out]; exact does_no B1⟩
      have H5 := hideP hx; clear hx
      obtain ⟨⟨_, rfl, rfl⟩, p1⟩ := hd
      have V1 := c5.heap (show S ≠ p by omega) V4
      have HB : Hid (Ps.by_ E L = .ok (b, L1)) := by show _ = _; unfold Ps.by_ Ps.says; rw [if_pos HSD.out, H3.out, Ps.bnd_ok, H5.out]; rfl
      clear V9 P9 D9 c3 P3 V3 V4 c4 P4 D4 c5 D3 H3 H5 HSD
      go_wp2_with fail
      refine (HAt.out L1 w1 p1).mono ?_
      generalize hx : Ps.atom E L1 = r2
      rintro e w2 ⟨b2, hd⟩
      have B2 := B1.trans b2
      rcases r2 with x | ⟨⟨pr, ts⟩, L2⟩
      · obtain rfl := hd
        have HX := hideP hx; clear hx
        simp only [Pan]
        go_wp2_with fail
        exact ⟨rfl, by unfold Ps.lit; rw [HB.out, Ps.bnd_ok, HX.out]; exact does_no B2⟩
      have H2 := hideP hx; clear hx
      obtain ⟨⟨_, rfl, ⟨a2, c2, rfl, r2⟩⟩, p2⟩ := hd
      have V2 := b2.heap (show S ≠ p by omega) V1
      go_wp2_with (first
        | (refine wpList_store_cel rfl 9 _ _ rfl S 4 10 62 (str pr) (lcs b pr (.slice none 0 0) t0).toArray rfl rfl V2 rfl (by decide) (by kernel_rfl) rfl rfl ?_; intro w3 V3 b3)
        | (refine wpList_store_cel rfl 38 _ _ rfl S 5 10 62 (.slice a2 ts.length c2) (lcs b pr (.slice a2 ts.length c2) t0).toArray rfl rfl V3 rfl (by decide) (by kernel_rfl) rfl rfl ?_; intro w4 V4 b4))
      have p4 := (p2.but b3 V2 (by decide) (by decide)).but b4 V3 (by decide) (by decide)
      have r4 := (r2.safe (Safe.but b3 V2 (by decide))).safe (Safe.but b4 V3 (by decide))
      have B4 := (B2.fresh b3 (Nat.le_of_eq HS.out)).fresh b4 (Nat.le_of_eq HS.out)
      clear V1 p1 B1 b2 p2 r2 B2 V2 V3 b3 b4
      have TK := HT.out L2 w4 p4
      by_cases hc : Ps.isT 1 [97, 116] (Ps.hd L2) = true
      · rw [took_eq_yes hc] at TK
        have HC := hideP hc; clear hc
        refine TK.mono ?_
        rintro e w5 ⟨rfl, p5, b5⟩
        have V5 := b5.heap (show S ≠ p by omega) V4
        have r5 := r4.safe (p4.safe b5 (by decide))
        have B5 := B4.trans b5
        clear TK V4 p4 r4 B4 b5
        go_wp2_with fail
        refine (HM.out L2.tail w5 p5).mono ?_
        generalize hx : Ps.term E L2.tail = r6
        rintro e w6 ⟨b6, hd⟩
        have B6 := B5.trans b6
        rcases r6 with x | ⟨a, L3⟩
        · obtain rfl := hd
          have HX := hideP hx; clear hx
          simp only [Pan]
          go_wp2_with fail
          exact ⟨rfl, by unfold Ps.lit; rw [HB.out, Ps.bnd_ok, H2.out, Ps.bnd_ok]; unfold Ps.opt Ps.at_; rw [if_pos HC.out, HX.out]; exact does_no B6⟩
        have H6 := hideP hx; clear hx
        obtain ⟨⟨_, rfl, rfl⟩, p6⟩ := hd
        have V6 := b6.heap (show S ≠ p by omega) V5
        have r6 := r5.safe (p5.safe b6 (by decide))
        go_wp2_with (first
          | (refine wpList_store_rec rfl 25 _ _ rfl S 6 10 4 62 (tv a) (lcs b pr (.slice a2 ts.length c2) a).toArray rfl rfl V6 rfl rfl (by decide) (by kernel_rfl) rfl rfl ?_; intro w7 V7 b7)
          | (refine wpList_load_all rfl 62 _ rfl S 10 62 (lcs b pr (.slice a2 ts.length c2) a) _ rfl V7 rfl Tryd.underlying62 rfl iN ?_)
          | (refine wpList_store_all rfl 62 _ _ rfl S 10 _ 62 (lcs b pr (.slice a2 ts.length c2) a) rfl rfl V7 rfl rfl iN rfl ?_; intro w8 V8 b8))
        have p8 := (p6.but b7 V6 (by decide) (by decide)).but b8 V7 (by decide) (by decide)
        have r8 := (r6.safe (Safe.but b7 V6 (by decide))).safe (Safe.but b8 V7 (by decide))
        have B8 := (B6.fresh b7 (Nat.le_of_eq HS.out)).fresh b8 (Nat.le_of_eq HS.out)
        refine bodyPost_ret (results_cell (b := S) rfl rfl V8 Tryd.underlying62 rfl (by kernel_rfl)) rfl ?_
        have e : Ps.lit E L = .ok (⟨b, pr, ts, a⟩, L3) := by unfold Ps.lit; rw [HB.out, Ps.bnd_ok, H2.out, Ps.bnd_ok]; unfold Ps.opt Ps.at_; rw [if_pos HC.out, H6.out]; rfl
        rw [e]
        exact does_ok B8 ⟨⟨b, pr, a2, c2, ts, a⟩, rfl, rfl, r8⟩ p8
      · rw [took_eq_no hc] at TK
        have HC := hideP hc; clear hc
        refine TK.mono ?_
        rintro e w5 ⟨rfl, p5, b5⟩
        have V5 := b5.heap (show S ≠ p by omega) V4
        have r5 := r4.safe (p4.safe b5 (by decide))
        have B5 := B4.trans b5
        clear TK V4 p4 r4 B4 b5
        go_wp2_with (first
          | (refine wpList_load_all rfl 62 _ rfl S 10 62 (lcs b pr (.slice a2 ts.length c2) t0) _ rfl V5 rfl Tryd.underlying62 rfl iN ?_)
          | (refine wpList_store_all rfl 62 _ _ rfl S 10 _ 62 (lcs b pr (.slice a2 ts.length c2) t0) rfl rfl V5 rfl rfl iN rfl ?_; intro w8 V8 b8))
        have p8 := p5.but b8 V5 (by decide) (by decide)
        have r8 := r5.safe (Safe.but b8 V5 (by decide))
        have B8 := B5.fresh b8 (Nat.le_of_eq HS.out)
        refine bodyPost_ret (results_cell (b := S) rfl rfl V8 Tryd.underlying62 rfl (by kernel_rfl)) rfl ?_
        have e : Ps.lit E L = .ok (⟨b, pr, ts, t0⟩, L2) := by unfold Ps.lit; rw [HB.out, Ps.bnd_ok, H2.out, Ps.bnd_ok]; unfold Ps.opt Ps.at_; rw [if_neg HC.out]; rfl
        rw [e]
        exact does_ok B8 ⟨⟨b, pr, a2, c2, ts, t0⟩, rfl, rfl, r8⟩ p8
end Go.Proofs.YtcogjphoceaejaaDoor
