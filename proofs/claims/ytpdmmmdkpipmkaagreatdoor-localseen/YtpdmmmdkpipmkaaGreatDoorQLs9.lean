/-
  The program's parser: literals, bodies, rules, programs.
-/
import Derived.Deep.QuietTactic
import Derived.BigQuiet
import Derived.Laws.StructEq
import Derived.Deep.Cut
import Derived.StillTailTactics
import Derived.Test.YtpdmmmdkpipmkaaGreatDoorQPe
import Derived.Test.YtpdmmmdkpipmkaaGreatDoorQSj
import Derived.Test.YtpdmmmdkpipmkaaGreatDoorQTv
namespace Go.Proofs.YtpdmmmdkpipmkaaGreatDoor
open Go.RowKit Go.Lib Go.Shelf

def lcs (b : Tm) (pr : List UInt8) (s : Value) (a : Tm) : List Value := [str b.v, .bool b.k.num, .int .i64 b.k.n, str b.k.s, str pr, s, str a.v, .bool a.k.num, .int .i64 a.k.n, str a.k.s]
def rcs (b : Tm) (pr : List UInt8) (s : Value) (a : Tm) (l : Value) : List Value := [str b.v, .bool b.k.num, .int .i64 b.k.n, str b.k.s, str pr, s, str a.v, .bool a.k.num, .int .i64 a.k.n, str a.k.s, l]
abbrev zL : Obj := .cells #[.string { data := #[] }, .bool false, .int .i64 0, .string { data := #[] }, .string { data := #[] }, .slice none 0 0, .string { data := #[] }, .bool false, .int .i64 0, .string { data := #[] }] 52
abbrev zR : Obj := .cells #[.string { data := #[] }, .bool false, .int .i64 0, .string { data := #[] }, .string { data := #[] }, .slice none 0 0, .string { data := #[] }, .bool false, .int .i64 0, .string { data := #[] }, .slice none 0 0] 48
theorem new_lit (w : World) : (w.alloc zL).heap[w.heap.size]? = some (.cells (lcs t0 [] (.slice none 0 0) t0).toArray 52) := heap_alloc_new w zL
theorem new_rule (w : World) : (w.alloc zR).heap[w.heap.size]? = some (.cells (rcs t0 [] (.slice none 0 0) t0 (.slice none 0 0)).toArray 48) := heap_alloc_new w zR
def vLit : Lt → Value → World → Prop := fun l u w => ∃ x : Lv, u = lval x ∧ x.l = l ∧ x.At w
def vLits : List Lt → Value → World → Prop := fun ls u w => ∃ a c xs, u = .slice a (List.length xs) c ∧ xs.map Lv.l = ls ∧ RowT lK 52 w a c xs ∧ ∀ x ∈ xs, x.At w
def vRule : Ru → Value → World → Prop := fun r u w => ∃ x : Rv, u = rval x ∧ x.r = r ∧ x.At w
theorem took_eq_yes {k : Int} {s : List UInt8} {L : List Lx.Tok} (h : Ps.isT k s (Ps.hd L) = true) : tookR k s L = (true, L.tail) := by unfold tookR; rw [if_pos h]
theorem took_eq_no {k : Int} {s : List UInt8} {L : List Lx.Tok} (h : ¬ Ps.isT k s (Ps.hd L) = true) : tookR k s L = (false, L) := by unfold tookR; rw [if_neg h]

set_option maxRecDepth 100000 in
set_option maxHeartbeats 4000000 in
theorem literal_at (p E : Nat) (L : List Lx.Tok) (w : World) (h : PAt w p E L) :
    Calls Tryz.prog 161 #[ptr p] w (Does p E w (Ps.lit E L) vLit) := by
  have HM := hideP (fun L w hp => term_at p E L w hp)
  have HN := hideP (fun L w hp => need_at p E 1 [115, 97, 121, 115] L w hp (by decide))
  have HAt := hideP (fun L w hp => atom_at p E L w hp)
  have HT := hideP (fun L w hp => took_at p E 1 [97, 116] L w hp (by decide))
  have HA0 := hideP (fun w h => ahead0 p E L w h)
  have HA1 := hideP (fun w h => ahead1 p E L w h)
  have HP := hideP (fun w => mayBePred_at (Ps.hd L) w)
  have HI := hideP (fun w => is_at (Ps.hd L.tail) 1 [115, 97, 121, 115] w)
  have iN : (Tryz.prog.info? 52).map (·.size) = some 10 := by kernel_rfl
  have hp := h.lt
  have B0 := below_alloc w zL
  have V0 := new_lit w
  have P0 := h.below B0
  have b0 : But p w (w.alloc zL) := But.of_below B0
  have hsaid : Hid (Ps.said L = (!Ps.mayW (Ps.hd L) || Ps.isT 1 [115, 97, 121, 115] (Ps.hd L.tail))) := rfl
  go_enter Tryz.func161, Tryz.ntmps161
  go_wp2_with fail
  refine (HA0.out _ P0).mono ?_
  rintro e z1 ⟨rfl, c1⟩
  generalize hS : w.heap.size = S at *
  have HS := hideP hS; clear hS
  have V1 := below_heap c1 V0
  have P1 := P0.below c1
  have D1 := b0.below c1
  clear V0 P0 b0 c1 B0
  generalize Ps.hd L = t at *
  generalize Ps.mayW t = m at *
  go_wp2_with fail
  refine (HP.out _).mono ?_
  rintro e z2 ⟨rfl, c2⟩
  have V2 := below_heap c2 V1
  have P2 := P1.below c2
  have D2 := D1.below c2
  clear V1 P1 D1 c2
  cases m
  · have HSD := hideP (hsaid.out.trans (show (!false || _) = true from rfl))
    clear hsaid
    go_wp2_with fail
    refine (HM.out L z2 P2).mono ?_
    generalize hx : Ps.term E L = r3
    rintro e z3 ⟨c3, hd⟩
    have D3 := D2.trans c3
    rcases r3 with x | ⟨b, L0⟩
    · obtain rfl := hd
      have HX := hideP hx; clear hx
      simp only [Pan]
      go_wp2_with fail
      exact ⟨rfl, by unfold Ps.lit Ps.by_; rw [if_pos HSD.out, HX.out]; exact does_no D3⟩
    have H3 := hideP hx; clear hx
    obtain ⟨⟨_, rfl, rfl⟩, P3⟩ := hd
    have V3 := c3.heap (show S ≠ p by omega) V2
    go_wp2_with (first
      | (refine wpList_store_rec rfl 44 _ _ rfl S 0 10 4 52 (tv b) (lcs b [] (.slice none 0 0) t0).toArray rfl rfl V3 rfl rfl (by decide) (by kernel_rfl) rfl rfl ?_; intro z4 V4 c4))
    have P4 := P3.but c4 V3 (by decide) (by decide)
    have D4 := D3.fresh c4 (Nat.le_of_eq HS.out)
    refine (HN.out L0 z4 P4).mono ?_
    generalize hx : Ps.need E 1 [115, 97, 121, 115] L0 = r5
    rintro e w1 ⟨c5, hd⟩
    have B1 := D4.trans c5
    rcases r5 with x | ⟨_, L1⟩
    · obtain rfl := hd
      have HX := hideP hx; clear hx
      simp only [Pan]
      go_wp2_with fail
      exact ⟨rfl, by unfold Ps.lit Ps.by_ Ps.says; rw [if_pos HSD.out, H3.out, Ps.bnd_ok, HX.out]; exact does_no B1⟩
    have H5 := hideP hx; clear hx
    obtain ⟨⟨_, rfl, rfl⟩, p1⟩ := hd
    have V1 := c5.heap (show S ≠ p by omega) V4
    have HB : Hid (Ps.by_ E L = .ok (b, L1)) := by show _ = _; unfold Ps.by_ Ps.says; rw [if_pos HSD.out, H3.out, Ps.bnd_ok, H5.out]; rfl
    clear V2 P2 D2 c3 P3 V3 V4 c4 P4 D4 c5 D3 H3 H5 HSD
    go_wp2_with fail
    refine (HAt.out L1 w1 p1).mono ?_
    generalize hx : Ps.atom E L1 = r2
    rintro e w2 ⟨b2, hd⟩
    have B2 := B1.trans b2
    rcases r2 with x | ⟨⟨pr, ts⟩, L2⟩
    · obtain rfl := hd
      have HX := hideP hx; clear hx
      simp only [Pan]
      go_wp2_with fail
      exact ⟨rfl, by unfold Ps.lit; rw [HB.out, Ps.bnd_ok, HX.out]; exact does_no B2⟩
    have H2 := hideP hx; clear hx
    obtain ⟨⟨_, rfl, ⟨a2, c2, rfl, r2⟩⟩, p2⟩ := hd
    have V2 := b2.heap (show S ≠ p by omega) V1
    go_wp2_with (first
      | (refine wpList_store_cel rfl 9 _ _ rfl S 4 10 52 (str pr) (lcs b pr (.slice none 0 0) t0).toArray rfl rfl V2 rfl (by decide) (by kernel_rfl) rfl rfl ?_; intro w3 V3 b3)
      | (refine wpList_store_cel rfl 45 _ _ rfl S 5 10 52 (.slice a2 ts.length c2) (lcs b pr (.slice a2 ts.length c2) t0).toArray rfl rfl V3 rfl (by decide) (by kernel_rfl) rfl rfl ?_; intro w4 V4 b4))
    have p4 := (p2.but b3 V2 (by decide) (by decide)).but b4 V3 (by decide) (by decide)
    have r4 := (r2.safe (Safe.but b3 V2 (by decide))).safe (Safe.but b4 V3 (by decide))
    have B4 := (B2.fresh b3 (Nat.le_of_eq HS.out)).fresh b4 (Nat.le_of_eq HS.out)
    clear V1 p1 B1 b2 p2 r2 B2 V2 V3 b3 b4
    have TK := HT.out L2 w4 p4
    by_cases hc : Ps.isT 1 [97, 116] (Ps.hd L2) = true
    · rw [took_eq_yes hc] at TK
      have HC := hideP hc; clear hc
      refine TK.mono ?_
      rintro e w5 ⟨rfl, p5, b5⟩
      have V5 := b5.heap (show S ≠ p by omega) V4
      have r5 := r4.safe (p4.safe b5 (by decide))
      have B5 := B4.trans b5
      clear TK V4 p4 r4 B4 b5
      go_wp2_with fail
      refine (HM.out L2.tail w5 p5).mono ?_
      generalize hx : Ps.term E L2.tail = r6
      rintro e w6 ⟨b6, hd⟩
      have B6 := B5.trans b6
      rcases r6 with x | ⟨a, L3⟩
      · obtain rfl := hd
        have HX := hideP hx; clear hx
        simp only [Pan]
        go_wp2_with fail
        exact ⟨rfl, by unfold Ps.lit; rw [HB.out, Ps.bnd_ok, H2.out, Ps.bnd_ok]; unfold Ps.opt Ps.at_; rw [if_pos HC.out, HX.out]; exact does_no B6⟩
      have H6 := hideP hx; clear hx
      obtain ⟨⟨_, rfl, rfl⟩, p6⟩ := hd
      have V6 := b6.heap (show S ≠ p by omega) V5
      have r6 := r5.safe (p5.safe b6 (by decide))
      go_wp2_with (first
        | (refine wpList_store_rec rfl 44 _ _ rfl S 6 10 4 52 (tv a) (lcs b pr (.slice a2 ts.length c2) a).toArray rfl rfl V6 rfl rfl (by decide) (by kernel_rfl) rfl rfl ?_; intro w7 V7 b7)
        | (refine wpList_load_all rfl 52 _ rfl S 10 52 (lcs b pr (.slice a2 ts.length c2) a) _ rfl V7 rfl Tryz.underlying52 rfl iN ?_)
        | (refine wpList_store_all rfl 52 _ _ rfl S 10 _ 52 (lcs b pr (.slice a2 ts.length c2) a) rfl rfl V7 rfl rfl iN rfl ?_; intro w8 V8 b8))
      have p8 := (p6.but b7 V6 (by decide) (by decide)).but b8 V7 (by decide) (by decide)
      have r8 := (r6.safe (Safe.but b7 V6 (by decide))).safe (Safe.but b8 V7 (by decide))
      have B8 := (B6.fresh b7 (Nat.le_of_eq HS.out)).fresh b8 (Nat.le_of_eq HS.out)
      refine bodyPost_ret (results_cell (b := S) rfl rfl V8 Tryz.underlying52 rfl (by kernel_rfl)) rfl ?_
      have e : Ps.lit E L = .ok (⟨b, pr, ts, a⟩, L3) := by unfold Ps.lit; rw [HB.out, Ps.bnd_ok, H2.out, Ps.bnd_ok]; unfold Ps.opt Ps.at_; rw [if_pos HC.out, H6.out]; rfl
      rw [e]
      exact does_ok B8 ⟨⟨b, pr, a2, c2, ts, a⟩, rfl, rfl, r8⟩ p8
    · rw [took_eq_no hc] at TK
      have HC := hideP hc; clear hc
      refine TK.mono ?_
      rintro e w5 ⟨rfl, p5, b5⟩
      have V5 := b5.heap (show S ≠ p by omega) V4
      have r5 := r4.safe (p4.safe b5 (by decide))
      have B5 := B4.trans b5
      clear TK V4 p4 r4 B4 b5
      go_wp2_with (first
        | (refine wpList_load_all rfl 52 _ rfl S 10 52 (lcs b pr (.slice a2 ts.length c2) t0) _ rfl V5 rfl Tryz.underlying52 rfl iN ?_)
        | (refine wpList_store_all rfl 52 _ _ rfl S 10 _ 52 (lcs b pr (.slice a2 ts.length c2) t0) rfl rfl V5 rfl rfl iN rfl ?_; intro w8 V8 b8))
      have p8 := p5.but b8 V5 (by decide) (by decide)
      have r8 := r5.safe (Safe.but b8 V5 (by decide))
      have B8 := B5.fresh b8 (Nat.le_of_eq HS.out)
      refine bodyPost_ret (results_cell (b := S) rfl rfl V8 Tryz.underlying52 rfl (by kernel_rfl)) rfl ?_
      have e : Ps.lit E L = .ok (⟨b, pr, ts, t0⟩, L2) := by unfold Ps.lit; rw [HB.out, Ps.bnd_ok, H2.out, Ps.bnd_ok]; unfold Ps.opt Ps.at_; rw [if_neg HC.out]; rfl
      rw [e]
      exact does_ok B8 ⟨⟨b, pr, a2, c2, ts, t0⟩, rfl, rfl, r8⟩ p8
  · go_wp2_with fail
    refine (HA1.out _ P2).mono ?_
    rintro e z3 ⟨rfl, c3⟩
    have V3 := below_heap c3 V2
    have P3 := P2.below c3
    have D3 := D2.below c3
    clear V2 P2 D2 c3
    generalize Ps.hd L.tail = t' at *
    generalize Ps.isT 1 [115, 97, 121, 115] t' = q at *
    go_wp2_with fail
    refine (HI.out _).mono ?_
    rintro e w1 ⟨rfl, c4⟩
    have V9 := below_heap c4 V3
    have P9 := P3.below c4
    have D9 := D3.below c4
    clear V3 P3 D3 c4
    cases q
    · obtain ⟨b, hb0⟩ : ∃ b, b = t0 := ⟨t0, rfl⟩
      obtain ⟨L1, hL1⟩ : ∃ L1, L1 = L := ⟨L, rfl⟩
      have HB : Hid (Ps.by_ E L = .ok (b, L1)) := by show _ = _; rw [hb0, hL1]; unfold Ps.by_; rw [if_neg (by rw [hsaid.out]; decide)]
      have p1 : PAt w1 p E L1 := by rw [hL1]; exact P9
      have V1 : w1.heap[S]? = some (.cells (lcs b [] (.slice none 0 0) t0).toArray 52) := by rw [hb0]; exact V9
      have B1 := D9
      clear hsaid V9 P9 D9 hb0 hL1
      go_wp2_with fail
      refine (HAt.out L1 w1 p1).mono ?_
      generalize hx : Ps.atom E L1 = r2
      rintro e w2 ⟨b2, hd⟩
      have B2 := B1.trans b2
      rcases r2 with x | ⟨⟨pr, ts⟩, L2⟩
      · obtain rfl := hd
        have HX := hideP hx; clear hx
        simp only [Pan]
        go_wp2_with fail
        exact ⟨rfl, by unfold Ps.lit; rw [HB.out, Ps.bnd_ok, HX.out]; exact does_no B2⟩
      have H2 := hideP hx; clear hx
      obtain ⟨⟨_, rfl, ⟨a2, c2, rfl, r2⟩⟩, p2⟩ := hd
      have V2 := b2.heap (show S ≠ p by omega) V1
      go_wp2_with (first
        | (refine wpList_store_cel rfl 9 _ _ rfl S 4 10 52 (str pr) (lcs b pr (.slice none 0 0) t0).toArray rfl rfl V2 rfl (by decide) (by kernel_rfl) rfl rfl ?_; intro w3 V3 b3)
        | (refine wpList_store_cel rfl 45 _ _ rfl S 5 10 52 (.slice a2 ts.length c2) (lcs b pr (.slice a2 ts.length c2) t0).toArray rfl rfl V3 rfl (by decide) (by kernel_rfl) rfl rfl ?_; intro w4 V4 b4))
      have p4 := (p2.but b3 V2 (by decide) (by decide)).but b4 V3 (by decide) (by decide)
      have r4 := (r2.safe (Safe.but b3 V2 (by decide))).safe (Safe.but b4 V3 (by decide))
      have B4 := (B2.fresh b3 (Nat.le_of_eq HS.out)).fresh b4 (Nat.le_of_eq HS.out)
      clear V1 p1 B1 b2 p2 r2 B2 V2 V3 b3 b4
      have TK := HT.out L2 w4 p4
      by_cases hc : Ps.isT 1 [97, 116] (Ps.hd L2) = true
      · rw [took_eq_yes hc] at TK
        have HC := hideP hc; clear hc
        refine TK.mono ?_
        rintro e w5 ⟨rfl, p5, b5⟩
        have V5 := b5.heap (show S ≠ p by omega) V4
        have r5 := r4.safe (p4.safe b5 (by decide))
        have B5 := B4.trans b5
        clear TK V4 p4 r4 B4 b5
        go_wp2_with fail
        refine (HM.out L2.tail w5 p5).mono ?_
        generalize hx : Ps.term E L2.tail = r6
        rintro e w6 ⟨b6, hd⟩
        have B6 := B5.trans b6
        rcases r6 with x | ⟨a, L3⟩
        · obtain rfl := hd
          have HX := hideP hx; clear hx
          simp only [Pan]
          go_wp2_with fail
          exact ⟨rfl, by unfold Ps.lit; rw [HB.out, Ps.bnd_ok, H2.out, Ps.bnd_ok]; unfold Ps.opt Ps.at_; rw [if_pos HC.out, HX.out]; exact does_no B6⟩
        have H6 := hideP hx; clear hx
        obtain ⟨⟨_, rfl, rfl⟩, p6⟩ := hd
        have V6 := b6.heap (show S ≠ p by omega) V5
        have r6 := r5.safe (p5.safe b6 (by decide))
        go_wp2_with (first
          | (refine wpList_store_rec rfl 44 _ _ rfl S 6 10 4 52 (tv a) (lcs b pr (.slice a2 ts.length c2) a).toArray rfl rfl V6 rfl rfl (by decide) (by kernel_rfl) rfl rfl ?_; intro w7 V7 b7)
          | (refine wpList_load_all rfl 52 _ rfl S 10 52 (lcs b pr (.slice a2 ts.length c2) a) _ rfl V7 rfl Tryz.underlying52 rfl iN ?_)
          | (refine wpList_store_all rfl 52 _ _ rfl S 10 _ 52 (lcs b pr (.slice a2 ts.length c2) a) rfl rfl V7 rfl rfl iN rfl ?_; intro w8 V8 b8))
        have p8 := (p6.but b7 V6 (by decide) (by decide)).but b8 V7 (by decide) (by decide)
        have r8 := (r6.safe (Safe.but b7 V6 (by decide))).safe (Safe.but b8 V7 (by decide))
        have B8 := (B6.fresh b7 (Nat.le_of_eq HS.out)).fresh b8 (Nat.le_of_eq HS.out)
        refine bodyPost_ret (results_cell (b := S) rfl rfl V8 Tryz.underlying52 rfl (by kernel_rfl)) rfl ?_
        have e : Ps.lit E L = .ok (⟨b, pr, ts, a⟩, L3) := by unfold Ps.lit; rw [HB.out, Ps.bnd_ok, H2.out, Ps.bnd_ok]; unfold Ps.opt Ps.at_; rw [if_pos HC.out, H6.out]; rfl
        rw [e]
        exact does_ok B8 ⟨⟨b, pr, a2, c2, ts, a⟩, rfl, rfl, r8⟩ p8
      · rw [took_eq_no hc] at TK
        have HC := hideP hc; clear hc
        refine TK.mono ?_
        rintro e w5 ⟨rfl, p5, b5⟩
        have V5 := b5.heap (show S ≠ p by omega) V4
        have r5 := r4.safe (p4.safe b5 (by decide))
        have B5 := B4.trans b5
        clear TK V4 p4 r4 B4 b5
        go_wp2_with (first
          | (refine wpList_load_all rfl 52 _ rfl S 10 52 (lcs b pr (.slice a2 ts.length c2) t0) _ rfl V5 rfl Tryz.underlying52 rfl iN ?_)
          | (refine wpList_store_all rfl 52 _ _ rfl S 10 _ 52 (lcs b pr (.slice a2 ts.length c2) t0) rfl rfl V5 rfl rfl iN rfl ?_; intro w8 V8 b8))
        have p8 := p5.but b8 V5 (by decide) (by decide)
        have r8 := r5.safe (Safe.but b8 V5 (by decide))
        have B8 := B5.fresh b8 (Nat.le_of_eq HS.out)
        refine bodyPost_ret (results_cell (b := S) rfl rfl V8 Tryz.underlying52 rfl (by kernel_rfl)) rfl ?_
        have e : Ps.lit E L = .ok (⟨b, pr, ts, t0⟩, L2) := by unfold Ps.lit; rw [HB.out, Ps.bnd_ok, H2.out, Ps.bnd_ok]; unfold Ps.opt Ps.at_; rw [if_neg HC.out]; rfl
        rw [e]
        exact does_ok B8 ⟨⟨b, pr, a2, c2, ts, t0⟩, rfl, rfl, r8⟩ p8
    · have HSD := hideP (hsaid.out.trans (show (!true || true) = true from rfl))
      clear hsaid
      go_wp2_with fail
      refine (HM.out L w1 P9).mono ?_
      generalize hx : Ps.term E L = r3
      rintro e y3 ⟨c3, hd⟩
      have D3 := D9.trans c3
      rcases r3 with x | ⟨b, L0⟩
      · obtain rfl := hd
        have HX := hideP hx; clear hx
        simp only [Pan]
        go_wp2_with fail
        exact ⟨rfl, by unfold Ps.lit Ps.by_; rw [if_pos HSD.out, HX.out]; exact does_no D3⟩
      have H3 := hideP hx; clear hx
      obtain ⟨⟨_, rfl, rfl⟩, P3⟩ := hd
      have V3 := c3.heap (show S ≠ p by omega) V9
      go_wp2_with (first
        | (refine wpList_store_rec rfl 44 _ _ rfl S 0 10 4 52 (tv b) (lcs b [] (.slice none 0 0) t0).toArray rfl rfl V3 rfl rfl (by decide) (by kernel_rfl) rfl rfl ?_; intro y4 V4 c4))
      have P4 := P3.but c4 V3 (by decide) (by decide)
      have D4 := D3.fresh c4 (Nat.le_of_eq HS.out)
      refine (HN.out L0 y4 P4).mono ?_
      generalize hx : Ps.need E 1 [115, 97, 121, 115] L0 = r5
      rintro e w1 ⟨c5, hd⟩
      have B1 := D4.trans c5
      rcases r5 with x | ⟨_, L1⟩
      · obtain rfl := hd
        have HX := hideP hx; clear hx
        simp only [Pan]
        go_wp2_with fail
        exact ⟨rfl, by unfold Ps.lit Ps.by_ Ps.says; rw [if_pos HSD.out, H3.out, Ps.bnd_ok, HX.out]; exact does_no B1⟩
      have H5 := hideP hx; clear hx
      obtain ⟨⟨_, rfl, rfl⟩, p1⟩ := hd
      have V1 := c5.heap (show S ≠ p by omega) V4
      have HB : Hid (Ps.by_ E L = .ok (b, L1)) := by show _ = _; unfold Ps.by_ Ps.says; rw [if_pos HSD.out, H3.out, Ps.bnd_ok, H5.out]; rfl
      clear V9 P9 D9 c3 P3 V3 V4 c4 P4 D4 c5 D3 H3 H5 HSD
      go_wp2_with fail
      refine (HAt.out L1 w1 p1).mono ?_
      generalize hx : Ps.atom E L1 = r2
      rintro e w2 ⟨b2, hd⟩
      have B2 := B1.trans b2
      rcases r2 with x | ⟨⟨pr, ts⟩, L2⟩
      · obtain rfl := hd
        have HX := hideP hx; clear hx
        simp only [Pan]
        go_wp2_with fail
        exact ⟨rfl, by unfold Ps.lit; rw [HB.out, Ps.bnd_ok, HX.out]; exact does_no B2⟩
      have H2 := hideP hx; clear hx
      obtain ⟨⟨_, rfl, ⟨a2, c2, rfl, r2⟩⟩, p2⟩ := hd
      have V2 := b2.heap (show S ≠ p by omega) V1
      go_wp2_with (first
        | (refine wpList_store_cel rfl 9 _ _ rfl S 4 10 52 (str pr) (lcs b pr (.slice none 0 0) t0).toArray rfl rfl V2 rfl (by decide) (by kernel_rfl) rfl rfl ?_; intro w3 V3 b3)
        | (refine wpList_store_cel rfl 45 _ _ rfl S 5 10 52 (.slice a2 ts.length c2) (lcs b pr (.slice a2 ts.length c2) t0).toArray rfl rfl V3 rfl (by decide) (by kernel_rfl) rfl rfl ?_; intro w4 V4 b4))
      have p4 := (p2.but b3 V2 (by decide) (by decide)).but b4 V3 (by decide) (by decide)
      have r4 := (r2.safe (Safe.but b3 V2 (by decide))).safe (Safe.but b4 V3 (by decide))
      have B4 := (B2.fresh b3 (Nat.le_of_eq HS.out)).fresh b4 (Nat.le_of_eq HS.out)
      clear V1 p1 B1 b2 p2 r2 B2 V2 V3 b3 b4
      have TK := HT.out L2 w4 p4
      by_cases hc : Ps.isT 1 [97, 116] (Ps.hd L2) = true
      · rw [took_eq_yes hc] at TK
        have HC := hideP hc; clear hc
        refine TK.mono ?_
        rintro e w5 ⟨rfl, p5, b5⟩
        have V5 := b5.heap (show S ≠ p by omega) V4
        have r5 := r4.safe (p4.safe b5 (by decide))
        have B5 := B4.trans b5
        clear TK V4 p4 r4 B4 b5
        go_wp2_with fail
        refine (HM.out L2.tail w5 p5).mono ?_
        generalize hx : Ps.term E L2.tail = r6
        rintro e w6 ⟨b6, hd⟩
        have B6 := B5.trans b6
        rcases r6 with x | ⟨a, L3⟩
        · obtain rfl := hd
          have HX := hideP hx; clear hx
          simp only [Pan]
          go_wp2_with fail
          exact ⟨rfl, by unfold Ps.lit; rw [HB.out, Ps.bnd_ok, H2.out, Ps.bnd_ok]; unfold Ps.opt Ps.at_; rw [if_pos HC.out, HX.out]; exact does_no B6⟩
        have H6 := hideP hx; clear hx
        obtain ⟨⟨_, rfl, rfl⟩, p6⟩ := hd
        have V6 := b6.heap (show S ≠ p by omega) V5
        have r6 := r5.safe (p5.safe b6 (by decide))
        go_wp2_with (first
          | (refine wpList_store_rec rfl 44 _ _ rfl S 6 10 4 52 (tv a) (lcs b pr (.slice a2 ts.length c2) a).toArray rfl rfl V6 rfl rfl (by decide) (by kernel_rfl) rfl rfl ?_; intro w7 V7 b7)
          | (refine wpList_load_all rfl 52 _ rfl S 10 52 (lcs b pr (.slice a2 ts.length c2) a) _ rfl V7 rfl Tryz.underlying52 rfl iN ?_)
          | (refine wpList_store_all rfl 52 _ _ rfl S 10 _ 52 (lcs b pr (.slice a2 ts.length c2) a) rfl rfl V7 rfl rfl iN rfl ?_; intro w8 V8 b8))
        have p8 := (p6.but b7 V6 (by decide) (by decide)).but b8 V7 (by decide) (by decide)
        have r8 := (r6.safe (Safe.but b7 V6 (by decide))).safe (Safe.but b8 V7 (by decide))
        have B8 := (B6.fresh b7 (Nat.le_of_eq HS.out)).fresh b8 (Nat.le_of_eq HS.out)
        refine bodyPost_ret (results_cell (b := S) rfl rfl V8 Tryz.underlying52 rfl (by kernel_rfl)) rfl ?_
        have e : Ps.lit E L = .ok (⟨b, pr, ts, a⟩, L3) := by unfold Ps.lit; rw [HB.out, Ps.bnd_ok, H2.out, Ps.bnd_ok]; unfold Ps.opt Ps.at_; rw [if_pos HC.out, H6.out]; rfl
        rw [e]
        exact does_ok B8 ⟨⟨b, pr, a2, c2, ts, a⟩, rfl, rfl, r8⟩ p8
      · rw [took_eq_no hc] at TK
        have HC := hideP hc; clear hc
        refine TK.mono ?_
        rintro e w5 ⟨rfl, p5, b5⟩
        have V5 := b5.heap (show S ≠ p by omega) V4
        have r5 := r4.safe (p4.safe b5 (by decide))
        have B5 := B4.trans b5
        clear TK V4 p4 r4 B4 b5
        go_wp2_with (first
          | (refine wpList_load_all rfl 52 _ rfl S 10 52 (lcs b pr (.slice a2 ts.length c2) t0) _ rfl V5 rfl Tryz.underlying52 rfl iN ?_)
          | (refine wpList_store_all rfl 52 _ _ rfl S 10 _ 52 (lcs b pr (.slice a2 ts.length c2) t0) rfl rfl V5 rfl rfl iN rfl ?_; intro w8 V8 b8))
        have p8 := p5.but b8 V5 (by decide) (by decide)
        have r8 := r5.safe (Safe.but b8 V5 (by decide))
        have B8 := B5.fresh b8 (Nat.le_of_eq HS.out)
        refine bodyPost_ret (results_cell (b := S) rfl rfl V8 Tryz.underlying52 rfl (by kernel_rfl)) rfl ?_
        have e : Ps.lit E L = .ok (⟨b, pr, ts, t0⟩, L2) := by unfold Ps.lit; rw [HB.out, Ps.bnd_ok, H2.out, Ps.bnd_ok]; unfold Ps.opt Ps.at_; rw [if_neg HC.out]; rfl
        rw [e]
        exact does_ok B8 ⟨⟨b, pr, a2, c2, ts, t0⟩, rfl, rfl, r8⟩ p8
end Go.Proofs.YtpdmmmdkpipmkaaGreatDoor

/-
  The program's parser: bodies, rules, programs.
-/
namespace Go.Proofs.YtpdmmmdkpipmkaaGreatDoor
open Go.RowKit Go.Lib Go.Shelf

theorem Tryz.iLit : (Tryz.prog.info? 52).map (fun i => (i.zero, i.size, i.bytes)) = some (some (.agg #[.string .empty, .bool false, .int .i64 0, .string .empty, .string .empty, .slice none 0 0, .string .empty, .bool false, .int .i64 0, .string .empty]), 10, 136) := by kernel_rfl
theorem Tryz.iRule : (Tryz.prog.info? 48).map (fun i => (i.zero, i.size, i.bytes)) = some (some (.agg #[.string .empty, .bool false, .int .i64 0, .string .empty, .string .empty, .slice none 0 0, .string .empty, .bool false, .int .i64 0, .string .empty, .slice none 0 0]), 11, 160) := by kernel_rfl
theorem body_zero {E : Nat} {L : List Lx.Tok} (ys : List Lt) : aprep ys (Ps.body E 0 L) = .error (Ps.many E L) := rfl
theorem body_err {E n : Nat} {L : List Lx.Tok} (ys : List Lt) {x : Nat × Int} (h : Ps.lit E L = .error x) : aprep ys (Ps.body E (n + 1) L) = .error x := by
  rw [Ps.body, h]; rfl
theorem body_more {E n : Nat} {L L1 : List Lx.Tok} (ys : List Lt) {t : Lt} (h : Ps.lit E L = .ok (t, L1)) (hc : Ps.isT 5 [44] (Ps.hd L1) = true) : aprep ys (Ps.body E (n + 1) L) = aprep (ys ++ [t]) (Ps.body E n L1.tail) := by
  rw [Ps.body, h, Ps.bnd_ok, if_pos hc]
  rcases Ps.body E n L1.tail with x | ⟨ts, L2⟩
  · rfl
  · simp [Ps.bnd, aprep]
theorem body_end {E n : Nat} {L L1 : List Lx.Tok} (ys : List Lt) {t : Lt} (h : Ps.lit E L = .ok (t, L1)) (hc : ¬ Ps.isT 5 [44] (Ps.hd L1) = true) : aprep ys (Ps.body E (n + 1) L) = .ok (ys ++ [t], L1) := by
  rw [Ps.body, h, Ps.bnd_ok, if_neg hc]; rfl
theorem lit_bad {E : Nat} {L : List Lx.Tok} (h : ¬ Ps.mayT (Ps.hd L) = true) : Ps.lit E L = .error (Ps.many E L) := by
  have hw : Ps.mayW (Ps.hd L) = false := by
    cases hm : Ps.mayW (Ps.hd L) with
    | true => exact absurd (Ps.mayW_T hm) h
    | false => rfl
  unfold Ps.lit Ps.by_ Ps.said
  rw [hw, if_pos (by rfl), term_bad h]; rfl
theorem rule_bad {E : Nat} {L : List Lx.Tok} (h : ¬ Ps.mayT (Ps.hd L) = true) : Ps.rule E L = .error (Ps.many E L) := by
  unfold Ps.rule; rw [term_bad h]; rfl

set_option maxRecDepth 100000 in
set_option maxHeartbeats 4000000 in
theorem body_at (p E : Nat) (L : List Lx.Tok) (w : World) (h : PAt w p E L) :
    Calls Tryz.prog 120 #[ptr p] w (Does p E w (Ps.body E 4 L) vLits) := by
  go_enter Tryz.func120, Tryz.ntmps120
  go_wp2_with fail
  go_loopw [2] (fun v wr => ∃ (ys : List Lv) (L' : List Lx.Tok) (n : Nat), ys.length + n = 4 ∧ wr.ownsRow w.heap.size 52 10 v ys.length (ys.flatMap lv) ∧ (∀ y ∈ ys, Lv.At wr y) ∧ PAt wr p E L' ∧ But p w wr ∧ Ps.body E 4 L = aprep (ys.map Lv.l) (Ps.body E n L')) (fun v _ => 4 - lenOf v)
  case atStart => exact ⟨[], L, 4, rfl, ⟨rfl, .inl ⟨rfl, rfl⟩⟩, (fun y hy => by simp at hy), h, But.refl _ _, (aprep_nil _).symm⟩
  case round =>
    obtain ⟨ys, L', n, hn, hown, each, hp, hb, hans⟩ := hrel
    have HAN := hideP hans
    clear hans
    obtain ⟨a0, c0, rfl, hrow, _⟩ := own_row (D := lK) hown (by omega)
    cases n with
    | zero =>
      have hy : ys.length = 4 := by omega
      have AL := hideP (allow_full p E 4 L' wr hp)
      have HE := hideP (HAN.out.trans (body_zero (ys.map Lv.l)))
      rw [HE.out]
      clear HAN
      rw [hy] at hown ⊢
      by_cases hm : Ps.mayT (Ps.hd L') = true
      · simp only [if_pos hm] at AL
        clear hm
        go_wp2_with (first
          | (go_at_call 70; refine AL.out.mono ?_; rintro e w1 ⟨b1, rfl⟩; simp only [Pan]))
        exact ⟨rfl, does_no (hb.below b1)⟩
      · simp only [if_neg hm] at AL
        have T := hideP (fun w hp => literal_at p E L' w hp)
        rw [lit_bad hm] at T
        clear hm
        go_wp2_with (first
          | (go_at_call 70; refine AL.out.mono ?_; rintro e w1 ⟨b1, rfl⟩; have p1 := hp.below b1)
          | (go_at_call 161; refine (T.out _ p1).mono ?_; rintro e w2 ⟨b2, rfl⟩; simp only [Pan]))
        exact ⟨rfl, does_no ((hb.below b1).trans b2)⟩
    | succ n =>
      have hy : ¬ (ys.length : Int) = 4 := by omega
      have AL := hideP (fun w => allow_few p (ys.length : Int) 4 w hy)
      have T := hideP (literal_at p E L' wr hp)
      rcases hq : Ps.lit E L' with z | ⟨t, R⟩
      · rw [hq] at T
        have HE := hideP (HAN.out.trans (body_err (ys.map Lv.l) hq))
        rw [HE.out]
        clear HAN hq
        go_wp2_with (first
          | (go_at_call 70; refine (AL.out _).mono ?_; rintro e w1 ⟨rfl, rfl⟩)
          | (go_at_call 161; refine T.out.mono ?_; rintro e w2 ⟨b2, rfl⟩; simp only [Pan]))
        exact ⟨rfl, does_no (hb.trans b2)⟩
      · rw [hq] at T
        have TK := hideP (fun w hp => took_at p E 5 [44] R w hp (by decide))
        by_cases hc : Ps.isT 5 [44] (Ps.hd R) = true
        · have HE := hideP (HAN.out.trans (body_more (n := n) (ys.map Lv.l) hq hc))
          rw [took_eq_yes hc] at TK
          clear HAN hq hc
          go_wp2_with (first
            | (go_at_call 70; refine (AL.out _).mono ?_; rintro e w1 ⟨rfl, rfl⟩)
            | (go_at_call 161; refine T.out.mono ?_; rintro e w2 ⟨b2, ⟨u, rfl, ⟨x, rfl, rfl, hx⟩⟩, p2⟩; have O2 := ownsRow_keep hown ((hp.safe (ty := 52) b2 (by decide)).trans (Safe.below (below_alloc w2 (.cells (lv x).toArray 52)))); have R2 := row_new lK w2 (lv x).toArray 52 x rfl; have P3 := p2.below (below_alloc w2 (.cells (lv x).toArray 52)); have b3 := (hb.trans b2).below (below_alloc w2 (.cells (lv x).toArray 52)); have hfew : ys.length + [x].length ≤ 879609302220 := (by simp only [List.length_cons, List.length_nil]; omega))
            | (refine wpList_build_one rfl 46 52 _ rfl (lv x) _ 10 136 rfl rfl (by decide) (by decide) Tryz.underlying46 Tryz.iLit ?_)
            | (at_builtin; refine wpList_append_rec lK _ rfl _ _ 46 52 rfl _ 136 Tryz.underlying46 Tryz.iLit rfl (by decide) w.heap.size (.slice a0 ys.length c0) ys [x] (some ⟨w2.heap.size, 0, none⟩) 1 1 rfl O2 rfl rfl R2 b3.size hfew ?_; intro v4 w4 o4 g4; have p4 := P3.grown O2 g4 (by decide) (by decide); have b4 := b3.low (grown_low O2 g4 b3.size); have S4 := (Safe.below (ty := 44) (below_alloc w2 (.cells (lv x).toArray 52))).trans (Safe.grown O2 g4 (by decide)))
            | (go_at_call 119; refine (TK.out _ p4).mono ?_; rintro e w5 ⟨rfl, p5, b5⟩))
          have O5 := ownsRow_keep o4 (p4.safe (ty := 52) b5 (by decide))
          have S5 := S4.trans (p4.safe (ty := 44) b5 (by decide))
          have each5 : ∀ y ∈ ys ++ [x], Lv.At w5 y := fun y hy => by
            rcases List.mem_append.1 hy with h1 | h1
            · exact (each y h1).safe ((hp.safe b2 (by decide)).trans S5)
            · obtain rfl := List.mem_singleton.1 h1
              exact hx.safe S5
          have hmap : (ys ++ [x]).map Lv.l = ys.map Lv.l ++ [x.l] := by simp
          refine ⟨⟨ys ++ [x], R.tail, n, by simp only [List.length_append, List.length_cons, List.length_nil]; omega, O5, each5, p5, b4.trans b5, by rw [hmap]; exact HE.out⟩, ?_⟩
          obtain ⟨a5, c5, hv5, _, _⟩ := own_row (D := lK) O5 (by simp only [List.length_append, List.length_cons, List.length_nil]; omega)
          subst hv5
          simp only [lenOf, List.length_append, List.length_cons, List.length_nil]
          show 4 - (ys.length + 1) < 4 - ys.length
          omega
        · have HE := hideP (HAN.out.trans (body_end (n := n) (ys.map Lv.l) hq hc))
          rw [took_eq_no hc] at TK
          clear HAN hq hc
          go_wp2_with (first
            | (go_at_call 70; refine (AL.out _).mono ?_; rintro e w1 ⟨rfl, rfl⟩)
            | (go_at_call 161; refine T.out.mono ?_; rintro e w2 ⟨b2, ⟨u, rfl, ⟨x, rfl, rfl, hx⟩⟩, p2⟩; have O2 := ownsRow_keep hown ((hp.safe (ty := 52) b2 (by decide)).trans (Safe.below (below_alloc w2 (.cells (lv x).toArray 52)))); have R2 := row_new lK w2 (lv x).toArray 52 x rfl; have P3 := p2.below (below_alloc w2 (.cells (lv x).toArray 52)); have b3 := (hb.trans b2).below (below_alloc w2 (.cells (lv x).toArray 52)); have hfew : ys.length + [x].length ≤ 879609302220 := (by simp only [List.length_cons, List.length_nil]; omega))
            | (refine wpList_build_one rfl 46 52 _ rfl (lv x) _ 10 136 rfl rfl (by decide) (by decide) Tryz.underlying46 Tryz.iLit ?_)
            | (at_builtin; refine wpList_append_rec lK _ rfl _ _ 46 52 rfl _ 136 Tryz.underlying46 Tryz.iLit rfl (by decide) w.heap.size (.slice a0 ys.length c0) ys [x] (some ⟨w2.heap.size, 0, none⟩) 1 1 rfl O2 rfl rfl R2 b3.size hfew ?_; intro v4 w4 o4 g4; have p4 := P3.grown O2 g4 (by decide) (by decide); have b4 := b3.low (grown_low O2 g4 b3.size); have S4 := (Safe.below (ty := 44) (below_alloc w2 (.cells (lv x).toArray 52))).trans (Safe.grown O2 g4 (by decide)))
            | (go_at_call 119; refine (TK.out _ p4).mono ?_; rintro e w5 ⟨rfl, p5, b5⟩))
          have O5 := ownsRow_keep o4 (p4.safe (ty := 52) b5 (by decide))
          have S5 := S4.trans (p4.safe (ty := 44) b5 (by decide))
          have each5 : ∀ y ∈ ys ++ [x], Lv.At w5 y := fun y hy => by
            rcases List.mem_append.1 hy with h1 | h1
            · exact (each y h1).safe ((hp.safe b2 (by decide)).trans S5)
            · obtain rfl := List.mem_singleton.1 h1
              exact hx.safe S5
          have hmap : (ys ++ [x]).map Lv.l = ys.map Lv.l ++ [x.l] := by simp
          obtain ⟨a5, c5, hv5, r5, _⟩ := own_row (D := lK) O5 (by simp only [List.length_append, List.length_cons, List.length_nil]; omega)
          go_ret
          rw [HE.out]
          exact does_ok (b4.trans b5) ⟨a5, c5, ys ++ [x], hv5, hmap, r5, each5⟩ p5

set_option maxRecDepth 100000 in
set_option maxHeartbeats 4000000 in
theorem rule_at (p E : Nat) (L : List Lx.Tok) (w : World) (h : PAt w p E L) :
    Calls Tryz.prog 71 #[ptr p] w (Does p E w (Ps.rule E L) vRule) := by
  have HM := hideP (fun L w hp => term_at p E L w hp)
  have HN := hideP (fun s L w hp => need_at p E 5 s L w hp (by decide))
  have HAt := hideP (fun L w hp => atom_at p E L w hp)
  have HBd := hideP (fun L w hp => body_at p E L w hp)
  have HT := hideP (fun L w hp => took_at p E 1 [116, 111] L w hp (by decide))
  have iN : (Tryz.prog.info? 48).map (·.size) = some 11 := by kernel_rfl
  have hp := h.lt
  have B0 := below_alloc w zR
  have V0 := new_rule w
  have P0 := h.below B0
  have b0 : But p w (w.alloc zR) := But.of_below B0
  go_enter Tryz.func71, Tryz.ntmps71
  go_wp2_with fail
  refine (HM.out _ _ P0).mono ?_
  generalize hx : Ps.term E L = r1
  rintro e w1 ⟨b1, hd⟩
  generalize hS : w.heap.size = S at *
  have HS := hideP hS; clear hS
  have B1 := b0.trans b1
  rcases r1 with x | ⟨h0, L1⟩
  · obtain rfl := hd
    have HX := hideP hx; clear hx
    simp only [Pan]
    go_wp2_with fail
    exact ⟨rfl, by unfold Ps.rule; rw [HX.out]; exact does_no B1⟩
  have H1 := hideP hx; clear hx
  obtain ⟨⟨_, rfl, rfl⟩, p1⟩ := hd
  have V1 := b1.heap (show S ≠ p by omega) V0
  clear V0 P0 b0 b1 B0
  go_wp2_with (first
    | (refine wpList_store_rec rfl 44 _ _ rfl S 0 11 4 48 (tv h0) (rcs h0 [] (.slice none 0 0) t0 (.slice none 0 0)).toArray rfl rfl V1 rfl rfl (by decide) (by kernel_rfl) rfl rfl ?_; intro w2 V2 b2))
  have p2 := p1.but b2 V1 (by decide) (by decide)
  have B2 := B1.fresh b2 (Nat.le_of_eq HS.out)
  clear V1 p1 B1 b2
  refine (HN.out [58] L1 w2 p2).mono ?_
  generalize hx : Ps.need E 5 [58] L1 = r3
  rintro e w3 ⟨b3, hd⟩
  have B3 := B2.trans b3
  rcases r3 with x | ⟨_, L2⟩
  · obtain rfl := hd
    have HX := hideP hx; clear hx
    simp only [Pan]
    go_wp2_with fail
    exact ⟨rfl, by unfold Ps.rule; rw [H1.out, Ps.bnd_ok, HX.out]; exact does_no B3⟩
  have H3 := hideP hx; clear hx
  obtain ⟨⟨_, rfl, rfl⟩, p3⟩ := hd
  have V3 := b3.heap (show S ≠ p by omega) V2
  clear V2 p2 B2 b3
  go_wp2_with fail
  refine (HAt.out L2 w3 p3).mono ?_
  generalize hx : Ps.atom E L2 = r4
  rintro e w4 ⟨b4, hd⟩
  have B4 := B3.trans b4
  rcases r4 with x | ⟨⟨pr, ts⟩, L3⟩
  · obtain rfl := hd
    have HX := hideP hx; clear hx
    simp only [Pan]
    go_wp2_with fail
    exact ⟨rfl, by unfold Ps.rule; rw [H1.out, Ps.bnd_ok, H3.out, Ps.bnd_ok, HX.out]; exact does_no B4⟩
  have H4 := hideP hx; clear hx
  obtain ⟨⟨_, rfl, ⟨a4, c4, rfl, r4⟩⟩, p4⟩ := hd
  have V4 := b4.heap (show S ≠ p by omega) V3
  go_wp2_with (first
    | (refine wpList_store_cel rfl 9 _ _ rfl S 4 11 48 (str pr) (rcs h0 pr (.slice none 0 0) t0 (.slice none 0 0)).toArray rfl rfl V4 rfl (by decide) (by kernel_rfl) rfl rfl ?_; intro z5 U5 d5)
    | (refine wpList_store_cel rfl 45 _ _ rfl S 5 11 48 (.slice a4 ts.length c4) (rcs h0 pr (.slice a4 ts.length c4) t0 (.slice none 0 0)).toArray rfl rfl U5 rfl (by decide) (by kernel_rfl) rfl rfl ?_; intro w5 V5 b5))
  have p5 := (p4.but d5 V4 (by decide) (by decide)).but b5 U5 (by decide) (by decide)
  have r5 := (r4.safe (Safe.but d5 V4 (by decide))).safe (Safe.but b5 U5 (by decide))
  have B5 := (B4.fresh d5 (Nat.le_of_eq HS.out)).fresh b5 (Nat.le_of_eq HS.out)
  clear V3 p3 B3 b4 p4 r4 B4 V4 U5 d5 b5
  have TK := HT.out L3 w5 p5
  by_cases hc : Ps.isT 1 [116, 111] (Ps.hd L3) = true
  · rw [took_eq_yes hc] at TK
    have HC := hideP hc; clear hc
    refine TK.mono ?_
    rintro e z6 ⟨rfl, q6, d6⟩
    have U6 := d6.heap (show S ≠ p by omega) V5
    have t6 := r5.safe (p5.safe d6 (by decide))
    have D6 := B5.trans d6
    clear TK V5 p5 r5 B5 d6
    go_wp2_with fail
    refine (HM.out L3.tail z6 q6).mono ?_
    generalize hx : Ps.term E L3.tail = r6
    rintro e z7 ⟨d7, hd⟩
    have D7 := D6.trans d7
    rcases r6 with x | ⟨to, L4⟩
    · obtain rfl := hd
      have HX := hideP hx; clear hx
      simp only [Pan]
      go_wp2_with fail
      exact ⟨rfl, by unfold Ps.rule; rw [H1.out, Ps.bnd_ok, H3.out, Ps.bnd_ok, H4.out, Ps.bnd_ok]; unfold Ps.opt Ps.to; rw [if_pos HC.out, HX.out]; exact does_no D7⟩
    have H6 := hideP hx; clear hx
    obtain ⟨⟨_, rfl, rfl⟩, q7⟩ := hd
    have U7 := d7.heap (show S ≠ p by omega) U6
    have t7 := t6.safe (q6.safe d7 (by decide))
    go_wp2_with (first
      | (refine wpList_store_rec rfl 44 _ _ rfl S 6 11 4 48 (tv to) (rcs h0 pr (.slice a4 ts.length c4) to (.slice none 0 0)).toArray rfl rfl U7 rfl rfl (by decide) (by kernel_rfl) rfl rfl ?_; intro w6 V6 d8))
    have p6 := q7.but d8 U7 (by decide) (by decide)
    have r6 := t7.safe (Safe.but d8 U7 (by decide))
    have B6 := D7.fresh d8 (Nat.le_of_eq HS.out)
    have HEQ : Hid (Ps.rule E L = Ps.bnd (Ps.need E 5 [58, 45] L4) fun _ L5 => Ps.bnd (Ps.body E 4 L5) fun b L6 => Ps.bnd (Ps.need E 5 [46] L6) fun _ L7 => .ok (⟨h0, pr, ts, to, b⟩, L7)) := by
      show _ = _
      unfold Ps.rule; rw [H1.out, Ps.bnd_ok, H3.out, Ps.bnd_ok, H4.out, Ps.bnd_ok]; unfold Ps.opt Ps.to; rw [if_pos HC.out, H6.out]; rfl
    clear U6 t6 D6 q6 d7 D7 q7 U7 t7 d8 H1 H3 H4 H6 HC
    refine (HN.out [58, 45] L4 w6 p6).mono ?_
    generalize hx : Ps.need E 5 [58, 45] L4 = r7
    rintro e w7 ⟨b7, hd⟩
    have B7 := B6.trans b7
    rcases r7 with x | ⟨_, L5⟩
    · obtain rfl := hd
      have HX := hideP hx; clear hx
      simp only [Pan]
      go_wp2_with fail
      exact ⟨rfl, by rw [HEQ.out, HX.out]; exact does_no B7⟩
    have H7 := hideP hx; clear hx
    obtain ⟨⟨_, rfl, rfl⟩, p7⟩ := hd
    have V7 := b7.heap (show S ≠ p by omega) V6
    have r7 := r6.safe (p6.safe b7 (by decide))
    clear V6 p6 r6 B6 b7
    go_wp2_with fail
    refine (HBd.out L5 w7 p7).mono ?_
    generalize hx : Ps.body E 4 L5 = r8
    rintro e w8 ⟨b8, hd⟩
    have B8 := B7.trans b8
    rcases r8 with x | ⟨ls, L6⟩
    · obtain rfl := hd
      have HX := hideP hx; clear hx
      simp only [Pan]
      go_wp2_with fail
      exact ⟨rfl, by rw [HEQ.out, H7.out, Ps.bnd_ok, HX.out]; exact does_no B8⟩
    have H8 := hideP hx; clear hx
    obtain ⟨⟨_, rfl, ⟨a8, c8, xs, rfl, hls, s8, e8⟩⟩, p8⟩ := hd
    have V8 := b8.heap (show S ≠ p by omega) V7
    have r8 := r7.safe (p7.safe b8 (by decide))
    clear V7 p7 r7 B7 b8
    have HLS := hideP hls; clear hls
    go_wp2_with (first
      | (refine wpList_store_cel rfl 46 _ _ rfl S 10 11 48 (.slice a8 xs.length c8) (rcs h0 pr (.slice a4 ts.length c4) to (.slice a8 xs.length c8)).toArray rfl rfl V8 rfl (by decide) (by kernel_rfl) rfl rfl ?_; intro w9 V9 b9))
    have p9 := p8.but b9 V8 (by decide) (by decide)
    have r9 := r8.safe (Safe.but b9 V8 (by decide))
    have s9 := s8.safe (Safe.but b9 V8 (by decide))
    have e9 : ∀ y ∈ xs, Lv.At w9 y := fun y hy => (e8 y hy).safe (Safe.but b9 V8 (by decide))
    have B9 := B8.fresh b9 (Nat.le_of_eq HS.out)
    clear V8 p8 r8 s8 e8 B8 b9
    refine (HN.out [46] L6 w9 p9).mono ?_
    generalize hx : Ps.need E 5 [46] L6 = r10
    rintro e w10 ⟨b10, hd⟩
    have B10 := B9.trans b10
    rcases r10 with x | ⟨_, L7⟩
    · obtain rfl := hd
      have HX := hideP hx; clear hx
      simp only [Pan]
      go_wp2_with fail
      exact ⟨rfl, by rw [HEQ.out, H7.out, Ps.bnd_ok, H8.out, Ps.bnd_ok, HX.out]; exact does_no B10⟩
    have H10 := hideP hx; clear hx
    obtain ⟨⟨_, rfl, rfl⟩, p10⟩ := hd
    have V10 := b10.heap (show S ≠ p by omega) V9
    have sT := p9.safe (ty := 44) b10 (by decide)
    have sL := p9.safe (ty := 52) b10 (by decide)
    go_wp2_with (first
      | (refine wpList_load_all rfl 48 _ rfl S 11 48 (rcs h0 pr (.slice a4 ts.length c4) to (.slice a8 xs.length c8)) _ rfl V10 rfl Tryz.underlying48 rfl iN ?_)
      | (refine wpList_store_all rfl 48 _ _ rfl S 11 _ 48 (rcs h0 pr (.slice a4 ts.length c4) to (.slice a8 xs.length c8)) rfl rfl V10 rfl rfl iN rfl ?_; intro w11 V11 b11))
    have p11 := p10.but b11 V10 (by decide) (by decide)
    have zT := sT.trans (Safe.but (ty := 44) b11 V10 (by decide))
    have zL := sL.trans (Safe.but (ty := 52) b11 V10 (by decide))
    have B11 := B10.fresh b11 (Nat.le_of_eq HS.out)
    refine bodyPost_ret (results_cell (b := S) rfl rfl V11 Tryz.underlying48 rfl (by kernel_rfl)) rfl ?_
    rw [HEQ.out, H7.out, Ps.bnd_ok, H8.out, Ps.bnd_ok, H10.out, Ps.bnd_ok]
    exact does_ok B11 ⟨⟨h0, pr, a4, c4, ts, to, a8, c8, xs⟩, rfl, by show Ru.mk _ _ _ _ _ = _; rw [HLS.out], ⟨r9.safe zT, s9.safe zL, fun y hy => (e9 y hy).safe zT⟩⟩ p11
  · rw [took_eq_no hc] at TK
    have HC := hideP hc; clear hc
    refine TK.mono ?_
    rintro e w6 ⟨rfl, p6', d6⟩
    obtain ⟨to, hto⟩ : ∃ to, to = t0 := ⟨t0, rfl⟩
    obtain ⟨L4, hL4⟩ : ∃ L4, L4 = L3 := ⟨L3, rfl⟩
    have p6 : PAt w6 p E L4 := by rw [hL4]; exact p6'
    have V6 : w6.heap[S]? = some (.cells (rcs h0 pr (.slice a4 ts.length c4) to (.slice none 0 0)).toArray 48) := by rw [hto]; exact d6.heap (show S ≠ p by omega) V5
    have r6 := r5.safe (p5.safe d6 (by decide))
    have B6 := B5.trans d6
    have HEQ : Hid (Ps.rule E L = Ps.bnd (Ps.need E 5 [58, 45] L4) fun _ L5 => Ps.bnd (Ps.body E 4 L5) fun b L6 => Ps.bnd (Ps.need E 5 [46] L6) fun _ L7 => .ok (⟨h0, pr, ts, to, b⟩, L7)) := by
      show _ = _
      rw [hto, hL4]
      unfold Ps.rule; rw [H1.out, Ps.bnd_ok, H3.out, Ps.bnd_ok, H4.out, Ps.bnd_ok]; unfold Ps.opt Ps.to; rw [if_neg HC.out]; rfl
    clear TK V5 p5 r5 B5 d6 p6' hto hL4 H1 H3 H4 HC
    go_wp2_with fail
    refine (HN.out [58, 45] L4 w6 p6).mono ?_
    generalize hx : Ps.need E 5 [58, 45] L4 = r7
    rintro e w7 ⟨b7, hd⟩
    have B7 := B6.trans b7
    rcases r7 with x | ⟨_, L5⟩
    · obtain rfl := hd
      have HX := hideP hx; clear hx
      simp only [Pan]
      go_wp2_with fail
      exact ⟨rfl, by rw [HEQ.out, HX.out]; exact does_no B7⟩
    have H7 := hideP hx; clear hx
    obtain ⟨⟨_, rfl, rfl⟩, p7⟩ := hd
    have V7 := b7.heap (show S ≠ p by omega) V6
    have r7 := r6.safe (p6.safe b7 (by decide))
    clear V6 p6 r6 B6 b7
    go_wp2_with fail
    refine (HBd.out L5 w7 p7).mono ?_
    generalize hx : Ps.body E 4 L5 = r8
    rintro e w8 ⟨b8, hd⟩
    have B8 := B7.trans b8
    rcases r8 with x | ⟨ls, L6⟩
    · obtain rfl := hd
      have HX := hideP hx; clear hx
      simp only [Pan]
      go_wp2_with fail
      exact ⟨rfl, by rw [HEQ.out, H7.out, Ps.bnd_ok, HX.out]; exact does_no B8⟩
    have H8 := hideP hx; clear hx
    obtain ⟨⟨_, rfl, ⟨a8, c8, xs, rfl, hls, s8, e8⟩⟩, p8⟩ := hd
    have V8 := b8.heap (show S ≠ p by omega) V7
    have r8 := r7.safe (p7.safe b8 (by decide))
    clear V7 p7 r7 B7 b8
    have HLS := hideP hls; clear hls
    go_wp2_with (first
      | (refine wpList_store_cel rfl 46 _ _ rfl S 10 11 48 (.slice a8 xs.length c8) (rcs h0 pr (.slice a4 ts.length c4) to (.slice a8 xs.length c8)).toArray rfl rfl V8 rfl (by decide) (by kernel_rfl) rfl rfl ?_; intro w9 V9 b9))
    have p9 := p8.but b9 V8 (by decide) (by decide)
    have r9 := r8.safe (Safe.but b9 V8 (by decide))
    have s9 := s8.safe (Safe.but b9 V8 (by decide))
    have e9 : ∀ y ∈ xs, Lv.At w9 y := fun y hy => (e8 y hy).safe (Safe.but b9 V8 (by decide))
    have B9 := B8.fresh b9 (Nat.le_of_eq HS.out)
    clear V8 p8 r8 s8 e8 B8 b9
    refine (HN.out [46] L6 w9 p9).mono ?_
    generalize hx : Ps.need E 5 [46] L6 = r10
    rintro e w10 ⟨b10, hd⟩
    have B10 := B9.trans b10
    rcases r10 with x | ⟨_, L7⟩
    · obtain rfl := hd
      have HX := hideP hx; clear hx
      simp only [Pan]
      go_wp2_with fail
      exact ⟨rfl, by rw [HEQ.out, H7.out, Ps.bnd_ok, H8.out, Ps.bnd_ok, HX.out]; exact does_no B10⟩
    have H10 := hideP hx; clear hx
    obtain ⟨⟨_, rfl, rfl⟩, p10⟩ := hd
    have V10 := b10.heap (show S ≠ p by omega) V9
    have sT := p9.safe (ty := 44) b10 (by decide)
    have sL := p9.safe (ty := 52) b10 (by decide)
    go_wp2_with (first
      | (refine wpList_load_all rfl 48 _ rfl S 11 48 (rcs h0 pr (.slice a4 ts.length c4) to (.slice a8 xs.length c8)) _ rfl V10 rfl Tryz.underlying48 rfl iN ?_)
      | (refine wpList_store_all rfl 48 _ _ rfl S 11 _ 48 (rcs h0 pr (.slice a4 ts.length c4) to (.slice a8 xs.length c8)) rfl rfl V10 rfl rfl iN rfl ?_; intro w11 V11 b11))
    have p11 := p10.but b11 V10 (by decide) (by decide)
    have zT := sT.trans (Safe.but (ty := 44) b11 V10 (by decide))
    have zL := sL.trans (Safe.but (ty := 52) b11 V10 (by decide))
    have B11 := B10.fresh b11 (Nat.le_of_eq HS.out)
    refine bodyPost_ret (results_cell (b := S) rfl rfl V11 Tryz.underlying48 rfl (by kernel_rfl)) rfl ?_
    rw [HEQ.out, H7.out, Ps.bnd_ok, H8.out, Ps.bnd_ok, H10.out, Ps.bnd_ok]
    exact does_ok B11 ⟨⟨h0, pr, a4, c4, ts, to, a8, c8, xs⟩, rfl, by show Ru.mk _ _ _ _ _ = _; rw [HLS.out], ⟨r9.safe zT, s9.safe zL, fun y hy => (e9 y hy).safe zT⟩⟩ p11
end Go.Proofs.YtpdmmmdkpipmkaaGreatDoor

/-
  The program's parser: all rules; the closure that catches.
-/
namespace Go.Proofs.YtpdmmmdkpipmkaaGreatDoor
open Go.RowKit Go.Lib Go.Shelf

def RowsAt (w : World) (l : List Ru) (u : Value) : Prop := ∃ a c xs, u = .slice a (List.length xs) c ∧ xs.map Rv.r = l ∧ RowT rK 48 w a c xs ∧ ∀ x ∈ xs, x.At w
theorem RowsAt.safe {w w' : World} {l : List Ru} {u : Value} (h : RowsAt w l u) (s1 : Safe 48 w w') (s2 : Safe 52 w w') (s3 : Safe 44 w w') : RowsAt w' l u := by
  obtain ⟨a, c, xs, h1, h2, h3, h4⟩ := h
  exact ⟨a, c, xs, h1, h2, h3.safe s1, fun x hx => (h4 x hx).safe s3 s2⟩
theorem RowsAt.below {w w' : World} {l : List Ru} {u : Value} (h : RowsAt w l u) (hb : Below w.heap.size w w') : RowsAt w' l u := h.safe (Safe.below hb) (Safe.below hb) (Safe.below hb)
theorem RowsAt.nil (w : World) : RowsAt w [] (.slice none 0 0) := ⟨none, 0, [], rfl, rfl, RowT.nil _ _ _, fun x hx => by simp at hx⟩
def DoesP (p : Nat) (w : World) (r : Ps.Rs) (e : Ending) (w' : World) : Prop :=
  But p w w' ∧ match r with
  | .ok l => ∃ u, e = .returned u ∧ RowsAt w' l u
  | .error x => e = Pan x
theorem rules_err {E n : Nat} {t : Lx.Tok} {L : List Lx.Tok} (ys : List Ru) {x : Nat × Int} (h : Ps.rule E (t :: L) = .error x) : Ps.rprep ys (Ps.rules E (n + 1) (t :: L)) = .error x := by
  rw [Ps.rules, h]; rfl
theorem rules_more {E n : Nat} {t : Lx.Tok} {L L1 : List Lx.Tok} (ys : List Ru) {r : Ru} (h : Ps.rule E (t :: L) = .ok (r, L1)) : Ps.rprep ys (Ps.rules E (n + 1) (t :: L)) = Ps.rprep (ys ++ [r]) (Ps.rules E n L1) := by
  rw [Ps.rules, h, Ps.rthen, Ps.rprep_snoc]

set_option maxRecDepth 100000 in
set_option maxHeartbeats 4000000 in
theorem program_at (p E : Nat) (L : List Lx.Tok) (w : World) (h : PAt w p E L) :
    Calls Tryz.prog 41 #[ptr p] w (DoesP p w (Ps.rules E 16 L)) := by
  go_enter Tryz.func41, Tryz.ntmps41
  go_wp2_with fail
  go_loopw [2] (fun v wr => ∃ (ys : List Rv) (L' : List Lx.Tok) (n : Nat), ys.length + n = 16 ∧ wr.ownsRow w.heap.size 48 11 v ys.length (ys.flatMap rv) ∧ (∀ y ∈ ys, Rv.At wr y) ∧ PAt wr p E L' ∧ But p w wr ∧ Ps.rules E 16 L = Ps.rprep (ys.map Rv.r) (Ps.rules E n L')) (fun v _ => 16 - lenOf v)
  case atStart => exact ⟨[], L, 16, rfl, ⟨rfl, .inl ⟨rfl, rfl⟩⟩, (fun y hy => by simp at hy), h, But.refl _ _, (Ps.rprep_nil _).symm⟩
  case round =>
    obtain ⟨ys, L', n, hn, hown, each, hp, hb, hans⟩ := hrel
    have HAN := hideP hans
    clear hans
    obtain ⟨a0, c0, rfl, hrow, _⟩ := own_row (D := rK) hown (by omega)
    obtain ⟨ta, tc, x0, x1, tr⟩ := hp.cells
    have few := tr.row.few
    cases L' with
    | nil =>
      simp only [List.length_nil] at x0
      go_wp2_with fail
      go_ret
      rw [HAN.out, Ps.rules_nil]
      exact ⟨hb, _, rfl, a0, c0, ys, rfl, by simp, hrow, each⟩
    | cons t R =>
      simp only [List.length_cons] at x0 few
      have q1 : ((R.length + 1 : Nat) : Int) > 0 := by omega
      cases n with
      | zero =>
        have hy : ys.length = 16 := by omega
        have AL := hideP (allow_full p E 16 (t :: R) wr hp)
        have HE := hideP (HAN.out.trans (show Ps.rprep (ys.map Rv.r) (Ps.rules E 0 (t :: R)) = .error (Ps.many E (t :: R)) from rfl))
        rw [HE.out]
        clear HAN
        rw [hy] at hown ⊢
        by_cases hm : Ps.mayT (Ps.hd (t :: R)) = true
        · simp only [if_pos hm] at AL
          clear hm
          go_wp2_with (first
            | (go_at_call 70; refine AL.out.mono ?_; rintro e w1 ⟨b1, rfl⟩; simp only [Pan]))
          exact ⟨rfl, hb.below b1, rfl⟩
        · simp only [if_neg hm] at AL
          have T := hideP (fun w hp => rule_at p E (t :: R) w hp)
          rw [rule_bad hm] at T
          clear hm
          go_wp2_with (first
            | (go_at_call 70; refine AL.out.mono ?_; rintro e w1 ⟨b1, rfl⟩; have p1 := hp.below b1)
            | (go_at_call 71; refine (T.out _ p1).mono ?_; rintro e w2 ⟨b2, rfl⟩; simp only [Pan]))
          exact ⟨rfl, (hb.below b1).trans b2, rfl⟩
      | succ n =>
        have hy : ¬ (ys.length : Int) = 16 := by omega
        have AL := hideP (fun w => allow_few p (ys.length : Int) 16 w hy)
        have T := hideP (rule_at p E (t :: R) wr hp)
        rcases hq : Ps.rule E (t :: R) with z | ⟨r, L1⟩
        · rw [hq] at T
          have HE := hideP (HAN.out.trans (rules_err (ys.map Rv.r) hq))
          rw [HE.out]
          clear HAN hq
          go_wp2_with (first
            | (go_at_call 70; refine (AL.out _).mono ?_; rintro e w1 ⟨rfl, rfl⟩)
            | (go_at_call 71; refine T.out.mono ?_; rintro e w2 ⟨b2, rfl⟩; simp only [Pan]))
          exact ⟨rfl, hb.trans b2, rfl⟩
        · rw [hq] at T
          have HE := hideP (HAN.out.trans (rules_more (n := n) (ys.map Rv.r) hq))
          clear HAN hq
          go_wp2_with (first
            | (go_at_call 70; refine (AL.out _).mono ?_; rintro e w1 ⟨rfl, rfl⟩)
            | (go_at_call 71; refine T.out.mono ?_; rintro e w2 ⟨b2, ⟨u, rfl, ⟨x, rfl, rfl, hx⟩⟩, p2⟩; have O2 := ownsRow_keep hown ((hp.safe (ty := 48) b2 (by decide)).trans (Safe.below (below_alloc w2 (.cells (rv x).toArray 48)))); have R2 := row_new rK w2 (rv x).toArray 48 x rfl; have P3 := p2.below (below_alloc w2 (.cells (rv x).toArray 48)); have b3 := (hb.trans b2).below (below_alloc w2 (.cells (rv x).toArray 48)); have hfew : ys.length + [x].length ≤ 879609302220 := (by simp only [List.length_cons, List.length_nil]; omega))
            | (refine wpList_build_one rfl 22 48 _ rfl (rv x) _ 11 160 rfl rfl (by decide) (by decide) Tryz.underlying22 Tryz.iRule ?_)
            | (at_builtin; refine wpList_append_rec rK _ rfl _ _ 22 48 rfl _ 160 Tryz.underlying22 Tryz.iRule rfl (by decide) w.heap.size (.slice a0 ys.length c0) ys [x] (some ⟨w2.heap.size, 0, none⟩) 1 1 rfl O2 rfl rfl R2 b3.size hfew ?_; intro v4 w4 o4 g4; have p4 := P3.grown O2 g4 (by decide) (by decide); have b4 := b3.low (grown_low O2 g4 b3.size); have S4 := (Safe.below (ty := 44) (below_alloc w2 (.cells (rv x).toArray 48))).trans (Safe.grown O2 g4 (by decide)); have S5 := (Safe.below (ty := 52) (below_alloc w2 (.cells (rv x).toArray 48))).trans (Safe.grown O2 g4 (by decide))))
          have each5 : ∀ y ∈ ys ++ [x], Rv.At w4 y := fun y hy => by
            rcases List.mem_append.1 hy with h1 | h1
            · exact (each y h1).safe ((hp.safe b2 (by decide)).trans S4) ((hp.safe b2 (by decide)).trans S5)
            · obtain rfl := List.mem_singleton.1 h1
              exact hx.safe S4 S5
          have hmap : (ys ++ [x]).map Rv.r = ys.map Rv.r ++ [x.r] := by simp
          refine ⟨⟨ys ++ [x], L1, n, by simp only [List.length_append, List.length_cons, List.length_nil]; omega, o4, each5, p4, b4, by rw [hmap]; exact HE.out⟩, ?_⟩
          obtain ⟨a5, c5, hv5, _, _⟩ := own_row (D := rK) o4 (by simp only [List.length_append, List.length_cons, List.length_nil]; omega)
          subst hv5
          simp only [lenOf, List.length_append, List.length_cons, List.length_nil]
          show 16 - (ys.length + 1) < 16 - ys.length
          omega

end Go.Proofs.YtpdmmmdkpipmkaaGreatDoor

/-
  Rules that were parsed, of which nothing but their cells is known.
-/
namespace Go.Proofs.YtpdmmmdkpipmkaaGreatDoor
open Go.RowKit Go.Lib Go.Shelf

theorem RowsAt.weak {w : World} {l : List Ru} {u : Value} (h : RowsAt w l u) : ∃ a c xs, u = .slice a (List.length xs) c ∧ xs.map Rv.r = l ∧ Rws w a c xs := by
  obtain ⟨a, c, xs, h1, h2, h3, h4⟩ := h
  exact ⟨a, c, xs, h1, h2, h3.row, fun x hx => (h4 x hx).aw⟩
end Go.Proofs.YtpdmmmdkpipmkaaGreatDoor

/-
  The reference's Like of two programs that are the same.
-/
namespace Go.Proofs.YtpdmmmdkpipmkaaGreatDoor
open Go.RowKit Go.Lib Go.Shelf

theorem eqConstS (k : K) (d : Nat) (w : World) : (Op.equalIn (d + 2) 42 (.agg #[.bool k.num, .int .i64 k.n, str k.s]) (.agg #[.bool k.num, .int .i64 k.n, str k.s])).run Tryz.prog w = .ok true w := by
  rw [run_equalIn_struct w (d + 1) 42 _ _ (by kernel_rfl) (by kernel_rfl)]
  simp only [Program.fieldsOf, Tryz.underlying42, Op.eqFields]
  simp [part, Tryz.isAgg4, Tryz.isAgg3, Tryz.isAgg9, run_equalIn_bool' w d _ _ _ Tryz.underlying4, run_equalIn_int w d _ _ _ _ _ Tryz.underlying3, run_equalIn_string w d _ _ _ Tryz.underlying9]
theorem eqTermS (t : Tm) (w : World) : (Op.equalIn 10000 44 (tval t) (tval t)).run Tryz.prog w = .ok true w := by
  rw [run_equalIn_struct w 9999 44 _ _ (by kernel_rfl) (by kernel_rfl)]
  simp only [Program.fieldsOf, Tryz.underlying44, Op.eqFields]
  have hc := eqConstS t.k 9997 w
  simp [part, Tryz.isAgg9, Tryz.isAgg42, Tryz.sizeOf42, run_equalIn_string w 9998 _ _ _ Tryz.underlying9, hc]

theorem term_cells {w : World} {b o c : Nat} {ys : List Tm} (h : Row tK w (some ⟨b, o, none⟩) c ys) (k : Nat) (hk : k < ys.length) :
    w.cell? ⟨b, o + k * 4, none⟩ = some (str ys[k].v) ∧ w.cell? ⟨b, o + k * 4 + 1, none⟩ = some (.bool ys[k].k.num) ∧ w.cell? ⟨b, o + k * 4 + 2, none⟩ = some (.int .i64 ys[k].k.n) ∧ w.cell? ⟨b, o + k * 4 + 3, none⟩ = some (str ys[k].k.s) := by
  have hr := h.range k hk
  exact ⟨hr 0 _ rfl, hr 1 _ rfl, hr 2 _ rfl, hr 3 _ rfl⟩

set_option maxRecDepth 100000 in
set_option maxHeartbeats 2000000 in
theorem rtermsS (a a' : Option Addr) (c c' : Nat) (ys : List Tm) (w : World) (hx : Row tK w a c ys) (hy : Row tK w a' c' ys) :
    Calls Tryz.prog 22 #[.slice a ys.length c, .slice a' ys.length c'] w fun e w' => e = .returned (.bool true) ∧ Below w.heap.size w w' := by
  have mixed : Tryz.prog.follows .mixedOrders = true := by kernel_rfl
  have hf := hx.few
  have r1 := hx.room
  have r2 := hy.room
  go_enter Tryz.func22, Tryz.ntmps22
  go_wp2_with fail
  go_loopw [5] (fun v wr => ∃ k : Nat, v = .int .i64 (k : Int) ∧ k ≤ ys.length ∧ Below w.heap.size w wr) (fun v _ => ys.length - (RowKit.intOf v).toNat)
  case atStart => exact ⟨0, rfl, Nat.zero_le _, Below.refl _ _⟩
  case round =>
    obtain ⟨k, rfl, hk, hb⟩ := hrel
    rcases Nat.lt_or_ge k ys.length with hlt | hge
    · have q2 : (k : Int) < (ys.length : Int) := by omega
      obtain ⟨P1, O1, rfl⟩ := hx.addr (by omega)
      obtain ⟨P2, O2, rfl⟩ := hy.addr (by omega)
      obtain ⟨a1, a2, a3, a4⟩ := term_cells (hx.below hb (Nat.le_refl _)) k hlt
      obtain ⟨d1, d2, d3, d4⟩ := term_cells (hy.below hb (Nat.le_refl _)) k hlt
      have E := eqTermS ys[k]
      generalize ys[k] = t at *
      obtain ⟨v, ⟨A, B, C⟩⟩ := t
      go_wp2_with fail
      go_quiet (fail)
      go_wp2_with fail
      exact ⟨⟨k + 1, by go_num, by omega, hb.trans ((Grew.drewN wr nq).below.mono hb.size)⟩, by simp [RowKit.intOf]; omega⟩
    · have q2 : ¬ (k : Int) < (ys.length : Int) := by omega
      go_wp2_with fail
      go_ret
      exact ⟨rfl, hb⟩

theorem lit_cells {W : World} {V : Nat} {m p s m' p' : List UInt8} {n n' : Bool} {o o' : Int} {A : Option Addr} {ts : List Tm} {c : Nat} {T : TypeId} (h : W.heap[V]? = some (.cells (lv ⟨⟨m, ⟨n, o, p⟩⟩, s, A, c, ts, ⟨m', ⟨n', o', p'⟩⟩⟩).toArray T)) :
    W.cell? ⟨V, 0, none⟩ = some (str m) ∧ W.cell? ⟨V, 1, none⟩ = some (.bool n) ∧ W.cell? ⟨V, 2, none⟩ = some (.int .i64 o) ∧ W.cell? ⟨V, 3, none⟩ = some (str p) ∧ W.cell? ⟨V, 4, none⟩ = some (str s) ∧ W.cell? ⟨V, 5, none⟩ = some (.slice A ts.length c) ∧ W.cell? ⟨V, 6, none⟩ = some (str m') ∧ W.cell? ⟨V, 7, none⟩ = some (.bool n') ∧ W.cell? ⟨V, 8, none⟩ = some (.int .i64 o') ∧ W.cell? ⟨V, 9, none⟩ = some (str p') := by
  refine ⟨?_, ?_, ?_, ?_, ?_, ?_, ?_, ?_, ?_, ?_⟩ <;> (rw [heap_cell h]; rfl)

set_option maxRecDepth 100000 in
set_option maxHeartbeats 8000000 in
theorem rsameRuleS (x y : Rv) (w : World) (hx : Rv.Aw w x) (hy : Rv.Aw w y) (he : x.r = y.r) : Calls Tryz.prog 30 #[rval x, rval y] w fun e w' => e = .returned (.bool true) ∧ Below w.heap.size w w' := by
  obtain ⟨⟨v1, ⟨a1, b1, c1⟩⟩, p, ad, cap, ts, ⟨v2, ⟨a2, b2, c2⟩⟩, ba, bc, ls⟩ := x
  obtain ⟨t3, p', ad', cap', ts', t4, ba', bc', ls'⟩ := y
  simp only [Rv.r, Ru.mk.injEq] at he
  obtain ⟨rfl, rfl, rfl, rfl, hls⟩ := he
  obtain ⟨hx1, hx2, hx3⟩ := hx
  obtain ⟨hy1, hy2, hy3⟩ := hy
  simp only at hx1 hx2 hx3 hy1 hy2 hy3
  have hE := fun W (h : Below w.heap.size w W) => rtermsS ad ad' cap cap' ts W (hx1.below h (Nat.le_refl _)) (hy1.below h (Nat.le_refl _))
  have few1 := hx2.few; have few2 := hy2.few
  have q1 := fun W => eqTermS ⟨v1, ⟨a1, b1, c1⟩⟩ W
  have q2 := fun W => eqTermS ⟨v2, ⟨a2, b2, c2⟩⟩ W
  have hlen : ls.length = ls'.length := by have := congrArg List.length hls; simpa using this
  have hget : ∀ k (h1 : k < ls.length) (h2 : k < ls'.length), ls[k].l = ls'[k].l := fun k h1 h2 => by
    have h : (ls.map Lv.l)[k]'(by simpa using h1) = (ls'.map Lv.l)[k]'(by simpa using h2) := by simp only [hls]
    simpa using h
  have HG := hideP hget
  have G0 : ∀ o o' : Obj, Below w.heap.size w ((w.alloc o).alloc o') := fun o o' => Below.then (below_alloc _ _) (below_alloc _ _)
  have q0 : ((ls.length : Int) != (ls'.length : Int)) = false := by simp; omega
  have Hl := hideP hlen; clear hlen hls hget
  have H1 := below_heap (below_alloc _ (.cells #[str v1, .bool a1, .int .i64 b1, str c1, str p, .slice ad' ts.length cap', str v2, .bool a2, .int .i64 b2, str c2, .slice ba' ls'.length bc'] 48)) (heap_alloc_new w (.cells #[str v1, .bool a1, .int .i64 b1, str c1, str p, .slice ad ts.length cap, str v2, .bool a2, .int .i64 b2, str c2, .slice ba ls.length bc] 48))
  have H2 := heap_alloc_new (w.alloc (.cells #[str v1, .bool a1, .int .i64 b1, str c1, str p, .slice ad ts.length cap, str v2, .bool a2, .int .i64 b2, str c2, .slice ba ls.length bc] 48)) (.cells #[str v1, .bool a1, .int .i64 b1, str c1, str p, .slice ad' ts.length cap', str v2, .bool a2, .int .i64 b2, str c2, .slice ba' ls'.length bc'] 48)
  rw [show (w.alloc (.cells #[str v1, .bool a1, .int .i64 b1, str c1, str p, .slice ad ts.length cap, str v2, .bool a2, .int .i64 b2, str c2, .slice ba ls.length bc] 48)).heap.size = w.heap.size + 1 by simp] at H2
  go_enter Tryz.func30, Tryz.ntmps30
  go_wp2_with fail
  refine (hE _ (G0 _ _)).mono ?_; rintro e w1 ⟨rfl, g1⟩
  have J1 := below_heap g1 H1
  have J2 := below_heap g1 H2
  have G1 := Below.then (G0 _ _) g1
  clear hE g1 hx1 hy1 H1 H2 q1 q2
  have d10 := heap_cell J1 10; have f10 := heap_cell J2 10
  simp at d10 f10
  go_wp2_with fail
  go_loopw [5, 6, 7] (fun v _ _ wr => ∃ k : Nat, v = .int .i64 (k : Int) ∧ k ≤ ls.length ∧ Below w1.heap.size w1 wr) (fun v _ _ _ => ls.length - (RowKit.intOf v).toNat)
  case atStart => exact ⟨0, rfl, by omega, Below.refl _ _⟩
  case round =>
    obtain ⟨k, rfl, hk, hg1⟩ := hrel
    have hg := G1.trans (hg1.mono G1.size)
    have K1 := below_heap hg1 J1
    have K2 := below_heap hg1 J2
    clear d10 f10
    have d10 := heap_cell K1 10
    simp at d10
    by_cases hlt : k < ls.length
    · have q2 : (k : Int) < (ls.length : Int) := by omega
      have hlt' : k < ls'.length := by have := Hl.out; omega
      have q3 : (k : Int) < (ls'.length : Int) := by omega
      obtain ⟨P1, O1, rfl⟩ := hx2.addr (Nat.lt_of_le_of_lt (Nat.zero_le _) hlt)
      obtain ⟨P2, O2, rfl⟩ := hy2.addr (Nat.lt_of_le_of_lt (Nat.zero_le _) hlt')
      have r1 : wr.rangeAt P1 (O1 + k * 10) (lv (ls[k]'hlt)) := (hx2.below hg (Nat.le_refl _)).range k hlt
      have r2 : ∀ W, Below w.heap.size w W → W.rangeAt P2 (O2 + k * 10) (lv (ls'[k]'hlt')) := fun W h => (hy2.below h (Nat.le_refl _)).range k hlt'
      have aP := hx3 _ (List.getElem_mem hlt)
      have aQ := hy3 _ (List.getElem_mem hlt')
      have heq := HG.out k hlt hlt'
      generalize (ls[k]'hlt) = P at *
      generalize (ls'[k]'hlt') = Q at *
      obtain ⟨⟨m1, ⟨n1, o1, p1⟩⟩, pr, aa, ca, us, ⟨m2, ⟨n2, o2, p2⟩⟩⟩ := P
      obtain ⟨tb, pr', aa', ca', us', ta⟩ := Q
      simp only [Lv.l, Lt.mk.injEq] at heq
      obtain ⟨rfl, rfl, rfl, rfl⟩ := heq
      have aP : Row tK w aa ca us := aP
      have aQ : Row tK w aa' ca' us := aQ
      have hT := fun W (h : Below w.heap.size w W) => rtermsS aa aa' ca ca' us W (aP.below h (Nat.le_refl _)) (aQ.below h (Nat.le_refl _))
      have q4 := fun W => eqTermS ⟨m1, ⟨n1, o1, p1⟩⟩ W
      have q5 := fun W => eqTermS ⟨m2, ⟨n2, o2, p2⟩⟩ W
      have z0 := hg.size
      have hF : ∀ (W X : World) (o : Obj), But W.heap.size (W.alloc o) X → Below W.heap.size W X := fun W X o d => (below_alloc W o).trans (d.lower (Nat.le_refl _) (by simp))
      have iN : (Tryz.prog.info? 52).map (·.size) = some 10 := by kernel_rfl
      have iP : (Tryz.prog.info? 52).map (·.size) = some (lv ⟨⟨m1, ⟨n1, o1, p1⟩⟩, pr, aa, ca, us, ⟨m2, ⟨n2, o2, p2⟩⟩⟩).length := iN
      have iQ : (Tryz.prog.info? 52).map (·.size) = some (lv ⟨⟨m1, ⟨n1, o1, p1⟩⟩, pr, aa', ca', us, ⟨m2, ⟨n2, o2, p2⟩⟩⟩).length := iN
      clear hx2 hx3 hy2 hy3 HG
      go_upto_region 8 with (first
        | (refine wpList_load_mid rfl 52 _ rfl P1 (O1 + k * 10) rfl (lv ⟨⟨m1, ⟨n1, o1, p1⟩⟩, pr, aa, ca, us, ⟨m2, ⟨n2, o2, p2⟩⟩⟩) _ r1 Tryz.underlying52 rfl iP ?_)
        | (refine wpList_store_all rfl 52 _ _ rfl wr.heap.size 10 _ 52 (lv ⟨⟨m1, ⟨n1, o1, p1⟩⟩, pr, aa, ca, us, ⟨m2, ⟨n2, o2, p2⟩⟩⟩) rfl rfl (heap_alloc_new wr _) rfl rfl iN rfl ?_; intro w2 H2 d2; have B2 := hF wr w2 _ d2; have r2' := r2 w2 (hg.trans (B2.mono z0)); have f10 : w2.cell? ⟨w.heap.size + 1, 10, none⟩ = some (.slice (some ⟨P2, O2, none⟩) ls'.length bc') := (by rw [heap_cell (below_heap B2 K2)]; rfl))
        | (refine wpList_load_mid rfl 52 _ rfl P2 (O2 + k * 10) rfl (lv ⟨⟨m1, ⟨n1, o1, p1⟩⟩, pr, aa', ca', us, ⟨m2, ⟨n2, o2, p2⟩⟩⟩) _ r2' Tryz.underlying52 rfl iQ ?_)
        | (refine wpList_store_all rfl 52 _ _ rfl w2.heap.size 10 _ 52 (lv ⟨⟨m1, ⟨n1, o1, p1⟩⟩, pr, aa', ca', us, ⟨m2, ⟨n2, o2, p2⟩⟩⟩) rfl rfl (heap_alloc_new w2 _) rfl rfl iN rfl ?_; intro w3 H3 d3; have B3 := hF w2 w3 _ d3; have H2' := below_heap B3 H2))
      obtain ⟨x0, x1, x2, x3, x4, x5, x6, x7, x8, x9⟩ := lit_cells H2'
      obtain ⟨y0, y1, y2, y3, y4, y5, y6, y7, y8, y9⟩ := lit_cells H3
      go_wp2_with fail
      have BB := hg.trans ((Below.then B2 B3).mono z0)
      refine (hT w3 BB).mono ?_; rintro e w4 ⟨rfl, g4⟩
      have z1 := hg1.size
      have BL : Below w1.heap.size w1 w4 := hg1.trans ((Below.then (Below.then B2 B3) g4).mono z1)
      go_wp2_with fail
      exact ⟨⟨k + 1, by go_num, by omega, BL⟩, by simp [RowKit.intOf]; omega⟩
    · have q2 : ¬ (k : Int) < (ls.length : Int) := by omega
      go_wp2_with fail
      go_ret
      exact ⟨rfl, hg⟩

/-- a whole record read, in a region that draws its order and only reads up to there -/
theorem wpStill_load_mid {P : Program} {ops : Array Oper} {rest : List Oper} {op : Oper} {a : Act} {w : World} {Q : Act → Prop} (hgd : op.guard = none) (ty : TypeId) (x : Operand) (ho : op.op = .load ty x)
    (b o : Nat) (hx : a.eval x = .pointer (some ⟨b, o, none⟩)) (cs : List Value) (d : TypeDesc) (hc : w.rangeAt b o cs)
    (hu : P.underlying ty = some d) (hd : d.isRow = true) (hi : (P.info? ty).map (·.size) = some cs.length)
    (h : wpStill P ops w Q rest (a.put op.dst (.agg cs.toArray))) : wpStill P ops w Q (op :: rest) a := by
  unfold wpStill
  rw [if_pos (by unfold Region.wanted; rw [hgd])]
  unfold Oper.still execOp
  simp only [ho, hx, Instr.loadAt, Instr.sureAddr, Sem.run_bind, Sem.run_pure, Result.andThen_ok, run_loadVar_mid w b o ty cs d hc hu hd hi]
  exact ⟨rfl, h⟩

set_option maxRecDepth 100000 in
set_option maxHeartbeats 4000000 in
theorem rlikeS (a a' : Option Addr) (c c' : Nat) (xs ys : List Rv) (w : World) (hx : Row rK w a c xs) (hy : Row rK w a' c' ys) (ax : ∀ x ∈ xs, Rv.Aw w x) (ay : ∀ y ∈ ys, Rv.Aw w y) (he : xs.map Rv.r = ys.map Rv.r) :
    Calls Tryz.prog 14 #[.slice a xs.length c, .slice a' ys.length c'] w fun e w' => e = .returned (.bool true) ∧ Below w.heap.size w w' := by
  have mixed : Tryz.prog.follows .mixedOrders = true := by kernel_rfl
  have hC := fun (p q : Rv) (W : World) (hp : Rv.Aw W p) (hq : Rv.Aw W q) (e : p.r = q.r) => rsameRuleS p q W hp hq e
  have b1 := hx.few; have b2 := hy.few
  have iN : (Tryz.prog.info? 48).map (·.size) = some 11 := by kernel_rfl
  have hl : xs.length = ys.length := by have := congrArg List.length he; simpa using this
  have hget : ∀ k (h1 : k < xs.length) (h2 : k < ys.length), xs[k].r = ys[k].r := fun k h1 h2 => by
    have h : (xs.map Rv.r)[k]'(by simpa using h1) = (ys.map Rv.r)[k]'(by simpa using h2) := by simp only [he]
    simpa using h
  have HG := hideP hget
  have q0 : ((xs.length : Int) != (ys.length : Int)) = false := by simp; omega
  have Hl := hideP hl; clear hl hget he
  go_enter Tryz.func14, Tryz.ntmps14
  go_wp2_with fail
  go_loopw [5] (fun v wr => ∃ k : Nat, v = .int .i64 (k : Int) ∧ k ≤ xs.length ∧ Below w.heap.size w wr) (fun v _ => xs.length - (RowKit.intOf v).toNat)
  case atStart => exact ⟨0, rfl, by omega, Below.refl _ _⟩
  case round =>
    obtain ⟨k, rfl, hk, hg⟩ := hrel
    by_cases hlt : k < xs.length
    · have q2 : (k : Int) < (xs.length : Int) := by omega
      have hlt' : k < ys.length := by have := Hl.out; omega
      have q3 : (k : Int) < (ys.length : Int) := by omega
      obtain ⟨P1, O1, rfl⟩ := hx.addr (Nat.lt_of_le_of_lt (Nat.zero_le _) hlt)
      obtain ⟨P2, O2, rfl⟩ := hy.addr (Nat.lt_of_le_of_lt (Nat.zero_le _) hlt')
      have hgD : Below w.heap.size w wr.drew := hg.drew
      have r1 : wr.drew.rangeAt P1 (O1 + k * 11) (rv (xs[k]'hlt)) := (hx.below hgD (Nat.le_refl _)).range k hlt
      have r2 : wr.drew.rangeAt P2 (O2 + k * 11) (rv (ys[k]'hlt')) := (hy.below hgD (Nat.le_refl _)).range k hlt'
      have r1' : wr.rangeAt P1 (O1 + k * 11) (rv (xs[k]'hlt)) := (hx.below hg (Nat.le_refl _)).range k hlt
      have r2' : wr.rangeAt P2 (O2 + k * 11) (rv (ys[k]'hlt')) := (hy.below hg (Nat.le_refl _)).range k hlt'
      have aP : Rv.Aw wr.drew (xs[k]'hlt) := (ax _ (List.getElem_mem hlt)).below hgD (Nat.le_refl _)
      have aQ : Rv.Aw wr.drew (ys[k]'hlt') := (ay _ (List.getElem_mem hlt')).below hgD (Nat.le_refl _)
      have hn := hideP (hC _ _ wr.drew aP aQ (HG.out k hlt hlt'))
      generalize (xs[k]'hlt) = p at *
      generalize (ys[k]'hlt') = q at *
      have iP : (Tryz.prog.info? 48).map (·.size) = some (rv p).length := iN
      have iQ : (Tryz.prog.info? 48).map (·.size) = some (rv q).length := iN
      go_wp2_with fail
      refine wp_region_still_tail 8 (by kernel_rfl) (by kernel_rfl) ?_
      simp only [List.take_succ_cons, List.take_zero, List.drop_succ_cons, List.drop_zero]
      iterate 3 still_step
      first | refine wpStill_load_mid rfl 48 _ rfl P1 (O1 + k * 11) rfl (rv p) _ r1' Tryz.underlying48 rfl iP ?_ | refine wpStill_load_mid rfl 48 _ rfl P1 (O1 + k * 11) rfl (rv p) _ r1 Tryz.underlying48 rfl iP ?_
      iterate 3 still_step
      first | refine wpStill_load_mid rfl 48 _ rfl P2 (O2 + k * 11) rfl (rv q) _ r2' Tryz.underlying48 rfl iQ ?_ | refine wpStill_load_mid rfl 48 _ rfl P2 (O2 + k * 11) rfl (rv q) _ r2 Tryz.underlying48 rfl iQ ?_
      refine wpStill_nil ?_
      go_wp2_with fail
      refine hn.out.mono ?_; rintro e w4 ⟨rfl, g4⟩
      go_wp2_with fail
      exact ⟨⟨k + 1, by go_num, by omega, hgD.trans (g4.mono hgD.size)⟩, by simp [RowKit.intOf]; omega⟩
    · have q2 : ¬ (k : Int) < (xs.length : Int) := by omega
      go_wp2_with fail
      go_ret
      exact ⟨rfl, hg⟩
theorem rlike_rws {w : World} {a a' : Option Addr} {c c' : Nat} {xs ys : List Rv} (h : Rws w a c xs) (h' : Rws w a' c' ys) (he : xs.map Rv.r = ys.map Rv.r) : Calls Tryz.prog 14 #[.slice a xs.length c, .slice a' ys.length c'] w fun e w' => e = .returned (.bool true) ∧ Below w.heap.size w w' :=
  rlikeS a a' c c' xs ys w h.row h'.row h.each h'.each he
end Go.Proofs.YtpdmmmdkpipmkaaGreatDoor
