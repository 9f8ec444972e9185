/-
  The reference's weight of facts, of a slice that may be one longer than one that came in; light over it.
-/
import Derived.Test.YtbahbibibpkddaaY2
namespace Go.Proofs.Ytbahbibibpkddaa
open Go.RowKit Go.Lib Go.Shelf Go.Sort

/-- A slice of facts that may be one longer than one that came in -/
structure LiesX (w : World) (a : Option Addr) (cap : Nat) (xs : List Fv) : Prop where
  room : xs.length ≤ cap
  most : cap ≤ maxLen
  few : xs.length ≤ 1954687338300
  void : a = none → xs = [] ∧ cap = 0
  cells : ∀ ad, a = some ad → ∀ j u, (fcells xs)[j]? = some u → w.cell? (ad.add j) = some u
theorem LiesX.nil (w : World) : LiesX w none 0 [] := ⟨Nat.le_refl _, by simp, by simp, fun _ => ⟨rfl, rfl⟩, fun _ h => by cases h⟩
theorem LiesX.below {w w' : World} {a : Option Addr} {cap : Nat} {xs : List Fv} {B : Nat} (h : LiesX w a cap xs) (hb : Below B w w') (hB : w.heap.size ≤ B) : LiesX w' a cap xs :=
  ⟨h.room, h.most, h.few, h.void, fun ad ha j u hu => by
    have hc := h.cells ad ha j u hu
    rw [hb.cell (Nat.lt_of_lt_of_le (cell_block hc) hB)]
    exact hc⟩
theorem LiesX.addr {w : World} {a : Option Addr} {cap : Nat} {xs : List Fv} (h : LiesX w a cap xs) (hl : 0 < xs.length) : ∃ b o, a = some ⟨b, o, none⟩ := by
  cases a with
  | none => have := (h.void rfl).1; subst this; simp at hl
  | some ad =>
    have hc := h.cells ad rfl 0 (str xs[0].at_) (by have := flat_get fv 4 fv_len xs 0 0 hl (by omega); simpa [fcells, fv] using this)
    obtain ⟨b, o, sp⟩ := ad
    have : sp = none := by simpa [Addr.add] using World.cell?_spot hc
    subst this
    exact ⟨b, o, rfl⟩
theorem LiesX.get {w : World} {b o cap : Nat} {xs : List Fv} (h : LiesX w (some ⟨b, o, none⟩) cap xs) (i : Nat) (hi : i < xs.length) :
    w.cell? ⟨b, o + i * 4, none⟩ = some (str xs[i].at_) ∧ w.cell? ⟨b, o + i * 4 + 1, none⟩ = some (str xs[i].by_) ∧ w.cell? ⟨b, o + i * 4 + 2, none⟩ = some (str xs[i].pred) ∧ w.cell? ⟨b, o + i * 4 + 3, none⟩ = some (.slice xs[i].a xs[i].ks.length xs[i].cap) := by
  have key : ∀ c, c < 4 → w.cell? ⟨b, o + i * 4 + c, none⟩ = (fv xs[i])[c]? := fun c hc => by
    have h1 := flat_get fv 4 fv_len xs i c hi hc
    obtain ⟨u, hu⟩ : ∃ u, (fv xs[i])[c]? = some u := ⟨_, List.getElem?_eq_getElem (show c < (fv xs[i]).length from hc)⟩
    have := h.cells _ rfl (i * 4 + c) u (by rw [fcells, h1, hu])
    rw [Addr.add_lit] at this
    rw [hu, ← this, Nat.add_assoc]
  exact ⟨key 0 (by omega), key 1 (by omega), key 2 (by omega), key 3 (by omega)⟩

set_option maxHeartbeats 4000000 in
theorem weight_few5 (a : Option Addr) (c : Nat) (xs : List Fv) (w : World) (hx : LiesX w a c xs) (ax : ∀ x ∈ xs, Fv.At w x) (tx : ∀ x ∈ xs, TxF x) :
    Calls Try.prog 36 #[.slice a xs.length c, .int .i64 200] w fun e w' => (∃ r : Int, e = .returned (.int .i64 r) ∧ (¬ 200 < r → xs.length ≤ 200)) ∧ Grew w w' := by
  have mixed : Try.prog.follows .mixedOrders = true := by kernel_rfl
  have b1 := hx.few
  go_enter Try.func36, Try.ntmps36
  go_wp2_with fail
  go_loopw [5, 6, 7] (fun v5 v6 _ wr => ∃ (k : Nat) (n : Int), v5 = .int .i64 n ∧ v6 = .int .i64 (k : Int) ∧ k ≤ xs.length ∧ (k : Int) ≤ n ∧ n ≤ 4611686018427387904 ∧ Grew w wr) (fun _ v6 _ _ => xs.length - (RowKit.intOf v6).toNat)
  case atStart => exact ⟨0, 0, rfl, rfl, by omega, by omega, by omega, Grew.refl _⟩
  case round =>
    obtain ⟨k, n, rfl, rfl, hk, hkn, hnt, hg⟩ := hrel
    by_cases hlt : k < xs.length
    · have q2 : (k : Int) < (xs.length : Int) := by omega
      by_cases hn : n ≤ 200
      · obtain ⟨P1, O1, rfl⟩ := hx.addr (Nat.lt_of_le_of_lt (Nat.zero_le _) hlt)
        have hx' := hx.below hg.below (Nat.le_refl _)
        obtain ⟨a1, a2, a3, a4⟩ := hx'.get k hlt
        have hA := (ax _ (List.getElem_mem hlt)).grew hg
        have hT := tx _ (List.getElem_mem hlt)
        have hfew := ArgsAt.few hA
        generalize (xs[k]'hlt) = p at *
        obtain ⟨t1, t2, t3, t4⟩ := hT
        go_wp2_with fail
        go_quiet (fail)
        go_wp2_with fail
        have hg2 := hg.trans (Grew.drewN wr nq)
        have b2 := (Grew.drewN wr nq).below
        have e4 := (b2.cell (p := ⟨P1, O1 + k * 4 + 3, none⟩) (cell_block a4)).trans a4
        have hA2 := hA.grew (Grew.drewN wr nq)
        generalize wr.drewN nq = w2 at *
        clear a1 a2 a3 a4 b2 hA hx' hg
        go_loopw [5, 7] (fun v5 v7 wi => ∃ (j : Nat) (n : Int), v5 = .int .i64 n ∧ v7 = .int .i64 (j : Int) ∧ j ≤ p.ks.length ∧ (k : Int) + 1 ≤ n ∧ n ≤ 4611686018427387904 ∧ Grew w2 wi) (fun _ v7 _ => p.ks.length - (RowKit.intOf v7).toNat)
        case atStart => exact ⟨0, _, rfl, rfl, by omega, by omega, by omega, Grew.refl _⟩
        case round =>
          obtain ⟨j, n', rfl, rfl, hj, hn1, hn2, hgi⟩ := hrel
          have c4 := (hgi.below.cell (p := ⟨P1, O1 + k * 4 + 3, none⟩) (cell_block e4)).trans e4
          by_cases hjl : j < p.ks.length
          · have q3 : (j : Int) < (p.ks.length : Int) := by omega
            by_cases hn' : n' ≤ 200
            · obtain ⟨P2, O2, hP2⟩ := ArgsAt.addr hA2 (Nat.lt_of_le_of_lt (Nat.zero_le _) hjl)
              have hA3 := hA2.grew hgi
              rw [Fv.At, hP2] at hA3
              rw [hP2] at c4
              obtain ⟨m1, m2, m3⟩ := hA3.get j hjl
              have t5 := t4 _ (List.getElem_mem hjl)
              go_wp2_with fail
              exact ⟨⟨j + 1, _, rfl, by simp, by omega, by omega, by omega, hgi⟩, by simp [RowKit.intOf]; omega⟩
            · go_wp2_with fail
              exact ⟨⟨k + 1, n', rfl, by simp, by omega, by omega, by omega, hg2.trans hgi⟩, by simp [RowKit.intOf]; omega⟩
          · have q3 : ¬ (j : Int) < (p.ks.length : Int) := by omega
            go_wp2_with fail
            exact ⟨⟨k + 1, n', rfl, by simp, by omega, by omega, by omega, hg2.trans hgi⟩, by simp [RowKit.intOf]; omega⟩
      · go_wp2_with fail
        go_ret
        exact ⟨⟨n, rfl, fun h => by omega⟩, hg⟩
    · have q2 : ¬ (k : Int) < (xs.length : Int) := by omega
      go_wp2_with fail
      go_ret
      exact ⟨⟨n, rfl, fun h => by omega⟩, hg⟩

set_option maxRecDepth 100000 in
set_option maxHeartbeats 1000000 in
theorem light5_at (r : Rv) (a : Option Addr) (c : Nat) (xs : List Fv) (b : Option Addr) (d : Nat) (L : List Bd) (w : World) (hr : Rv.Aw w r) (tr : TxR r) (hl : LiesX w a c xs) (hx : ∀ x ∈ xs, Fv.At w x ∧ TxF x) (hE : Row bK w b d L) :
    Calls Try.prog 15 #[rval r, .slice a xs.length c, .slice b L.length d] w fun e w' => Says e (Few2 r ∧ xs.length ≤ 200 ∧ L.length ≤ 200) ∧ Below w.heap.size w w' := by
  have iR : (Try.prog.info? 37).map (·.size) = some 11 := by kernel_rfl
  have few := hE.few
  obtain ⟨h0, h1, A0⟩ := boxes2 w (.cells (rv r).toArray 37) (.cells (rv r).toArray 37)
  have A1 := below_alloc w (.cells (rv r).toArray 37)
  have H1 := heap_alloc_new w (.cells (rv r).toArray 37)
  have R1 : Row rK _ (some ⟨w.heap.size + 1, 0, none⟩) 1 [r] := row_block rK h1 r rfl
  have T1 := hideP (rweight_few2 (some ⟨w.heap.size + 1, 0, none⟩) 1 [r] _ R1 (fun x hx => by rw [List.mem_singleton.1 hx]; exact hr.below A0 (Nat.le_refl _)) (fun x hx => by rw [List.mem_singleton.1 hx]; exact tr))
  go_enter Try.func15, Try.ntmps15
  go_wp2_with (first | (refine wpList_load_all rfl 37 _ rfl w.heap.size 11 37 (rv r) _ rfl H1 rfl Try.underlying37 rfl iR ?_) | (refine wpList_build_one rfl 67 37 _ rfl (rv r) _ 11 160 rfl rfl (by decide) (by decide) Try.underlying67 Try.iR11 ?_))
  refine T1.out.mono ?_
  rintro e w1 ⟨⟨m, rfl, hm⟩, b1⟩
  have B1 := Below.then A0 b1.below
  clear h0 h1 A0 A1 H1 R1 T1 b1
  have T2 := hideP (weight_few5 a c xs w1 (hl.below B1 (Nat.le_refl _)) (fun x h => (hx x h).1.below B1 (Nat.le_refl _)) (fun x h => (hx x h).2))
  by_cases q1 : m ≤ 200
  rotate_left
  · go_wp2_with fail
    go_ret
    exact ⟨⟨false, rfl, fun h => by cases h⟩, B1⟩
  have HM := hideP (hm (by omega))
  clear hm
  go_wp2_with fail
  refine T2.out.mono ?_
  rintro e w2 ⟨⟨n, rfl, hn⟩, b2⟩
  have B2 := Below.then B1 b2.below
  by_cases q2 : n ≤ 200
  rotate_left
  · go_wp2_with fail
    go_ret
    exact ⟨⟨false, rfl, fun h => by cases h⟩, B2⟩
  have HN := hideP (hn (by omega))
  clear hn
  go_wp2_with fail
  go_ret
  exact ⟨⟨decide ((L.length : Int) ≤ 200), rfl, fun h => ⟨HM.out.2 r (List.mem_singleton.2 rfl), HN.out, by have := of_decide_eq_true h; omega⟩⟩, B2⟩
end Go.Proofs.Ytbahbibibpkddaa
