/-
  What the reference's reader does: lists of terms, rules.
-/
import Derived.Test.YtghhdbkgibpebaaRdt
import Derived.Test.YtghhdbkgibpebaaRFb
import Derived.Test.YtghhdbkgibpebaaRd9
namespace Go.Proofs.Ytghhdbkgibpebaa
open Go.RowKit Go.Sort

theorem own_high {w : World} {base : Nat} {e : TypeId} {k : Nat} {v : Value} {n : Nat} {xs : List Value} (h : w.ownsRow base e k v n xs) : ∀ j, v.ownBlock = some j → base ≤ j := fun j hj => by
  rcases h.2 with ⟨h0, _⟩ | ⟨gg, cap, cur, hv, hb, _⟩
  · rw [h0] at hj; cases hj
  · rw [hv] at hj; cases hj; exact hb
/-- a record laid, a row of the call's own grown: but for R all is as it was -/
theorem But.grown {R base : Nat} {w w2 w3 w4 : World} {row : Option Nat} (h : But R w w2) (hb : base = w.heap.size) (h3 : Below w2.heap.size w2 w3) (g : w3.grownBy w4 row) (hr : ∀ j, row = some j → base ≤ j) : But R w w4 :=
  ⟨(g.os.trans h3.os).trans h.os, (g.tape.trans h3.tape).trans h.tape, (g.output.trans h3.output).trans h.output, Nat.le_trans h.size (Nat.le_trans h3.size g.size), fun j hj hn => by
    rw [g.block j (Nat.lt_of_lt_of_le hj (Nat.le_trans h.size h3.size)) (fun e => by have := hr j e.symm; omega), h3.block j (Nat.lt_of_lt_of_le hj h.size), h.block j hj hn]⟩

set_option maxRecDepth 100000 in
set_option maxHeartbeats 4000000 in
theorem rterms_r (R : Nat) (a : Option Addr) (c : Nat) (l : List UInt8) (st : St) (w : World) (h : Rd 73 w R a c l st) :
    Calls Try.prog 91 #[ptr R] w fun e w' => ∃ a' c' ys, e = .returned (.slice a' (List.length ys) c') ∧ RowT tK 51 w' a' c' ys ∧ (∀ vs, Got (pList l 48 (pTerm l)) st vs → ys = List.map Rt.t vs) ∧ Rd 73 w' R a c l (stp (pList l 48 (pTerm l)) (anyF Rt.odd) st) ∧ But R w w' := by
  have hE := fun W s (h : Rd 73 W R a c l s) (hp : Pos l s) => rterm_r R a c l s W h hp
  have hC := rcount_r 48 R a c l st w h
  have hlt := h.lt
  have iZ : (Try.prog.info? 51).map (fun i => (i.zero, i.size, i.bytes)) = some (some (.agg #[.string .empty, .bool false, .int .i64 0, .string .empty]), tK.k, 48) := by kernel_rfl
  go_enter Try.func91, Try.ntmps91
  go_wp2_with fail
  refine hC.mono ?_; rintro e w1 ⟨s, rfl, ⟨hs2, hs3⟩, R1, b1⟩
  have hs0 : 0 ≤ s ∧ s ≤ 1000000 := by
    rcases got_em (pCount l 48) st with ⟨n, hn⟩ | ⟨hn, _⟩
    · have := count_le hn; rw [hs2 n hn]; omega
    · rw [hs3 hn]; omega
  obtain ⟨N, rfl⟩ := Int.eq_ofNat_of_zero_le hs0.1
  have hN : N ≤ 1000000 := by omega
  have hP1 := pos_count l 48 st
  have HL := hideP (fun F => st_list (F := F) (p := pTerm l) (N : Int) hs2)
  have HG := hideP (fun vs => got_list (p := pTerm l) (vs := vs) (N : Int) hs2)
  simp only [Int.toNat_natCast] at HL HG
  clear hC hs2 hs3 hs0 h
  generalize stp (pCount l 48) noF st = s1 at *
  go_wp2_with fail
  go_loopw [4, 5] (fun v4 v5 wr => ∃ (k : Nat) (Z : List Tm), v5 = .int .i64 (k : Int) ∧ k ≤ N ∧ Hid (Z.length = k) ∧ wr.ownsRow w.heap.size 51 tK.k v4 Z.length (Z.flatMap tK.enc) ∧ But R w wr ∧ Rd 73 wr R a c l (stp (pMany (pTerm l) k) (anyF Rt.odd) s1) ∧ Pos l (stp (pMany (pTerm l) k) (anyF Rt.odd) s1) ∧ Hid (∀ xs, Got (pMany (pTerm l) k) s1 xs → Z = List.map Rt.t xs)) (fun _ v5 _ => N - (intOf v5).toNat)
  case atStart =>
    refine ⟨0, [], rfl, by omega, rfl, ⟨rfl, .inl ⟨rfl, rfl⟩⟩, b1, ?_, ?_, fun xs hx => ?_⟩
    · rw [stp_many_zero]; exact R1
    · rw [stp_many_zero]; exact hP1
    · obtain ⟨_, _, _, _, hj⟩ := hx
      have := (ret_inv hj).1
      subst this; rfl
  case round =>
    obtain ⟨k, Z, rfl, hk, hZ, hown, hbt, hRd, hPo, hgot⟩ := hrel
    obtain ⟨x1, er, g1, Q1, q1⟩ := hRd.obj
    have d2 : wr.cell? ⟨R, 2, none⟩ = some (.int .i64 er) := by rw [heap_cell Q1]; rfl
    by_cases hlt' : k < N
    · have q2 : (k : Int) < (N : Int) := by omega
      by_cases he : er = 0
      · subst he
        have hE1 := hE wr _ hRd hPo
        have hst := (stp_many_succ (pTerm l) Rt.odd k s1).symm
        have hP2 := pos_snd (f := Rt.odd) (snd_term l) hPo
        have hg2 : Hid (∀ t, (∀ v, Got (pTerm l) (stp (pMany (pTerm l) k) (anyF Rt.odd) s1) v → t = Rt.t v) → ∀ xs, Got (pMany (pTerm l) (k + 1)) s1 xs → (Z ++ [t]) = List.map Rt.t xs) := fun t ht xs hx => by
          obtain ⟨ys, x, h1, h2, rfl⟩ := got_many_succ (f := Rt.odd) hx
          rw [List.map_append, hgot.out ys h1, ht x h2]; rfl
        rw [hst] at hE1 hP2
        clear hPo hst hE q1
        generalize stp (pMany (pTerm l) k) (anyF Rt.odd) s1 = sk at *
        go_wp2_with fail
        refine hE1.mono ?_; rintro e w2 ⟨t, rfl, hgt, R2, b2⟩
        have Hgt := hideP hgt; clear hgt hE1 d2
        have hB2 : But R w w2 := hbt.trans b2
        have S2 : Safe 51 wr w2 := Safe.but b2 Q1 (by decide)
        have hown2 := ownsRow_keep hown S2
        have A2 := below_alloc w2 (.cells (tv t).toArray 51)
        have hown3 := ownsRow_keep hown2 (Safe.below (ty := 51) A2)
        have nK : (tv t).length = 4 := rfl
        go_wp2_with (first
          | (refine wpList_build_one rfl 52 51 _ rfl (tv t) _ 4 48 rfl nK (by decide) (by decide) Try.underlying52 iZ ?_)
          | (at_builtin; refine wpList_append_rec tK _ rfl _ _ 52 51 rfl _ 48 Try.underlying52 iZ rfl (by decide) w.heap.size u4 Z [t] (some ⟨w2.heap.size, 0, none⟩) 1 1 rfl hown3 rfl rfl (row_new tK w2 _ 51 t rfl) (Nat.le_trans hB2.size A2.size) (by have := hZ.out; simp only [List.length_cons, List.length_nil]; omega) ?_; intro v4 w4 o4 g4))
        have hh := own_high hown3
        refine ⟨⟨k + 1, Z ++ [t], by simp, by omega, ?_, o4, hB2.grown rfl A2 g4 hh, (R2.below A2).grown g4 (fun j hj => by have := hh j hj; omega), hP2, hg2.out t Hgt.out⟩, by simp [intOf]; omega⟩
        show _ = _
        have := hZ.out; simp [this]
      · have hq : (er == 0) = false := by simpa using he
        have hse : stp (pMany (pTerm l) k) (anyF Rt.odd) s1 = .error er := by rw [q1]; unfold stOf; rw [if_neg he]
        have hfin := many_err hse hk
        have Hfin := hideP hfin; have Hse := hideP hse
        obtain ⟨a', c', rfl, hO, _⟩ := own_row (D := tK) (xs := Z) hown (by have := hZ.out; omega)
        clear q1 he hfin hse
        go_wp2_with fail
        go_ret
        refine ⟨a', c', Z, rfl, hO, fun vs hv => (got_no Hfin.out (HG.out vs hv)).elim, ?_, hbt⟩
        rw [HL.out, Hfin.out, ← Hse.out]; exact hRd
    · have q2 : ¬ (k : Int) < (N : Int) := by omega
      obtain rfl : k = N := by omega
      obtain ⟨a', c', rfl, hO, _⟩ := own_row (D := tK) (xs := Z) hown (by have := hZ.out; omega)
      go_wp2_with fail
      go_ret
      refine ⟨a', c', Z, rfl, hO, fun vs hv => hgot.out vs (HG.out vs hv), ?_, hbt⟩
      rw [HL.out]; exact hRd
end Go.Proofs.Ytghhdbkgibpebaa

namespace Go.Proofs.Ytghhdbkgibpebaa
open Go.RowKit Go.Sort

set_option maxRecDepth 100000 in
set_option maxHeartbeats 8000000 in
theorem rrule_r (R : Nat) (a : Option Addr) (c : Nat) (l : List UInt8) (st : St) (w : World) (h : Rd 73 w R a c l st) (hp : Pos l st) :
    Calls Try.prog 50 #[ptr R] w fun e w' => ∃ x : Rv, e = .returned (rval x) ∧ Rv.AtT w' x ∧ (∀ v, Got (pRule l) st v → Rv.r x = Rr.r v) ∧ Rd 73 w' R a c l (stp (pRule l) (Rr.flag Rt.odd) st) ∧ But R w w' := by
  have hT := fun W st (h : Rd 73 W R a c l st) => rtext_r R a c l st W h
  have hM := fun W st (h : Rd 73 W R a c l st) (hp : Pos l st) => rterm_r R a c l st W h hp
  have hL := fun W st (h : Rd 73 W R a c l st) => rterms_r R a c l st W h
  have hN := fun W st (h : Rd 73 W R a c l st) => rcount_r 5 R a c l st W h
  have hlt := h.lt
  have B0 := Below.then (below_alloc w (.cells #[.string .empty, .bool false, .int .i64 0, .string .empty, .string .empty, .slice none 0 0, .string .empty, .bool false, .int .i64 0, .string .empty, .slice none 0 0] 55)) (below_alloc _ (.cells #[.string .empty, .bool false, .int .i64 0, .string .empty, .string .empty, .slice none 0 0, .string .empty, .bool false, .int .i64 0, .string .empty, .slice none 0 0] 55))
  have H0 := below_heap (below_alloc _ (.cells #[.string .empty, .bool false, .int .i64 0, .string .empty, .string .empty, .slice none 0 0, .string .empty, .bool false, .int .i64 0, .string .empty, .slice none 0 0] 55)) (heap_alloc_new w (.cells #[.string .empty, .bool false, .int .i64 0, .string .empty, .string .empty, .slice none 0 0, .string .empty, .bool false, .int .i64 0, .string .empty, .slice none 0 0] 55))
  have V0 := heap_alloc_new (w.alloc (.cells #[.string .empty, .bool false, .int .i64 0, .string .empty, .string .empty, .slice none 0 0, .string .empty, .bool false, .int .i64 0, .string .empty, .slice none 0 0] 55)) (.cells #[.string .empty, .bool false, .int .i64 0, .string .empty, .string .empty, .slice none 0 0, .string .empty, .bool false, .int .i64 0, .string .empty, .slice none 0 0] 55)
  rw [show (w.alloc (.cells #[.string .empty, .bool false, .int .i64 0, .string .empty, .string .empty, .slice none 0 0, .string .empty, .bool false, .int .i64 0, .string .empty, .slice none 0 0] 55)).heap.size = w.heap.size + 1 by simp] at V0
  have R0 := h.below B0
  have b0 : But R w _ := But.of_below B0
  have iN : (Try.prog.info? 55).map (·.size) = some 11 := by kernel_rfl
  go_enter Try.func50, Try.ntmps50
  go_wp2_with fail
  have P0 := hp
  refine (hM _ _ R0 P0).mono ?_; rintro e w1 ⟨x1, rfl, k1, R1, c1⟩
  have V1 := c1.heap (by omega) V0
  have H1 := c1.heap (by omega) H0
  have B1 := b0.trans c1
  have K1 := hideP k1
  have pp1 : Pos l (stp (pTerm l) Rt.odd (st)) := pos_snd (f := Rt.odd) (snd_term l) P0
  generalize hS : w.heap.size = S at *
  have HS := hideP hS; clear hS
  clear V0 H0 b0 k1 c1
  go_wp2_with (refine wpList_store_rec rfl 51 _ _ rfl (S + 1) 0 11 4 55 (tv x1) #[str x1.v, .bool x1.k.num, .int .i64 x1.k.n, str x1.k.s, .string .empty, .slice none 0 0, .string .empty, .bool false, .int .i64 0, .string .empty, .slice none 0 0] rfl rfl V1 rfl rfl (by decide) (by kernel_rfl) rfl rfl ?_; intro z1 U1 d1)
  have G1 := d1.heap (by omega) H1
  have Q1 := R1.but d1 (by omega)
  have D1 := B1.fresh d1 (by rw [HS.out]; exact Nat.le_succ _)
  clear V1 H1 R1 B1 d1 
  have R1 := Q1; clear Q1
  have ps1 := pp1; clear pp1
  refine (hT _ _ R1).mono ?_; rintro e w2 ⟨x2, rfl, k2, R2, c2⟩
  have V2 := c2.heap (by omega) U1
  have H2 := c2.heap (by omega) G1
  have B2 := D1.trans c2
  have K2 := hideP k2
  have pp2 : Pos l (stp (pText l) noF (stp (pTerm l) Rt.odd (st))) := pos_text l _
  clear U1 G1 R1 D1 k2 c2
  go_wp2_with (refine wpList_store_cel rfl 9 _ _ rfl (S + 1) 4 11 55 (str x2) #[str x1.v, .bool x1.k.num, .int .i64 x1.k.n, str x1.k.s, str x2, .slice none 0 0, .string .empty, .bool false, .int .i64 0, .string .empty, .slice none 0 0] rfl rfl V2 rfl (by decide) (by kernel_rfl) rfl rfl ?_; intro z2 U2 d2)
  have G2 := d2.heap (by omega) H2
  have Q2 := R2.but d2 (by omega)
  have D2 := B2.fresh d2 (by rw [HS.out]; exact Nat.le_succ _)
  clear V2 H2 R2 B2 d2 
  have R2 := Q2; clear Q2
  have ps2 := pp2; clear pp2
  refine (hL _ _ R2).mono ?_; rintro e w3 ⟨a3, c3, ks, rfl, row3, k3, R3, c3d⟩
  have V3 := c3d.heap (by omega) U2
  have H3 := c3d.heap (by omega) G2
  have B3 := D2.trans c3d
  have K3 := hideP k3
  have pp3 : Pos l (stp (pList l 48 (pTerm l)) (anyF Rt.odd) (stp (pText l) noF (stp (pTerm l) Rt.odd (st)))) := pos_list (snd_term l)
  clear U2 G2 R2 D2 k3 c3d
  go_wp2_with (refine wpList_store_cel rfl 52 _ _ rfl (S + 1) 5 11 55 (.slice a3 ks.length c3) #[str x1.v, .bool x1.k.num, .int .i64 x1.k.n, str x1.k.s, str x2, .slice a3 ks.length c3, .string .empty, .bool false, .int .i64 0, .string .empty, .slice none 0 0] rfl rfl V3 rfl (by decide) (by kernel_rfl) rfl rfl ?_; intro z3 U3 d3)
  have G3 := d3.heap (by omega) H3
  have Q3 := R3.but d3 (by omega)
  have D3 := B3.fresh d3 (by rw [HS.out]; exact Nat.le_succ _)
  have row3' := row3.safe (Safe.but d3 V3 (by decide))
  clear V3 H3 R3 B3 d3 row3
  have R3 := Q3; clear Q3
  have row3 := row3'; clear row3'
  have ps3 := pp3; clear pp3
  have P3 := ps3
  refine (hM _ _ R3 P3).mono ?_; rintro e w4 ⟨x4, rfl, k4, R4, c4⟩
  have V4 := c4.heap (by omega) U3
  have H4 := c4.heap (by omega) G3
  have row3' := row3.safe (R3.safe c4 (by decide))
  have B4 := D3.trans c4
  have K4 := hideP k4
  have pp4 : Pos l (stp (pTerm l) Rt.odd (stp (pList l 48 (pTerm l)) (anyF Rt.odd) (stp (pText l) noF (stp (pTerm l) Rt.odd (st))))) := pos_snd (f := Rt.odd) (snd_term l) P3
  clear U3 G3 R3 D3 k4 c4 row3
  have row3 := row3'; clear row3'
  go_wp2_with (refine wpList_store_rec rfl 51 _ _ rfl (S + 1) 6 11 4 55 (tv x4) #[str x1.v, .bool x1.k.num, .int .i64 x1.k.n, str x1.k.s, str x2, .slice a3 ks.length c3, str x4.v, .bool x4.k.num, .int .i64 x4.k.n, str x4.k.s, .slice none 0 0] rfl rfl V4 rfl rfl (by decide) (by kernel_rfl) rfl rfl ?_; intro z4 U4 d4)
  have G4 := d4.heap (by omega) H4
  have Q4 := R4.but d4 (by omega)
  have D4 := B4.fresh d4 (by rw [HS.out]; exact Nat.le_succ _)
  have row3' := row3.safe (Safe.but d4 V4 (by decide))
  clear V4 H4 R4 B4 d4 row3
  have R4 := Q4; clear Q4
  have row3 := row3'; clear row3'
  have ps4 := pp4; clear pp4
  have y4 : S + 1 + 1 ≤ z4.heap.size := heap_lt U4
  refine (hN _ _ R4).mono ?_; rintro e w5 ⟨s, rfl, ⟨hs2, hs3⟩, R5, c5d⟩
  have V5 := c5d.heap (by omega) U4
  have H5 := c5d.heap (by omega) G4
  have row5 := row3.safe (R4.safe c5d (by decide))
  have B5 := D4.trans c5d
  have y5 : S + 1 + 1 ≤ w5.heap.size := Nat.le_trans y4 c5d.size
  have hs0 : 0 ≤ s ∧ s ≤ 1000000 := by
    rcases got_em (pCount l 5) _ with ⟨n, hn⟩ | ⟨hn, _⟩
    · have := count_le hn; rw [hs2 n hn]; omega
    · rw [hs3 hn]; omega
  obtain ⟨N, rfl⟩ := Int.eq_ofNat_of_zero_le hs0.1
  have hNb : N ≤ 1000000 := by omega
  have hP5 := pos_count l 5 (stp (pTerm l) Rt.odd (stp (pList l 48 (pTerm l)) (anyF Rt.odd) (stp (pText l) noF (stp (pTerm l) Rt.odd st))))
  have HF : Hid (stp (pRule l) (Rr.flag Rt.odd) st = stp (pMany (pLit l) N) (anyF (Rl.flag Rt.odd)) (stp (pCount l 5) noF (stp (pTerm l) Rt.odd (stp (pList l 48 (pTerm l)) (anyF Rt.odd) (stp (pText l) noF (stp (pTerm l) Rt.odd st)))))) := by
    show _ = _
    rw [st_rule]
    have := st_list (F := anyF (Rl.flag Rt.odd)) (p := pLit l) (N : Int) hs2
    rw [Int.toNat_natCast] at this
    exact this
  have HG : Hid (∀ (Z : List Lv) (v : Rr), (∀ xs, Got (pMany (pLit l) N) (stp (pCount l 5) noF (stp (pTerm l) Rt.odd (stp (pList l 48 (pTerm l)) (anyF Rt.odd) (stp (pText l) noF (stp (pTerm l) Rt.odd st))))) xs → Z.map Lv.l = xs.map Rl.l) → ∀ (A : Option Addr) (C : Nat), Got (pRule l) st v → Rv.r ⟨x1, x2, a3, c3, ks, x4, A, C, Z⟩ = Rr.r v) := fun Z v hz A C hv => by
    obtain ⟨h1, h2, h3, h4, h5⟩ := got_rule Rt.odd hv
    have h6 := got_list (p := pLit l) (vs := v.body) (N : Int) hs2 h5
    rw [Int.toNat_natCast] at h6
    rw [Rv.r, Rr.r, K1.out _ h1, K2.out _ h2, K3.out _ h3, K4.out _ h4, hz _ h6]
  clear hs2 hs3 hs0 U4 G4 R4 D4 c5d row3 K1 K2 K3 K4 hN y4
  generalize stp (pCount l 5) noF (stp (pTerm l) Rt.odd (stp (pList l 48 (pTerm l)) (anyF Rt.odd) (stp (pText l) noF (stp (pTerm l) Rt.odd st)))) = s5 at *
  have iL : (Try.prog.info? 80).map (fun i => (i.zero, i.size, i.bytes)) = some (some (.agg #[.string .empty, .bool false, .int .i64 0, .string .empty, .string .empty, .slice none 0 0, .string .empty, .bool false, .int .i64 0, .string .empty]), lK.k, 136) := by kernel_rfl
  have iM : (Try.prog.info? 80).map (·.size) = some 10 := by kernel_rfl
  go_wp2_with fail
  go_loopw [5, 6] (fun v5 _ wr => ∃ (k : Nat) (Z : List Lv) (v : Value), v5 = .int .i64 (k : Int) ∧ k ≤ N ∧ Hid (Z.length = k) ∧ wr.heap[S + 1]? = some (.cells #[str x1.v, .bool x1.k.num, .int .i64 x1.k.n, str x1.k.s, str x2, .slice a3 ks.length c3, str x4.v, .bool x4.k.num, .int .i64 x4.k.n, str x4.k.s, v] 55) ∧ wr.ownsRow (S + 1 + 1) 80 lK.k v Z.length (Z.flatMap lK.enc) ∧ wr.heap[S]? = some (.cells #[.string .empty, .bool false, .int .i64 0, .string .empty, .string .empty, .slice none 0 0, .string .empty, .bool false, .int .i64 0, .string .empty, .slice none 0 0] 55) ∧ But R w wr ∧ S + 1 + 1 ≤ wr.heap.size ∧ RowT tK 51 wr a3 c3 ks ∧ (∀ z ∈ Z, Lv.AtT wr z) ∧ Rd 73 wr R a c l (stp (pMany (pLit l) k) (anyF (Rl.flag Rt.odd)) s5) ∧ Pos l (stp (pMany (pLit l) k) (anyF (Rl.flag Rt.odd)) s5) ∧ Hid (∀ xs, Got (pMany (pLit l) k) s5 xs → Z.map Lv.l = xs.map Rl.l)) (fun v5 _ _ => N - (intOf v5).toNat)
  case atStart =>
    refine ⟨0, [], .slice none 0 0, rfl, by omega, rfl, V5, ⟨rfl, .inl ⟨rfl, rfl⟩⟩, H5, B5, y5, row5, fun _ h => by simp at h, ?_, ?_, fun xs hx => ?_⟩
    · rw [stp_many_zero]; exact R5
    · rw [stp_many_zero]; exact hP5
    · obtain ⟨_, _, _, _, hj⟩ := hx
      have := (ret_inv hj).1
      subst this; rfl
  case round =>
    obtain ⟨k, Z, v, rfl, hk, hZ, VW, own, HW, BW, YW, rowW, eachW, RW, PW, gW⟩ := hrel
    obtain ⟨x6, er, g6, QW, q6⟩ := RW.obj
    have d2 : wr.cell? ⟨R, 2, none⟩ = some (.int .i64 er) := by rw [heap_cell QW]; rfl
    have hend : (¬ k < N ∨ er ≠ 0) → Hid (stp (pRule l) (Rr.flag Rt.odd) st = stp (pMany (pLit l) k) (anyF (Rl.flag Rt.odd)) s5 ∧ ∀ (A : Option Addr) (C : Nat) (u : Rr), Got (pRule l) st u → Rv.r ⟨x1, x2, a3, c3, ks, x4, A, C, Z⟩ = Rr.r u) := fun hor => by
      by_cases hkN : k = N
      · subst hkN; exact ⟨HF.out, fun A C u hu => HG.out Z u gW.out A C hu⟩
      · have he : er ≠ 0 := by rcases hor with h | h; (· omega); exact h
        have hse : stp (pMany (pLit l) k) (anyF (Rl.flag Rt.odd)) s5 = .error er := by rw [q6]; unfold stOf; rw [if_neg he]
        have hfin := many_err hse hk
        refine ⟨by rw [HF.out, hfin, hse], fun A C u hu => ?_⟩
        exact (got_no (HF.out.trans hfin) hu).elim
    by_cases hlt' : k < N
    · have q2 : (k : Int) < (N : Int) := by omega
      by_cases he : er = 0
      · subst he
        have hlit := fun (u : Rl) (hu : Got (pLit l) (stp (pMany (pLit l) k) (anyF (Rl.flag Rt.odd)) s5) u) => got_lit Rt.odd hu
        have hst := stp_many_succ (pLit l) (Rl.flag Rt.odd) k s5
        have hst2 := st_lit l Rt.odd (stp (pMany (pLit l) k) (anyF (Rl.flag Rt.odd)) s5)
        have hP2 := pos_snd (f := Rl.flag Rt.odd) (snd_lit l) PW
        have hg2 : Hid (∀ y : Lv, (∀ u, Got (pLit l) (stp (pMany (pLit l) k) (anyF (Rl.flag Rt.odd)) s5) u → y.l = u.l) → ∀ xs, Got (pMany (pLit l) (k + 1)) s5 xs → (Z ++ [y]).map Lv.l = xs.map Rl.l) := fun y hy xs hx => by
          obtain ⟨ys, u, h1, h2, rfl⟩ := got_many_succ (f := Rl.flag Rt.odd) hx
          rw [List.map_append, List.map_append, gW.out ys h1, List.map_singleton, List.map_singleton, hy u h2]
        have hS9 : Hid (stp (pMany (pLit l) (k + 1)) (anyF (Rl.flag Rt.odd)) s5 = stp (pTerm l) Rt.odd (stp (pList l 48 (pTerm l)) (anyF Rt.odd) (stp (pText l) noF (stp (pTerm l) Rt.odd (stp (pMany (pLit l) k) (anyF (Rl.flag Rt.odd)) s5))))) := by
          show _ = _
          rw [hst, hst2]
        rw [← hst] at hP2
        have HLit := hideP hlit; have HP2 := hideP hP2
        clear hst hst2 hlit hP2 hend q6 gW HF HG
        generalize stp (pMany (pLit l) k) (anyF (Rl.flag Rt.odd)) s5 = sk at *
        have A0 := below_alloc wr (.cells #[.string .empty, .bool false, .int .i64 0, .string .empty, .string .empty, .slice none 0 0, .string .empty, .bool false, .int .i64 0, .string .empty] 80)
        have L0 := heap_alloc_new wr (.cells #[.string .empty, .bool false, .int .i64 0, .string .empty, .string .empty, .slice none 0 0, .string .empty, .bool false, .int .i64 0, .string .empty] 80)
        have E0 := RW.below A0
        have X0 : But R wr _ := But.of_below A0
        have hRM := RW.lt
        go_wp2_with fail
        refine (hM _ _ E0 PW).mono ?_; rintro e w6 ⟨t1, rfl, m1, E1, j1⟩
        have L1 := j1.heap (by omega) L0
        have X1 := X0.trans j1
        have P1 : Pos l (stp (pTerm l) Rt.odd sk) := pos_snd (f := Rt.odd) (snd_term l) PW
        generalize hMM : wr.heap.size = M at *
        have HM := hideP hMM; clear hMM
        have M1 := hideP m1
        clear A0 L0 E0 X0 j1 m1
        go_wp2_with (refine wpList_store_rec rfl 51 _ _ rfl M 0 10 4 80 (tv t1) #[str t1.v, .bool t1.k.num, .int .i64 t1.k.n, str t1.k.s, .string .empty, .slice none 0 0, .string .empty, .bool false, .int .i64 0, .string .empty] rfl rfl L1 rfl rfl (by decide) (by kernel_rfl) rfl rfl ?_; intro y1 I1 f1)
        have E1' := E1.but f1 (by omega)
        have X1' := X1.fresh f1 (by rw [HM.out]; exact Nat.le_refl _)
        clear L1 E1 X1 f1
        refine (hT _ _ E1').mono ?_; rintro e w7 ⟨t2, rfl, m2, E2, j2⟩
        have L2 := j2.heap (by omega) I1
        have X2 := X1'.trans j2
        have M2 := hideP m2
        clear I1 E1' X1' j2 m2
        go_wp2_with (refine wpList_store_cel rfl 9 _ _ rfl M 4 10 80 (str t2) #[str t1.v, .bool t1.k.num, .int .i64 t1.k.n, str t1.k.s, str t2, .slice none 0 0, .string .empty, .bool false, .int .i64 0, .string .empty] rfl rfl L2 rfl (by decide) (by kernel_rfl) rfl rfl ?_; intro y2 I2 f2)
        have E2' := E2.but f2 (by omega)
        have X2' := X2.fresh f2 (by rw [HM.out]; exact Nat.le_refl _)
        clear L2 E2 X2 f2
        refine (hL _ _ E2').mono ?_; rintro e w8 ⟨b3, d3, us, rfl, ro, m3, E3, j3⟩
        have L3 := j3.heap (by omega) I2
        have X3 := X2'.trans j3
        have M3 := hideP m3
        have P3 : Pos l (stp (pList l 48 (pTerm l)) (anyF Rt.odd) (stp (pText l) noF (stp (pTerm l) Rt.odd sk))) := pos_list (snd_term l)
        clear I2 E2' X2' j3 m3
        go_wp2_with (refine wpList_store_cel rfl 52 _ _ rfl M 5 10 80 (.slice b3 us.length d3) #[str t1.v, .bool t1.k.num, .int .i64 t1.k.n, str t1.k.s, str t2, .slice b3 us.length d3, .string .empty, .bool false, .int .i64 0, .string .empty] rfl rfl L3 rfl (by decide) (by kernel_rfl) rfl rfl ?_; intro y3 I3 f3)
        have E3' := E3.but f3 (by omega)
        have X3' := X3.fresh f3 (by rw [HM.out]; exact Nat.le_refl _)
        have ro3 := ro.safe (Safe.but f3 L3 (by decide))
        clear L3 E3 X3 f3 ro
        refine (hM _ _ E3' P3).mono ?_; rintro e w9 ⟨t4, rfl, m4, E4, j4⟩
        have L4 := j4.heap (by omega) I3
        have X4 := X3'.trans j4
        have M4 := hideP m4
        have ro4 := ro3.safe (E3'.safe j4 (by decide))
        clear I3 E3' X3' j4 m4 ro3
        have nK : (lv ⟨t1, t2, b3, d3, us, t4⟩).length = 10 := rfl
        go_upto_region 15 with (refine wpList_store_rec rfl 51 _ _ rfl M 6 10 4 80 (tv t4) #[str t1.v, .bool t1.k.num, .int .i64 t1.k.n, str t1.k.s, str t2, .slice b3 us.length d3, str t4.v, .bool t4.k.num, .int .i64 t4.k.n, str t4.k.s] rfl rfl L4 rfl rfl (by decide) (by kernel_rfl) rfl rfl ?_; intro y4 I4 f4)
        have X5 : But R wr y4 := X4.fresh f4 (by rw [HM.out]; exact Nat.le_refl _)
        have V5 := X5.heap (show S + 1 ≠ R by omega) VW
        have d10 : y4.cell? ⟨S + 1, 10, none⟩ = some v := (by rw [heap_cell V5]; rfl)
        have own5 := ownsRow_keep own (Safe.but X5 QW (by decide))
        have A5 := below_alloc y4 (.cells (lv ⟨t1, t2, b3, d3, us, t4⟩).toArray 80)
        have own6 := ownsRow_keep own5 (Safe.below (ty := 80) A5)
        have z5 : S + 1 + 1 ≤ y4.heap.size := Nat.le_trans YW (by rw [← HM.out]; exact X5.size)
        go_wp2_with (first
          | (refine wpList_load_all rfl 80 _ rfl M 10 80 (lv ⟨t1, t2, b3, d3, us, t4⟩) _ rfl I4 nK Try.underlying80 rfl iM ?_)
          | (refine wpList_build_one rfl 53 80 _ rfl (lv ⟨t1, t2, b3, d3, us, t4⟩) _ 10 136 rfl nK (by decide) (by decide) Try.underlying53 iL ?_)
          | (at_builtin; refine wpList_append_rec lK _ rfl _ _ 53 80 rfl _ 136 Try.underlying53 iL rfl (by decide) (S + 1 + 1) v Z [⟨t1, t2, b3, d3, us, t4⟩] (some ⟨y4.heap.size, 0, none⟩) 1 1 rfl own6 rfl rfl (row_new lK y4 _ 80 ⟨t1, t2, b3, d3, us, t4⟩ rfl) (Nat.le_trans z5 A5.size) (by have := hZ.out; simp only [List.length_cons, List.length_nil]; omega) ?_; intro v11 w11 o11 g11; have V11 := (g11.block (S + 1) (by have := A5.size; omega) (fun e => by have := own_high own6 _ e.symm; omega)).trans (below_heap A5 V5); have one11 : v11.oneCell' = true := (by obtain ⟨_, _, e, _⟩ := own_row (D := lK) (xs := Z ++ [⟨t1, t2, b3, d3, us, t4⟩]) o11 (by have := hZ.out; simp only [List.length_append, List.length_cons, List.length_nil]; omega); rw [e]; rfl))
          | (refine wpList_store_cel rfl 53 _ _ rfl (S + 1) 10 11 55 v11 #[str x1.v, .bool x1.k.num, .int .i64 x1.k.n, str x1.k.s, str x2, .slice a3 ks.length c3, str x4.v, .bool x4.k.num, .int .i64 x4.k.n, str x4.k.s, v11] rfl rfl V11 rfl (by decide) (by kernel_rfl) one11 rfl ?_; intro w12 V12 d12))
        have hb11 : But R w w11 := (BW.trans X5).grown rfl A5 g11 (fun j hj => by have := own_high own6 j hj; rw [HS.out]; omega)
        have sT : Safe 51 y4 w12 := ((Safe.below A5).trans (Safe.grown own6 g11 (by decide))).trans (Safe.but d12 V11 (by decide))
        have sW : Safe 51 wr w12 := (Safe.but X5 QW (by decide)).trans sT
        have H12 := d12.heap (show S ≠ S + 1 by omega) ((g11.block S (by have := A5.size; omega) (fun e => by have := own_high own6 _ e.symm; omega)).trans (below_heap A5 (X5.heap (show S ≠ R by omega) HW)))
        refine ⟨⟨k + 1, Z ++ [⟨t1, t2, b3, d3, us, t4⟩], v11, by simp, by omega, ?_, V12, ownsRow_keep o11 (Safe.but d12 V11 (by decide)), H12, hb11.fresh d12 (by rw [HS.out]; exact Nat.le_succ _), Nat.le_trans z5 (Nat.le_trans A5.size (Nat.le_trans g11.size d12.size)), rowW.safe sW, fun z hz => ?_, ?_, HP2.out, ?_⟩, by simp [intOf]; omega⟩
        · show _ = _
          have := hZ.out; simp [this]
        · rcases List.mem_append.1 hz with h | h
          · exact Lv.AtT.safe' (eachW z h) sW
          · rw [List.mem_singleton] at h; subst h
            exact RowT.safe (ro4.safe (Safe.but f4 L4 (by decide))) sT
        · rw [hS9.out]
          exact ((((E4.but f4 (by omega)).below A5).grown g11 (fun j hj => by have := own_high own6 j hj; omega))).but d12 (by omega)
        · exact hg2.out _ (fun u hu => by
            obtain ⟨h1, h2, h3, h4⟩ := HLit.out u hu
            rw [Lv.l, Rl.l, M1.out _ h1, M2.out _ h2, M3.out _ h3, M4.out _ h4])
      · have hq : (er == 0) = false := by simpa using he
        have hen := hend (.inr he)
        clear hend
        obtain ⟨A, C, rfl, hO, _⟩ := own_row (D := lK) (xs := Z) own (by have := hZ.out; omega)
        have VW' : wr.heap[S + 1]? = some (.cells (rv ⟨x1, x2, a3, c3, ks, x4, A, C, Z⟩).toArray 55) := VW
        go_wp2_with (first
          | (refine wpList_load_all rfl 55 _ rfl (S + 1) 11 55 (rv ⟨x1, x2, a3, c3, ks, x4, A, C, Z⟩) _ rfl VW' rfl Try.underlying55 rfl iN ?_)
          | (refine wpList_store_all rfl 55 _ _ rfl S 11 _ 55 (rv ⟨x1, x2, a3, c3, ks, x4, A, C, Z⟩) rfl rfl HW rfl rfl iN rfl ?_; intro wf Hf bf))
        have sT : Safe 51 wr wf := Safe.but bf HW (by decide)
        refine bodyPost_ret (results_cell (b := S) rfl rfl Hf Try.underlying55 rfl (by kernel_rfl)) rfl ⟨⟨x1, x2, a3, c3, ks, x4, A, C, Z⟩, rfl, ⟨rowW.safe sT, hO.safe (Safe.but bf HW (by decide)), fun z hz => Lv.AtT.safe' (eachW z hz) sT⟩, fun u hu => hen.out.2 A C u hu, ?_, BW.fresh bf (by rw [HS.out]; exact Nat.le_refl _)⟩
        rw [hen.out.1]; exact RW.but bf (by omega)
    · have q2 : ¬ (k : Int) < (N : Int) := by omega
      have hen := hend (.inl hlt')
      clear hend
      obtain ⟨A, C, rfl, hO, _⟩ := own_row (D := lK) (xs := Z) own (by have := hZ.out; omega)
      have VW' : wr.heap[S + 1]? = some (.cells (rv ⟨x1, x2, a3, c3, ks, x4, A, C, Z⟩).toArray 55) := VW
      go_wp2_with (first
        | (refine wpList_load_all rfl 55 _ rfl (S + 1) 11 55 (rv ⟨x1, x2, a3, c3, ks, x4, A, C, Z⟩) _ rfl VW' rfl Try.underlying55 rfl iN ?_)
        | (refine wpList_store_all rfl 55 _ _ rfl S 11 _ 55 (rv ⟨x1, x2, a3, c3, ks, x4, A, C, Z⟩) rfl rfl HW rfl rfl iN rfl ?_; intro wf Hf bf))
      have sT : Safe 51 wr wf := Safe.but bf HW (by decide)
      refine bodyPost_ret (results_cell (b := S) rfl rfl Hf Try.underlying55 rfl (by kernel_rfl)) rfl ⟨⟨x1, x2, a3, c3, ks, x4, A, C, Z⟩, rfl, ⟨rowW.safe sT, hO.safe (Safe.but bf HW (by decide)), fun z hz => Lv.AtT.safe' (eachW z hz) sT⟩, fun u hu => hen.out.2 A C u hu, ?_, BW.fresh bf (by rw [HS.out]; exact Nat.le_refl _)⟩
      rw [hen.out.1]; exact RW.but bf (by omega)
end Go.Proofs.Ytghhdbkgibpebaa
