/-
  What the reference's Decode does.
-/
import Derived.Test.YtghhdbkgibpebaaRd9
import Derived.Test.YtghhdbkgibpebaaRdr
import Derived.Test.YtghhdbkgibpebaaRt2
namespace Go.Proofs.Ytghhdbkgibpebaa
open Go.RowKit Go.Sort

theorem odd_hollow (t : Rt) (h : mayT t.t = true) : Rt.odd t = Rt.hollow t := by
  rcases t with ⟨_ | s | k⟩
  · rfl
  · show Rt.odd (Rt.var s) = Rt.hollow (Rt.var s)
    rw [hollow_var]
    cases s with
    | nil => rfl
    | cons x r =>
      have h' : fitsB (x :: r) = true := by simpa [Rt.t, mayT, k0, zeroK] using h
      simp [Rt.odd, h']
  · show Rt.odd (Rt.val k) = Rt.hollow (Rt.val k)
    rw [hollow_val]
    cases hz : zeroK k with
    | true =>
      have hk := (zeroK_iff k).1 hz
      subst hk; rfl
    | false =>
      have h' : goodB k = true := by simpa [Rt.t, mayT, hz] using h
      simp [Rt.odd, h']
theorem any_same (ts : List Rt) (h : (ts.map Rt.t).all mayT = true) : ts.any Rt.odd = ts.any Rt.hollow := by
  induction ts with
  | nil => rfl
  | cons t r ih =>
    simp only [List.map_cons, List.all_cons, Bool.and_eq_true] at h
    rw [List.any_cons, List.any_cons, odd_hollow t h.1, ih h.2]
theorem lit_same (x : Rl) (h : mayL x.l = true) : Rl.flag Rt.odd x = Rl.flag Rt.hollow x := by
  unfold mayL mayA Rl.l at h
  simp only [Bool.and_eq_true] at h
  unfold Rl.flag
  rw [odd_hollow _ h.1.1, odd_hollow _ h.1.2, any_same _ h.2.2]
theorem lits_same (xs : List Rl) (h : (xs.map Rl.l).all mayL = true) : xs.any (Rl.flag Rt.odd) = xs.any (Rl.flag Rt.hollow) := by
  induction xs with
  | nil => rfl
  | cons t r ih =>
    simp only [List.map_cons, List.all_cons, Bool.and_eq_true] at h
    rw [List.any_cons, List.any_cons, lit_same t h.1, ih h.2]
theorem rule_same (x : Rr) : (Rr.flag Rt.odd x || !mayR x.r) = x.bad := by
  unfold Rr.bad
  cases h : mayR x.r
  · simp
  · unfold mayR mayA Rr.r at h
    simp only [Bool.and_eq_true] at h
    unfold Rr.flag
    rw [odd_hollow _ h.1.1.1.1, odd_hollow _ h.1.1.1.2, any_same _ h.1.1.2.2, lits_same _ h.2]
end Go.Proofs.Ytghhdbkgibpebaa

namespace Go.Proofs.Ytghhdbkgibpebaa
open Go.RowKit Go.Sort

theorem rule3_err {l : List UInt8} {F : Rr → Bool} {st : St} {e : Int} (h : stp (pRule l) F st = .error e) : stp (pRule2 l) noF st = .error e := by
  rcases st with e' | ⟨y, g⟩
  · exact h
  · cases hj : pRule l y with
    | error e' => rw [stp_no hj] at h; rw [stp_no (p := pRule2 l) (by rw [pRule2, Pr.bnd_err hj])]; exact h
    | ok r => obtain ⟨v, j⟩ := r; rw [stp_ok hj] at h; cases h
theorem rule3_ok {l : List UInt8} {F : Rr → Bool} {st : St} {x : Int} {g : Bool} (h : stp (pRule l) F st = .ok (x, g)) (hc : Clean st) :
    ∃ u, Got (pRule l) st u ∧ g = F u ∧ (u.bad = true → stp (pRule2 l) noF st = .error 50) ∧ (u.bad = false → stp (pRule2 l) noF st = .ok (x, false)) ∧ ∀ v, Got (pRule2 l) st v → v = u := by
  rcases st with e' | ⟨y, g'⟩
  · cases h
  · cases hj : pRule l y with
    | error e' => rw [stp_no hj] at h; cases h
    | ok r =>
      obtain ⟨u, j⟩ := r
      rw [stp_ok hj, hc y g' rfl] at h
      cases h
      refine ⟨u, ⟨y, g', _, rfl, hj⟩, by simp, fun hb => ?_, fun hb => ?_, fun v hv => ?_⟩
      · refine stp_no ?_
        rw [pRule2, Pr.bnd_ok hj, hb]; rfl
      · rw [stp_ok (p := pRule2 l) (v := u) (by rw [pRule2, Pr.bnd_ok hj, hb]; rfl), hc y g' rfl]; rfl
      · obtain ⟨w, h1, h2⟩ := got_bnd noF hv
        obtain ⟨i, hi⟩ := got_ok h1
        rw [hj] at hi; cases hi
        obtain ⟨_, _, _, _, h4⟩ := h2
        cases hb : u.bad
        · rw [hb] at h4; exact (ret_inv h4).1.symm
        · rw [hb] at h4; cases h4
theorem dR_err {l : List UInt8} {e : Int} (h : stp (pProg l) noF (.ok (0, false)) = .error e) : dR l = ([], e) := by
  cases hj : pProg l 0 with
  | error e' => rw [stp_no hj] at h; cases h; unfold dR; rw [hj]
  | ok r => obtain ⟨v, j⟩ := r; rw [stp_ok hj] at h; cases h
theorem dR_some {l : List UInt8} {x : Int} {g : Bool} (h : stp (pProg l) noF (.ok (0, false)) = .ok (x, g)) : ∃ rs, Got (pProg l) (.ok (0, false)) rs ∧ dR l = if x = (l.length : Int) then (rs.map Rr.r, 0) else ([], 11) := by
  cases hj : pProg l 0 with
  | error e' => rw [stp_no hj] at h; cases h
  | ok r =>
    obtain ⟨v, j⟩ := r; rw [stp_ok hj] at h; cases h
    exact ⟨v, ⟨0, false, _, rfl, hj⟩, by unfold dR; rw [hj]⟩
/-- a rule laid and put behind the others -/
theorem tail5 {R : Nat} {a : Option Addr} {c : Nat} {l : List UInt8} {s : St} {w0 w5 w6 : World} {u : Value} {Z : List Rv} {t : Rv} (hR : Rd 73 w5 R a c l s) (hlt : R < w0.heap.size) (hB : But R w0 w5)
    (hown : w5.ownsRow w0.heap.size 55 rK.k u Z.length (Z.flatMap rK.enc)) (hat : ∀ z ∈ Z, Rv.AtT w5 z) (ht : Rv.AtT w5 t) (g : (w5.alloc (.cells (rv t).toArray 55)).grownBy w6 u.ownBlock) :
    But R w0 w6 ∧ Rd 73 w6 R a c l s ∧ ∀ z ∈ Z ++ [t], Rv.AtT w6 z := by
  have A5 := below_alloc w5 (.cells (rv t).toArray 55)
  have own6 := ownsRow_keep hown (Safe.below (ty := 55) A5)
  have hh := own_high own6
  have sf : ∀ ty, (ty ≠ 69 ∧ ty ≠ 55) → Safe ty w5 w6 := fun ty hn => (Safe.below A5).trans (Safe.grown own6 g hn.2)
  refine ⟨hB.grown rfl A5 g hh, (hR.below A5).grown g (fun j hj => by have := hh j hj; omega), fun z hz => ?_⟩
  rcases List.mem_append.1 hz with hz | hz
  · exact Rv.AtT.safe (hat z hz) sf
  · rw [List.mem_singleton] at hz; subst hz; exact Rv.AtT.safe ht sf

set_option maxRecDepth 100000 in
set_option maxHeartbeats 8000000 in
theorem rdecode_at (a : Option Addr) (c : Nat) (l : List UInt8) (w : World) (ha : Holds w a c l) (hl : l.length ≤ 281474976710656) :
    Calls Try.prog 25 #[.slice a l.length c] w fun e w' => ∃ a' c' ys, e = .returned (.tuple #[.slice a' (List.length ys) c', .int .i64 (dR l).2]) ∧ Row rK w' a' c' ys ∧ (∀ y ∈ ys, Rv.At w' y) ∧ ys.map Rv.r = (dR l).1 ∧ Below w.heap.size w w' := by
  have mixed : Try.prog.follows .mixedOrders = true := by kernel_rfl
  have B0 := below_alloc w (.cells #[.slice a l.length c, .int .i64 0, .int .i64 0, .bool false] 73)
  have V0 := heap_alloc_new w (.cells #[.slice a l.length c, .int .i64 0, .int .i64 0, .bool false] 73)
  have R0 : Rd 73 _ w.heap.size a c l (.ok (0, false)) := ⟨⟨0, 0, false, V0, rfl⟩, ha.below B0, fun ad hd hl => by
      have := cell_block (ha.2.2 ad hd 0 _ (cs_get l 0 hl)); rw [addr_add_block] at this; exact this, hl, fun y g hy => by cases hy; omega⟩
  have hc0 : Clean (.ok (0, false)) := fun x h hs => by cases hs; rfl
  have iN : (Try.prog.info? 55).map (·.size) = some 11 := by kernel_rfl
  have iZ : (Try.prog.info? 55).map (fun i => (i.zero, i.size, i.bytes)) = some (some (.agg #[.string .empty, .bool false, .int .i64 0, .string .empty, .string .empty, .slice none 0 0, .string .empty, .bool false, .int .i64 0, .string .empty, .slice none 0 0]), rK.k, 160) := by kernel_rfl
  go_enter Try.func25, Try.ntmps25
  go_wp2_with fail
  generalize w.alloc (.cells #[.slice a l.length c, .int .i64 0, .int .i64 0, .bool false] 73) = w0 at *
  have hlt := R0.lt
  have HB0 := hideP B0
  generalize hS : w.heap.size = S at *
  have HS := hideP hS; clear hS B0 V0 ha
  refine (rcount_r 768 S a c l _ w0 R0).mono ?_; rintro e w1 ⟨s, rfl, ⟨hs2, hs3⟩, R1, b1⟩
  have hs0 : 0 ≤ s ∧ s ≤ 1000000 := by
    rcases got_em (pCount l 768) (.ok (0, false)) with ⟨n, hn⟩ | ⟨hn, _⟩
    · have := count_le hn; rw [hs2 n hn]; omega
    · rw [hs3 hn]; omega
  obtain ⟨N, rfl⟩ := Int.eq_ofNat_of_zero_le hs0.1
  have hN : N ≤ 1000000 := by omega
  have hP1 := pos_count l 768 (.ok (0, false))
  have hC1 := clean_noF (p := pCount l 768) hc0
  have HL : Hid (stp (pProg l) noF (.ok (0, false)) = stp (pMany (pRule2 l) N) (anyF noF) (stp (pCount l 768) noF (.ok (0, false)))) := by
    show _ = _
    have := st_list (F := noF) (p := pRule2 l) (N : Int) hs2
    rw [Int.toNat_natCast] at this
    rw [anyF_no]; exact this
  have HG : Hid (∀ vs, Got (pProg l) (.ok (0, false)) vs → Got (pMany (pRule2 l) N) (stp (pCount l 768) noF (.ok (0, false))) vs) := fun vs hv => by
    have := got_list (p := pRule2 l) (vs := vs) (N : Int) hs2 hv
    rw [Int.toNat_natCast] at this; exact this
  clear hs2 hs3 hs0 R0 hc0
  generalize stp (pCount l 768) noF (.ok (0, false)) = s1 at *
  have hE := fun W s (h : Rd 73 W S a c l s) (hp : Pos l s) => rrule_r S a c l s W h hp
  have hY := fun x W (h : Rv.AtT W x) => right_at x W h.at_
  go_wp2_with fail
  go_loopw [6, 7, 8] (fun v6 v7 _ wr => ∃ (k : Nat) (Z : List Rv), v7 = .int .i64 (k : Int) ∧ k ≤ N ∧ Hid (Z.length = k) ∧ wr.ownsRow w0.heap.size 55 rK.k v6 Z.length (Z.flatMap rK.enc) ∧ (∀ z ∈ Z, Rv.AtT wr z) ∧ But S w0 wr ∧ Rd 73 wr S a c l (stp (pMany (pRule2 l) k) (anyF noF) s1) ∧ Pos l (stp (pMany (pRule2 l) k) (anyF noF) s1) ∧ Clean (stp (pMany (pRule2 l) k) (anyF noF) s1) ∧ Hid (∀ xs, Got (pMany (pRule2 l) k) s1 xs → List.map Rv.r Z = List.map Rr.r xs)) (fun _ v7 _ _ => N - (intOf v7).toNat)
  case atStart =>
    refine ⟨0, [], rfl, by omega, rfl, ⟨rfl, .inl ⟨rfl, rfl⟩⟩, fun _ h => by simp at h, b1, ?_, ?_, ?_, fun xs hx => ?_⟩
    · rw [stp_many_zero]; exact R1
    · rw [stp_many_zero]; exact hP1
    · rw [stp_many_zero]; exact hC1
    · obtain ⟨_, _, _, _, hj⟩ := hx
      have := (ret_inv hj).1
      subst this; rfl
  case round =>
    obtain ⟨k, Z, rfl, hk, hZ, hown, hat, hbt, hRd, hPo, hCl, hgot⟩ := hrel
    obtain ⟨x1, er, g1, Q1, q1⟩ := hRd.obj
    have d2 : wr.cell? ⟨S, 2, none⟩ = some (.int .i64 er) := by rw [heap_cell Q1]; rfl
    have BW : Below w.heap.size w wr := by
      have h1 : Below S w0 wr := hbt.lower (Nat.le_refl _) (by omega)
      rw [HS.out]
      exact HB0.out.trans h1
    by_cases hlt' : k < N
    · have q2 : (k : Int) < (N : Int) := by omega
      by_cases he : er = 0
      · subst he
        have hE1 := hE wr _ hRd hPo
        have hst := (stp_many_succ (pRule2 l) noF k s1).symm
        have hP2 := pos_snd (f := noF) (snd_rule2 l) hPo
        have hC2 := clean_noF (p := pRule2 l) hCl
        have hg2 : Hid (∀ t, (∀ v, Got (pRule2 l) (stp (pMany (pRule2 l) k) (anyF noF) s1) v → Rv.r t = Rr.r v) → ∀ xs, Got (pMany (pRule2 l) (k + 1)) s1 xs → List.map Rv.r (Z ++ [t]) = List.map Rr.r xs) := fun t ht xs hx => by
          obtain ⟨ys, x, h1, h2, rfl⟩ := got_many_succ (f := noF) hx
          rw [List.map_append, List.map_append, hgot.out ys h1]; simp only [List.map_cons, List.map_nil, ht x h2]
        rw [hst] at hP2 hC2
        have Hst := hideP hst; have HCl := hideP hCl
        clear hPo hst hE q1 hCl BW
        generalize stp (pMany (pRule2 l) k) (anyF noF) s1 = sk at *
        go_wp2_with fail
        refine hE1.mono ?_; rintro e w2 ⟨t, rfl, at2, hgt, R2, b2⟩
        obtain ⟨x6, e6, g6, Q2, q6⟩ := R2.obj
        have Hgt := hideP hgt; have Hq6 := hideP q6; clear hgt hE1 d2 q6
        have hlt2 := R2.lt
        have hB2 : But S w0 w2 := hbt.trans b2
        have hown2 := ownsRow_keep hown (Safe.but b2 Q1 (by decide))
        have hat2 : ∀ z ∈ Z, Rv.AtT w2 z := fun z hz => Rv.AtT.safe2 (hat z hz) (Safe.but b2 Q1 (by decide)) (Safe.but b2 Q1 (by decide))
        clear hown hat hRd Q1 b2 hbt
        have nK : (rv t).length = 11 := rfl
        have oK : (rv t).all (·.oneCell') = true := rfl
        go_upto_region 8 with (refine wpList_store_all rfl 55 _ _ rfl w2.heap.size 11 #[.string .empty, .bool false, .int .i64 0, .string .empty, .string .empty, .slice none 0 0, .string .empty, .bool false, .int .i64 0, .string .empty, .slice none 0 0] 55 (rv t) rfl rfl (heap_alloc_new w2 _) rfl nK iN oK ?_; intro w3 V3 b3)
        have B3 : Below w2.heap.size w2 w3 := (below_alloc w2 _).trans (b3.lower (Nat.le_refl _) (by simp))
        have Q3 := below_heap B3 Q2
        have R3 := R2.below B3
        have hB3 := hB2.below B3
        have own3 := ownsRow_keep hown2 (Safe.below B3)
        have hat3 : ∀ z ∈ Z, Rv.AtT w3 z := fun z hz => Rv.AtT.safe2 (hat2 z hz) (Safe.below B3) (Safe.below B3)
        have at3 := at2.safe2 (Safe.below B3) (Safe.below B3)
        clear b3 B3 Q2 R2 hB2 hown2 hat2 at2
        have hVS : w2.heap.size ≠ S := by omega
        generalize w2.heap.size = V at *
        have d2 : w3.cell? ⟨S, 2, none⟩ = some (.int .i64 e6) := by rw [heap_cell Q3]; rfl
        have d3 : w3.cell? ⟨S, 3, none⟩ = some (.bool g6) := by rw [heap_cell Q3]; rfl
        by_cases he6 : e6 = 0
        · subst he6
          have hq : ((0 : Int) == 0) = true := rfl
          obtain ⟨u, hu, hg, hb, hok, hv⟩ := rule3_ok Hq6.out HCl.out
          have hbad : u.bad = (g6 || !mayR (Rv.r t)) := by rw [← rule_same, ← hg, Hgt.out u hu]
          have hGt : Hid (∀ v, Got (pRule2 l) sk v → Rv.r t = Rr.r v) := fun v hv' => by rw [hv v hv']; exact Hgt.out u hu
          have Hb := hideP hb; have Hok := hideP hok; have Hbad := hideP hbad
          clear hb hok hbad hv hu hg
          cases g6
          · go_wp2_with (refine wpList_load_want (by rfl) 55 _ rfl V 11 55 (rv t) _ rfl V3 nK Try.underlying55 rfl iN ?_)
            refine (hY t w3 at3).mono ?_; rintro e w4 ⟨rfl, b4⟩
            have V4 := below_heap b4 V3; have Q4 := below_heap b4 Q3; have R4 := R3.below b4; have hB4 := hB3.below b4
            have own4 := ownsRow_keep own3 (Safe.below b4)
            have hat4 : ∀ z ∈ Z, Rv.AtT w4 z := fun z hz => Rv.AtT.safe2 (hat3 z hz) (Safe.below b4) (Safe.below b4)
            have at4 := at3.safe2 (Safe.below b4) (Safe.below b4)
            clear V3 Q3 R3 hB3 own3 hat3 at3 b4 d2 d3 hY
            cases hm : mayR (Rv.r t)
            · have hB : u.bad = true := by rw [Hbad.out, hm]; rfl
              go_wp2_with (first
                | (refine wpList_store_cel rfl 30 _ _ rfl S 2 4 73 (.int .i64 50) #[.slice a l.length c, .int .i64 x6, .int .i64 50, .bool false] rfl rfl Q4 rfl (by decide) (by kernel_rfl) rfl rfl ?_; intro w5 Q5 b5; have V5 := b5.heap hVS V4; have own5 := ownsRow_keep own4 (Safe.but b5 Q4 (by decide)); have hB5 := hB4.trans b5)
                | (refine wpList_load_all rfl 55 _ rfl V 11 55 (rv t) _ rfl V5 nK Try.underlying55 rfl iN ?_)
                | (refine wpList_build_one rfl 38 55 _ rfl (rv t) _ 11 160 rfl nK (by decide) (by decide) Try.underlying38 iZ ?_)
                | (at_builtin; refine wpList_append_rec rK _ rfl _ _ 38 55 rfl _ 160 Try.underlying38 iZ rfl (by decide) w0.heap.size u6 Z [t] (some ⟨w5.heap.size, 0, none⟩) 1 1 rfl (ownsRow_keep own5 (Safe.below (below_alloc w5 _))) rfl rfl (row_new rK w5 _ 55 t rfl) (Nat.le_trans hB5.size (below_alloc w5 _).size) (by have := hZ.out; simp only [List.length_cons, List.length_nil]; omega) ?_; intro v8 w8 o8 g8))
              have RE : Rd 73 w5 S a c l (stp (pMany (pRule2 l) (k + 1)) (anyF noF) s1) := by rw [← Hst.out, Hb.out hB]; exact R4.set b5 x6 50 false Q5 rfl (fun _ _ h => by cases h)
              obtain ⟨P1, P2, P3⟩ := tail5 (t := t) RE hlt hB5 own5 (fun z hz => Rv.AtT.safe2 (hat4 z hz) (R4.safe b5 (by decide)) (R4.safe b5 (by decide))) (at4.safe2 (R4.safe b5 (by decide)) (R4.safe b5 (by decide))) g8
              refine ⟨⟨k + 1, Z ++ [t], by simp, by omega, ?_, o8, P3, P1, P2, hP2, hC2, hg2.out t hGt.out⟩, by simp [intOf]; omega⟩
              show _ = _
              have := hZ.out; simp [this]
            · have hB : u.bad = false := by rw [Hbad.out, hm]; rfl
              go_wp2_with (first
                | (refine wpList_load_all rfl 55 _ rfl V 11 55 (rv t) _ rfl V4 nK Try.underlying55 rfl iN ?_)
                | (refine wpList_build_one rfl 38 55 _ rfl (rv t) _ 11 160 rfl nK (by decide) (by decide) Try.underlying38 iZ ?_)
                | (at_builtin; refine wpList_append_rec rK _ rfl _ _ 38 55 rfl _ 160 Try.underlying38 iZ rfl (by decide) w0.heap.size u6 Z [t] (some ⟨w4.heap.size, 0, none⟩) 1 1 rfl (ownsRow_keep own4 (Safe.below (below_alloc w4 _))) rfl rfl (row_new rK w4 _ 55 t rfl) (Nat.le_trans hB4.size (below_alloc w4 _).size) (by have := hZ.out; simp only [List.length_cons, List.length_nil]; omega) ?_; intro v8 w8 o8 g8))
              have RE : Rd 73 w4 S a c l (stp (pMany (pRule2 l) (k + 1)) (anyF noF) s1) := by rw [← Hst.out, Hok.out hB]; rw [Hq6.out] at R4; exact R4
              obtain ⟨P1, P2, P3⟩ := tail5 (t := t) RE hlt hB4 own4 hat4 at4 g8
              refine ⟨⟨k + 1, Z ++ [t], by simp, by omega, ?_, o8, P3, P1, P2, hP2, hC2, hg2.out t hGt.out⟩, by simp [intOf]; omega⟩
              show _ = _
              have := hZ.out; simp [this]
          · have hB : u.bad = true := by rw [Hbad.out]; rfl
            go_wp2_with (first
              | (refine wpList_store_cel rfl 30 _ _ rfl S 2 4 73 (.int .i64 50) #[.slice a l.length c, .int .i64 x6, .int .i64 50, .bool true] rfl rfl Q3 rfl (by decide) (by kernel_rfl) rfl rfl ?_; intro w5 Q5 b5; have V5 := b5.heap hVS V3; have own5 := ownsRow_keep own3 (Safe.but b5 Q3 (by decide)); have hB5 := hB3.trans b5)
              | (refine wpList_load_all rfl 55 _ rfl V 11 55 (rv t) _ rfl V5 nK Try.underlying55 rfl iN ?_)
              | (refine wpList_build_one rfl 38 55 _ rfl (rv t) _ 11 160 rfl nK (by decide) (by decide) Try.underlying38 iZ ?_)
              | (at_builtin; refine wpList_append_rec rK _ rfl _ _ 38 55 rfl _ 160 Try.underlying38 iZ rfl (by decide) w0.heap.size u6 Z [t] (some ⟨w5.heap.size, 0, none⟩) 1 1 rfl (ownsRow_keep own5 (Safe.below (below_alloc w5 _))) rfl rfl (row_new rK w5 _ 55 t rfl) (Nat.le_trans hB5.size (below_alloc w5 _).size) (by have := hZ.out; simp only [List.length_cons, List.length_nil]; omega) ?_; intro v8 w8 o8 g8))
            have RE : Rd 73 w5 S a c l (stp (pMany (pRule2 l) (k + 1)) (anyF noF) s1) := by rw [← Hst.out, Hb.out hB]; exact R3.set b5 x6 50 true Q5 rfl (fun _ _ h => by cases h)
            obtain ⟨P1, P2, P3⟩ := tail5 (t := t) RE hlt hB5 own5 (fun z hz => Rv.AtT.safe2 (hat3 z hz) (R3.safe b5 (by decide)) (R3.safe b5 (by decide))) (at3.safe2 (R3.safe b5 (by decide)) (R3.safe b5 (by decide))) g8
            refine ⟨⟨k + 1, Z ++ [t], by simp, by omega, ?_, o8, P3, P1, P2, hP2, hC2, hg2.out t hGt.out⟩, by simp [intOf]; omega⟩
            show _ = _
            have := hZ.out; simp [this]
        · have hq : (e6 == 0) = false := by simpa using he6
          have hso : stOf x6 e6 g6 = .error e6 := by unfold stOf; rw [if_neg he6]
          have Hse : Hid (stp (pRule2 l) noF sk = .error e6) := rule3_err (Hq6.out.trans hso)
          have Hso := hideP hso
          clear he6 hso
          go_wp2_with (first
            | (refine wpList_load_all rfl 55 _ rfl V 11 55 (rv t) _ rfl V3 nK Try.underlying55 rfl iN ?_)
            | (refine wpList_build_one rfl 38 55 _ rfl (rv t) _ 11 160 rfl nK (by decide) (by decide) Try.underlying38 iZ ?_)
            | (at_builtin; refine wpList_append_rec rK _ rfl _ _ 38 55 rfl _ 160 Try.underlying38 iZ rfl (by decide) w0.heap.size u6 Z [t] (some ⟨w3.heap.size, 0, none⟩) 1 1 rfl (ownsRow_keep own3 (Safe.below (below_alloc w3 _))) rfl rfl (row_new rK w3 _ 55 t rfl) (Nat.le_trans hB3.size (below_alloc w3 _).size) (by have := hZ.out; simp only [List.length_cons, List.length_nil]; omega) ?_; intro v8 w8 o8 g8))
          have RE : Rd 73 w3 S a c l (stp (pMany (pRule2 l) (k + 1)) (anyF noF) s1) := by rw [← Hst.out, Hse.out]; rw [Hq6.out, Hso.out] at R3; exact R3
          obtain ⟨P1, P2, P3⟩ := tail5 (t := t) RE hlt hB3 own3 hat3 at3 g8
          refine ⟨⟨k + 1, Z ++ [t], by simp, by omega, ?_, o8, P3, P1, P2, hP2, hC2, hg2.out t (fun v hv' => (got_no Hse.out hv').elim)⟩, by simp [intOf]; omega⟩
          show _ = _
          have := hZ.out; simp [this]
      · have hq : (er == 0) = false := by simpa using he
        have hq' : (er != 0) = true := by simpa using he
        have hD : Hid (dR l = ([], er)) := dR_err (HL.out.trans (many_err (by rw [q1]; unfold stOf; rw [if_neg he]) hk))
        clear he
        go_wp2_with fail
        go_quiet (fail)
        go_wp2_with fail
        go_ret2
        refine ⟨none, 0, [], ?_, Row.nil _ _, fun y hy => by simp at hy, ?_, Below.then BW (Grew.drewN wr nq).below⟩
        · rw [hD.out]; rfl
        · rw [hD.out]; rfl
    · have q2 : ¬ (k : Int) < (N : Int) := by omega
      by_cases he : er = 0
      · subst he
        obtain rfl : k = N := by omega
        obtain ⟨rs, hrs, hd⟩ := dR_some (HL.out.trans q1)
        have hx1 : x1 ≤ (l.length : Int) := (hPo x1 g1 q1).2
        have hys := hgot.out rs (HG.out rs hrs)
        obtain ⟨a', c', rfl, hrow, _⟩ := own_row hown (by have := hZ.out; omega)
        have d1 : wr.cell? ⟨S, 1, none⟩ = some (.int .i64 x1) := by rw [heap_cell Q1]; rfl
        have Hd := hideP hd; have Hys := hideP hys
        clear hd hys hrs q1
        by_cases hx2 : x1 < (l.length : Int)
        · have Hx : Hid (¬ x1 = (l.length : Int)) := by show ¬ _; omega
          go_wp2_with fail
          go_ret2
          refine ⟨none, 0, [], ?_, Row.nil _ _, fun y hy => by simp at hy, ?_, BW⟩
          · rw [Hd.out, if_neg Hx.out]; rfl
          · rw [Hd.out, if_neg Hx.out]; rfl
        · have Hx : Hid (x1 = (l.length : Int)) := by show _ = _; omega
          go_wp2_with fail
          go_ret2
          refine ⟨a', c', Z, ?_, hrow.row, fun y hy => (hat y hy).at_, ?_, BW⟩
          · rw [Hd.out, if_pos Hx.out]; rfl
          · rw [Hd.out, if_pos Hx.out]; exact Hys.out
      · have hq : (er == 0) = false := by simpa using he
        have hq' : (er != 0) = true := by simpa using he
        have hD : Hid (dR l = ([], er)) := dR_err (HL.out.trans (many_err (by rw [q1]; unfold stOf; rw [if_neg he]) hk))
        clear he
        go_wp2_with fail
        go_quiet (fail)
        go_wp2_with fail
        go_ret2
        refine ⟨none, 0, [], ?_, Row.nil _ _, fun y hy => by simp at hy, ?_, Below.then BW (Grew.drewN wr nq).below⟩
        · rw [hD.out]; rfl
        · rw [hD.out]; rfl
end Go.Proofs.Ytghhdbkgibpebaa
