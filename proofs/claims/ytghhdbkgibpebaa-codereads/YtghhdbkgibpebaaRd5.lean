/-
  The program reads a list.
-/
import Derived.Test.YtghhdbkgibpebaaRd4
import Derived.Test.YtghhdbkgibpebaaMn
import Derived.Deep.LoopGhost
namespace Go.Proofs.Ytghhdbkgibpebaa
open Go.RowKit Go.Sort


set_option maxRecDepth 100000 in
set_option maxHeartbeats 4000000 in
theorem readListConst_r (m : Int) (p : Pr K) (f : K → Bool) (B : K → List UInt8) (J : St → Prop) (R : Nat) (a : Option Addr) (c : Nat) (l : List UInt8) (st : St) (w : World) (h : Rd 69 w R a c l st) (hm : m ≤ 1000000)
    (hE : ∀ W s, Rd 69 W R a c l s → Pos l s → J s → Calls Try.prog 67 #[ptr R] W fun e w' => ∃ t : K, e = .returned (kval t) ∧ (∀ v, Got p s v → t = v) ∧ Rd 69 w' R a c l (stp p f s) ∧ But R W w')
    (hJ0 : J (stp (pCount l m) noF st)) (hJ1 : ∀ s, J s → J (stp p f s)) (hB : Snd l p B) :
    Calls Try.prog 66 #[ptr R, .int .i64 m, .func (.func 67) #[ptr R] #[]] w fun e w' => ∃ a' c' ys, e = .returned (.slice a' (List.length ys) c') ∧ RowT kK 49 w' a' c' ys ∧ (∀ vs, Got (pList l m p) st vs → ys = vs) ∧ Rd 69 w' R a c l (stp (pList l m p) (anyF f) st) ∧ But R w w' := by
  have eg : ∀ args w, (callFunc 67 args).run Try.prog w = .ok (.enter 67 args) w := enters_of Try.func67 (by kernel_rfl) rfl
  have hC := count_r m R a c l st w h
  have hlt := h.lt
  have iN : (Try.prog.info? 49).map (·.size) = some 3 := by kernel_rfl
  have iZ : (Try.prog.info? 49).map (fun i => (i.zero, i.size, i.bytes)) = some (some (.agg #[.bool false, .int .i64 0, .string .empty]), kK.k, 32) := by kernel_rfl
  go_enter Try.func66, Try.ntmps66
  go_wp2_with fail
  refine hC.mono ?_; rintro e w1 ⟨s, rfl, ⟨hs2, hs3⟩, R1, b1⟩
  have hs0 : 0 ≤ s ∧ s ≤ 1000000 := by
    rcases got_em (pCount l m) st with ⟨n, hn⟩ | ⟨hn, _⟩
    · have := count_le hn; rw [hs2 n hn]; omega
    · rw [hs3 hn]; omega
  obtain ⟨N, rfl⟩ := Int.eq_ofNat_of_zero_le hs0.1
  have hN : N ≤ 1000000 := by omega
  have hP1 := pos_count l m st
  have HL := hideP (fun F => st_list (F := F) (p := p) (N : Int) hs2)
  have HG := hideP (fun vs => got_list (p := p) (vs := vs) (N : Int) hs2)
  simp only [Int.toNat_natCast] at HL HG
  clear hC hs2 hs3 hs0 h hm
  generalize stp (pCount l m) noF st = s1 at *
  go_wp2_with fail
  go_loopw [7, 8, 12] (fun v7 _ v12 wr => ∃ (k : Nat) (Z : List K), v12 = .int .i64 (k : Int) ∧ k ≤ N ∧ Hid (Z.length = k) ∧ wr.ownsRow w.heap.size 49 kK.k v7 Z.length (Z.flatMap kK.enc) ∧ But R w wr ∧ Rd 69 wr R a c l (stp (pMany p k) (anyF f) s1) ∧ Pos l (stp (pMany p k) (anyF f) s1) ∧ J (stp (pMany p k) (anyF f) s1) ∧ Hid (∀ xs, Got (pMany p k) s1 xs → Z = xs)) (fun _ _ v12 _ => N - (intOf v12).toNat)
  case atStart =>
    refine ⟨0, [], rfl, by omega, rfl, ⟨rfl, .inl ⟨rfl, rfl⟩⟩, b1, ?_, ?_, ?_, fun xs hx => ?_⟩
    · rw [stp_many_zero]; exact R1
    · rw [stp_many_zero]; exact hP1
    · rw [stp_many_zero]; exact hJ0
    · obtain ⟨_, _, _, _, hj⟩ := hx
      have := (ret_inv hj).1
      subst this; rfl
  case round =>
    obtain ⟨k, Z, rfl, hk, hZ, hown, hbt, hRd, hPo, hJ, hgot⟩ := hrel
    by_cases hlt' : k < N
    · have q2 : (k : Int) < (N : Int) := by omega
      have hE1 := hE wr _ hRd hPo hJ
      have hst := (stp_many_succ p f k s1).symm
      have hP2 := pos_snd (f := f) hB hPo
      have hJ2 := hJ1 _ hJ
      have hg2 : Hid (∀ t, (∀ v, Got p (stp (pMany p k) (anyF f) s1) v → t = v) → ∀ xs, Got (pMany p (k + 1)) s1 xs → (Z ++ [t]) = xs) := fun t ht xs hx => by
        obtain ⟨ys, x, h1, h2, rfl⟩ := got_many_succ (f := f) hx
        rw [hgot.out ys h1, ht x h2]
      rw [hst] at hE1 hP2 hJ2
      have Hst := hideP hst
      clear hJ hPo hst hE
      generalize stp (pMany p k) (anyF f) s1 = sk at *
      go_wp2_with fail
      refine hE1.mono ?_; rintro e w2 ⟨t, rfl, hgt, R2, b2⟩
      obtain ⟨x2, er, g2, Q2, q3⟩ := R2.obj
      have Hgt := hideP hgt; clear hgt hE1
      have hlt2 := R2.lt
      have hB2 : But R w w2 := hbt.trans b2
      obtain ⟨_, _, _, Q1, _⟩ := hRd.obj
      have S2 : Safe 49 wr w2 := Safe.but b2 Q1 (by decide)
      have hown2 := ownsRow_keep hown S2

      clear hown hRd Q1 S2 b2 hbt
      have hQ : ∀ W, But w2.heap.size (w2.alloc (.cells #[.bool false, .int .i64 0, .string .empty] 49)) W → W.cell? ⟨R, 2, none⟩ = some (.int .i64 er) := fun W hW => by
        rw [heap_cell (hW.heap (by omega) (below_heap (below_alloc w2 _) Q2))]; rfl
      have hF : ∀ W, But w2.heap.size (w2.alloc (.cells #[.bool false, .int .i64 0, .string .empty] 49)) W → Below w2.heap.size w2 W := fun W hW => (below_alloc w2 _).trans (hW.lower (Nat.le_refl _) (by simp))
      have oK : (kv t).all (·.oneCell') = true := rfl
      have nK : (kv t).length = 3 := rfl
      by_cases he : er = 0
      · have hq : (er != 0) = false := by simp [he]
        have Hq3 := hideP q3; have He := hideP he; clear q3 he
        go_wp2_with (first
          | (refine wpList_store_all rfl 49 _ _ rfl w2.heap.size 3 #[.bool false, .int .i64 0, .string .empty] 49 (kv t) rfl rfl (heap_alloc_new w2 _) rfl nK iN oK ?_; intro w3 V3 b3; have d3 := hQ w3 b3; have B3 := hF w3 b3)
          | (refine wpList_load_all rfl 49 _ rfl w2.heap.size 3 49 (kv t) _ rfl V3 nK Try.underlying49 rfl iN ?_)
          | (at_builtin; refine wpList_append_rec kK _ rfl _ _ 22 49 rfl _ 32 Try.underlying22 iZ rfl (by decide) w.heap.size u7 Z [t] (some ⟨w3.heap.size, 0, none⟩) 1 1 rfl (ownsRow_keep hown2 (Safe.below (Below.then B3 (below_alloc w3 _)))) rfl rfl (row_new kK w3 _ 49 t rfl) (Nat.le_trans hB2.size (Nat.le_trans B3.size (below_alloc w3 _).size)) (by have := hZ.out; simp only [List.length_cons, List.length_nil]; omega) ?_; intro v4 w4 o4 g4))
        have B34 := Below.then B3 (below_alloc w3 (.cells (kv t).toArray 49))
        have hown3 := ownsRow_keep hown2 (Safe.below (ty := 49) B34)
        have BG : Below w.heap.size w3 w4 := by
          have h1 : Below w.heap.size w3 (w3.alloc (.cells (kv t).toArray 49)) := (below_alloc w3 _).mono (Nat.le_trans hB2.size B3.size)
          refine h1.trans ((Below.refl _ _).grown g4 (Nat.le_trans hB2.size B34.size) fun j hj => ?_)
          rcases hown3.2 with ⟨h0, _⟩ | ⟨gg, cap, cur, hv, hb, _⟩
          · rw [h0] at hj; cases hj
          · rw [hv] at hj; cases hj; exact hb
        have hneR : some R ≠ u7.ownBlock := fun e => by
          rcases hown3.2 with ⟨h0, _⟩ | ⟨gg, cap, cur, hv, hb, _⟩
          · rw [h0] at e; cases e
          · rw [hv] at e
            have : R = gg := by cases e; rfl
            omega
        have BR : But R w w4 := ⟨(g4.os.trans B34.os).trans hB2.os, (g4.tape.trans B34.tape).trans hB2.tape, (g4.output.trans B34.output).trans hB2.output, Nat.le_trans hB2.size (Nat.le_trans B34.size g4.size), fun j hj hn => by
          rw [BG.block j hj, B3.block j (Nat.lt_of_lt_of_le hj hB2.size), hB2.block j hj hn]⟩
        have hR4 : Rd 69 w4 R a c l (stp (pMany p (k + 1)) (anyF f) s1) := by
          have h3 := R2.below B34
          obtain ⟨y1, y2, y3, y4, y5⟩ := h3.obj
          refine ⟨⟨y1, y2, y3, ?_, y5⟩, ?_, h3.low, h3.len, h3.rng⟩
          · rw [g4.block R (heap_lt y4) hneR]; exact y4
          · refine ⟨h3.holds.1, h3.holds.2.1, fun ad ha j u hu => ?_⟩
            have hc := h3.holds.2.2 ad ha j u hu
            have hj : 0 < l.length := by have := (List.getElem?_eq_some_iff.1 hu).1; rw [cs_length] at this; omega
            have hlw := h3.low ad ha hj
            rw [World.cell?_of_block (w := w3.alloc (.cells (kv t).toArray 49)) (g4.block _ (cell_block hc) (by
              rw [addr_add_block]; intro e
              rcases hown3.2 with ⟨h0, _⟩ | ⟨gg, cap, cur, hv, hb, _⟩
              · rw [h0] at e; cases e
              · rw [hv] at e
                have : ad.block = gg := by cases e; rfl
                omega))]
            exact hc
        go_wp2_with fail
        refine ⟨⟨k + 1, Z ++ [t], by simp, by omega, ?_, o4, BR, hR4, hP2, hJ2, hg2.out t Hgt.out⟩, by simp [intOf]; omega⟩
        · show _ = _
          have := hZ.out; simp [this]
        
      · have hq : (er != 0) = true := by simpa using he
        have hse : stp (pMany p (k + 1)) (anyF f) s1 = .error er := by rw [q3]; unfold stOf; rw [if_neg he]
        have hfin := many_err hse (show k + 1 ≤ N by omega)
        have Hfin := hideP hfin; have Hse := hideP hse
        clear q3 he hfin hse
        go_wp2_with (refine wpList_store_all rfl 49 _ _ rfl w2.heap.size 3 #[.bool false, .int .i64 0, .string .empty] 49 (kv t) rfl rfl (heap_alloc_new w2 _) rfl nK iN oK ?_; intro w3 V3 b3; have d3 := hQ w3 b3; have B3 := hF w3 b3)
        go_ret
        refine ⟨none, 0, [], rfl, RowT.nil _ _ _, fun vs hv => ?_, ?_, hB2.below B3⟩
        · exact (got_no Hfin.out (HG.out vs hv)).elim
        · rw [HL.out, Hfin.out, ← Hse.out]; exact R2.below B3
    · have q2 : ¬ (k : Int) < (N : Int) := by omega
      obtain rfl : k = N := by omega
      obtain ⟨a', c', rfl, hrow, _⟩ := own_row hown (by have := hZ.out; omega)
      go_wp2_with fail
      go_ret
      exact ⟨a', c', Z, rfl, hrow, fun vs hv => hgot.out vs (HG.out vs hv), by rw [HL.out]; exact hRd, hbt⟩


set_option maxRecDepth 100000 in
set_option maxHeartbeats 4000000 in
theorem readListTerm_r (m : Int) (p : Pr Rt) (f : Rt → Bool) (B : Rt → List UInt8) (J : St → Prop) (R : Nat) (a : Option Addr) (c : Nat) (l : List UInt8) (st : St) (w : World) (h : Rd 69 w R a c l st) (hm : m ≤ 1000000)
    (hE : ∀ W s, Rd 69 W R a c l s → Pos l s → J s → Calls Try.prog 86 #[ptr R] W fun e w' => ∃ t : Tm, e = .returned (tval t) ∧ (∀ v, Got p s v → t = Rt.t v) ∧ Rd 69 w' R a c l (stp p f s) ∧ But R W w')
    (hJ0 : J (stp (pCount l m) noF st)) (hJ1 : ∀ s, J s → J (stp p f s)) (hB : Snd l p B) :
    Calls Try.prog 87 #[ptr R, .int .i64 m, .func (.func 86) #[ptr R] #[]] w fun e w' => ∃ a' c' ys, e = .returned (.slice a' (List.length ys) c') ∧ RowT tK 51 w' a' c' ys ∧ (∀ vs, Got (pList l m p) st vs → ys = List.map Rt.t vs) ∧ Rd 69 w' R a c l (stp (pList l m p) (anyF f) st) ∧ But R w w' := by
  have eg : ∀ args w, (callFunc 86 args).run Try.prog w = .ok (.enter 86 args) w := enters_of Try.func86 (by kernel_rfl) rfl
  have hC := count_r m R a c l st w h
  have hlt := h.lt
  have iN : (Try.prog.info? 51).map (·.size) = some 4 := by kernel_rfl
  have iZ : (Try.prog.info? 51).map (fun i => (i.zero, i.size, i.bytes)) = some (some (.agg #[.string .empty, .bool false, .int .i64 0, .string .empty]), tK.k, 48) := by kernel_rfl
  go_enter Try.func87, Try.ntmps87
  go_wp2_with fail
  refine hC.mono ?_; rintro e w1 ⟨s, rfl, ⟨hs2, hs3⟩, R1, b1⟩
  have hs0 : 0 ≤ s ∧ s ≤ 1000000 := by
    rcases got_em (pCount l m) st with ⟨n, hn⟩ | ⟨hn, _⟩
    · have := count_le hn; rw [hs2 n hn]; omega
    · rw [hs3 hn]; omega
  obtain ⟨N, rfl⟩ := Int.eq_ofNat_of_zero_le hs0.1
  have hN : N ≤ 1000000 := by omega
  have hP1 := pos_count l m st
  have HL := hideP (fun F => st_list (F := F) (p := p) (N : Int) hs2)
  have HG := hideP (fun vs => got_list (p := p) (vs := vs) (N : Int) hs2)
  simp only [Int.toNat_natCast] at HL HG
  clear hC hs2 hs3 hs0 h hm
  generalize stp (pCount l m) noF st = s1 at *
  go_wp2_with fail
  go_loopw [7, 8, 12] (fun v7 _ v12 wr => ∃ (k : Nat) (Z : List Tm), v12 = .int .i64 (k : Int) ∧ k ≤ N ∧ Hid (Z.length = k) ∧ wr.ownsRow w.heap.size 51 tK.k v7 Z.length (Z.flatMap tK.enc) ∧ But R w wr ∧ Rd 69 wr R a c l (stp (pMany p k) (anyF f) s1) ∧ Pos l (stp (pMany p k) (anyF f) s1) ∧ J (stp (pMany p k) (anyF f) s1) ∧ Hid (∀ xs, Got (pMany p k) s1 xs → Z = List.map Rt.t xs)) (fun _ _ v12 _ => N - (intOf v12).toNat)
  case atStart =>
    refine ⟨0, [], rfl, by omega, rfl, ⟨rfl, .inl ⟨rfl, rfl⟩⟩, b1, ?_, ?_, ?_, fun xs hx => ?_⟩
    · rw [stp_many_zero]; exact R1
    · rw [stp_many_zero]; exact hP1
    · rw [stp_many_zero]; exact hJ0
    · obtain ⟨_, _, _, _, hj⟩ := hx
      have := (ret_inv hj).1
      subst this; rfl
  case round =>
    obtain ⟨k, Z, rfl, hk, hZ, hown, hbt, hRd, hPo, hJ, hgot⟩ := hrel
    by_cases hlt' : k < N
    · have q2 : (k : Int) < (N : Int) := by omega
      have hE1 := hE wr _ hRd hPo hJ
      have hst := (stp_many_succ p f k s1).symm
      have hP2 := pos_snd (f := f) hB hPo
      have hJ2 := hJ1 _ hJ
      have hg2 : Hid (∀ t, (∀ v, Got p (stp (pMany p k) (anyF f) s1) v → t = Rt.t v) → ∀ xs, Got (pMany p (k + 1)) s1 xs → (Z ++ [t]) = List.map Rt.t xs) := fun t ht xs hx => by
        obtain ⟨ys, x, h1, h2, rfl⟩ := got_many_succ (f := f) hx
        rw [List.map_append, hgot.out ys h1, ht x h2]; rfl
      rw [hst] at hE1 hP2 hJ2
      have Hst := hideP hst
      clear hJ hPo hst hE
      generalize stp (pMany p k) (anyF f) s1 = sk at *
      go_wp2_with fail
      refine hE1.mono ?_; rintro e w2 ⟨t, rfl, hgt, R2, b2⟩
      obtain ⟨x2, er, g2, Q2, q3⟩ := R2.obj
      have Hgt := hideP hgt; clear hgt hE1
      have hlt2 := R2.lt
      have hB2 : But R w w2 := hbt.trans b2
      obtain ⟨_, _, _, Q1, _⟩ := hRd.obj
      have S2 : Safe 51 wr w2 := Safe.but b2 Q1 (by decide)
      have hown2 := ownsRow_keep hown S2

      clear hown hRd Q1 S2 b2 hbt
      have hQ : ∀ W, But w2.heap.size (w2.alloc (.cells #[.string .empty, .bool false, .int .i64 0, .string .empty] 51)) W → W.cell? ⟨R, 2, none⟩ = some (.int .i64 er) := fun W hW => by
        rw [heap_cell (hW.heap (by omega) (below_heap (below_alloc w2 _) Q2))]; rfl
      have hF : ∀ W, But w2.heap.size (w2.alloc (.cells #[.string .empty, .bool false, .int .i64 0, .string .empty] 51)) W → Below w2.heap.size w2 W := fun W hW => (below_alloc w2 _).trans (hW.lower (Nat.le_refl _) (by simp))
      have oK : (tv t).all (·.oneCell') = true := rfl
      have nK : (tv t).length = 4 := rfl
      by_cases he : er = 0
      · have hq : (er != 0) = false := by simp [he]
        have Hq3 := hideP q3; have He := hideP he; clear q3 he
        go_wp2_with (first
          | (refine wpList_store_all rfl 51 _ _ rfl w2.heap.size 4 #[.string .empty, .bool false, .int .i64 0, .string .empty] 51 (tv t) rfl rfl (heap_alloc_new w2 _) rfl nK iN oK ?_; intro w3 V3 b3; have d3 := hQ w3 b3; have B3 := hF w3 b3)
          | (refine wpList_load_all rfl 51 _ rfl w2.heap.size 4 51 (tv t) _ rfl V3 nK Try.underlying51 rfl iN ?_)
          | (at_builtin; refine wpList_append_rec tK _ rfl _ _ 52 51 rfl _ 48 Try.underlying52 iZ rfl (by decide) w.heap.size u7 Z [t] (some ⟨w3.heap.size, 0, none⟩) 1 1 rfl (ownsRow_keep hown2 (Safe.below (Below.then B3 (below_alloc w3 _)))) rfl rfl (row_new tK w3 _ 51 t rfl) (Nat.le_trans hB2.size (Nat.le_trans B3.size (below_alloc w3 _).size)) (by have := hZ.out; simp only [List.length_cons, List.length_nil]; omega) ?_; intro v4 w4 o4 g4))
        have B34 := Below.then B3 (below_alloc w3 (.cells (tv t).toArray 51))
        have hown3 := ownsRow_keep hown2 (Safe.below (ty := 51) B34)
        have BG : Below w.heap.size w3 w4 := by
          have h1 : Below w.heap.size w3 (w3.alloc (.cells (tv t).toArray 51)) := (below_alloc w3 _).mono (Nat.le_trans hB2.size B3.size)
          refine h1.trans ((Below.refl _ _).grown g4 (Nat.le_trans hB2.size B34.size) fun j hj => ?_)
          rcases hown3.2 with ⟨h0, _⟩ | ⟨gg, cap, cur, hv, hb, _⟩
          · rw [h0] at hj; cases hj
          · rw [hv] at hj; cases hj; exact hb
        have hneR : some R ≠ u7.ownBlock := fun e => by
          rcases hown3.2 with ⟨h0, _⟩ | ⟨gg, cap, cur, hv, hb, _⟩
          · rw [h0] at e; cases e
          · rw [hv] at e
            have : R = gg := by cases e; rfl
            omega
        have BR : But R w w4 := ⟨(g4.os.trans B34.os).trans hB2.os, (g4.tape.trans B34.tape).trans hB2.tape, (g4.output.trans B34.output).trans hB2.output, Nat.le_trans hB2.size (Nat.le_trans B34.size g4.size), fun j hj hn => by
          rw [BG.block j hj, B3.block j (Nat.lt_of_lt_of_le hj hB2.size), hB2.block j hj hn]⟩
        have hR4 : Rd 69 w4 R a c l (stp (pMany p (k + 1)) (anyF f) s1) := by
          have h3 := R2.below B34
          obtain ⟨y1, y2, y3, y4, y5⟩ := h3.obj
          refine ⟨⟨y1, y2, y3, ?_, y5⟩, ?_, h3.low, h3.len, h3.rng⟩
          · rw [g4.block R (heap_lt y4) hneR]; exact y4
          · refine ⟨h3.holds.1, h3.holds.2.1, fun ad ha j u hu => ?_⟩
            have hc := h3.holds.2.2 ad ha j u hu
            have hj : 0 < l.length := by have := (List.getElem?_eq_some_iff.1 hu).1; rw [cs_length] at this; omega
            have hlw := h3.low ad ha hj
            rw [World.cell?_of_block (w := w3.alloc (.cells (tv t).toArray 51)) (g4.block _ (cell_block hc) (by
              rw [addr_add_block]; intro e
              rcases hown3.2 with ⟨h0, _⟩ | ⟨gg, cap, cur, hv, hb, _⟩
              · rw [h0] at e; cases e
              · rw [hv] at e
                have : ad.block = gg := by cases e; rfl
                omega))]
            exact hc
        go_wp2_with fail
        refine ⟨⟨k + 1, Z ++ [t], by simp, by omega, ?_, o4, BR, hR4, hP2, hJ2, hg2.out t Hgt.out⟩, by simp [intOf]; omega⟩
        · show _ = _
          have := hZ.out; simp [this]
        
      · have hq : (er != 0) = true := by simpa using he
        have hse : stp (pMany p (k + 1)) (anyF f) s1 = .error er := by rw [q3]; unfold stOf; rw [if_neg he]
        have hfin := many_err hse (show k + 1 ≤ N by omega)
        have Hfin := hideP hfin; have Hse := hideP hse
        clear q3 he hfin hse
        go_wp2_with (refine wpList_store_all rfl 51 _ _ rfl w2.heap.size 4 #[.string .empty, .bool false, .int .i64 0, .string .empty] 51 (tv t) rfl rfl (heap_alloc_new w2 _) rfl nK iN oK ?_; intro w3 V3 b3; have d3 := hQ w3 b3; have B3 := hF w3 b3)
        go_ret
        refine ⟨none, 0, [], rfl, RowT.nil _ _ _, fun vs hv => ?_, ?_, hB2.below B3⟩
        · exact (got_no Hfin.out (HG.out vs hv)).elim
        · rw [HL.out, Hfin.out, ← Hse.out]; exact R2.below B3
    · have q2 : ¬ (k : Int) < (N : Int) := by omega
      obtain rfl : k = N := by omega
      obtain ⟨a', c', rfl, hrow, _⟩ := own_row hown (by have := hZ.out; omega)
      go_wp2_with fail
      go_ret
      exact ⟨a', c', Z, rfl, hrow, fun vs hv => hgot.out vs (HG.out vs hv), by rw [HL.out]; exact hRd, hbt⟩

end Go.Proofs.Ytghhdbkgibpebaa
