/-
  Whether two lists of terms, two rules, two programs are the same: what the reference answers.
-/
import Derived.Test.YtcogjphoceaejaaDoorLs9
import Derived.Deep.Cut
namespace Go.Proofs.YtcogjphoceaejaaDoor
open Go.RowKit Go.Lib Go.Shelf

set_option maxHeartbeats 2000000 in
theorem rterms_at (a a' : Option Addr) (c c' : Nat) (xs ys : List Tm) (w : World) (hx : Row tK w a c xs) (hy : Row tK w a' c' ys) :
    Calls Tryd.prog 37 #[.slice a xs.length c, .slice a' ys.length c'] w fun e w' => e = .returned (.bool (sameTs xs ys)) ∧ Grew w w' := by
  have mixed : Tryd.prog.follows .mixedOrders = true := by kernel_rfl
  have b1 := hx.few; have b2 := hy.few
  by_cases hl : xs.length = ys.length
  rotate_left
  · have q0 : ((xs.length : Int) != (ys.length : Int)) = true := by simp; omega
    have hno : sameTs xs ys = false := sameTs_no fun h => hl (by rw [h])
    rw [hno]
    go_enter Tryd.func37, Tryd.ntmps37
    go_wp2_with fail
    go_ret
    exact ⟨rfl, Grew.refl _⟩
  · have q0 : ((xs.length : Int) != (ys.length : Int)) = false := by simp; omega
    have Hl := hideP hl; clear hl
    go_enter Tryd.func37, Tryd.ntmps37
    go_wp2_with fail
    go_loopw [5] (fun v wr => ∃ k : Nat, v = .int .i64 (k : Int) ∧ k ≤ xs.length ∧ Hid (∀ j (h1 : j < xs.length) (h2 : j < ys.length), j < k → xs[j] = ys[j]) ∧ Grew w wr) (fun v _ => xs.length - (intOf v).toNat)
    case atStart => exact ⟨0, rfl, by omega, fun j _ _ h => absurd h (by omega), Grew.refl _⟩
    case round =>
      obtain ⟨k, rfl, hk, hev, hg⟩ := hrel
      by_cases hlt : k < xs.length
      · have q2 : (k : Int) < (xs.length : Int) := by omega
        have hlt' : k < ys.length := by have := Hl.out; omega
        have q3 : (k : Int) < (ys.length : Int) := by omega
        obtain ⟨P1, O1, rfl⟩ := hx.addr (Nat.lt_of_le_of_lt (Nat.zero_le _) hlt)
        obtain ⟨P2, O2, rfl⟩ := hy.addr (Nat.lt_of_le_of_lt (Nat.zero_le _) hlt')
        have r1 := (hx.below hg.below (Nat.le_refl _)).range k hlt
        have r2 := (hy.below hg.below (Nat.le_refl _)).range k hlt'
        have hev' : Hid (xs[k]'hlt = ys[k]'hlt' → ∀ j (h1 : j < xs.length) (h2 : j < ys.length), j < k + 1 → xs[j] = ys[j]) := fun h j h1 h2 hj => by
          by_cases e : j = k
          · subst e; exact h
          · exact hev.out j h1 h2 (by omega)
        have hno : Hid (xs[k]'hlt ≠ ys[k]'hlt' → sameTs xs ys = false) := fun h => sameTs_no fun he => h (by simp only [he])
        generalize (xs[k]'hlt) = p at *
        generalize (ys[k]'hlt') = q at *
        obtain ⟨v, ⟨A, B, C⟩⟩ := p; obtain ⟨v', ⟨A', B', C'⟩⟩ := q
        have a1 := r1 0 _ rfl; have a2 := r1 1 _ rfl; have a3 := r1 2 _ rfl; have a4 := r1 3 _ rfl
        have d1 := r2 0 _ rfl; have d2 := r2 1 _ rfl; have d3 := r2 2 _ rfl; have d4 := r2 3 _ rfl
        change wr.cell? ⟨P1, O1 + k * 4, none⟩ = _ at a1
        change wr.cell? ⟨P1, O1 + k * 4 + 1, none⟩ = _ at a2
        change wr.cell? ⟨P1, O1 + k * 4 + 2, none⟩ = _ at a3
        change wr.cell? ⟨P1, O1 + k * 4 + 3, none⟩ = _ at a4
        change wr.cell? ⟨P2, O2 + k * 4, none⟩ = _ at d1
        change wr.cell? ⟨P2, O2 + k * 4 + 1, none⟩ = _ at d2
        change wr.cell? ⟨P2, O2 + k * 4 + 2, none⟩ = _ at d3
        change wr.cell? ⟨P2, O2 + k * 4 + 3, none⟩ = _ at d4
        have hq := fun W => eqTerm ⟨v, ⟨A, B, C⟩⟩ ⟨v', ⟨A', B', C'⟩⟩ W
        cases hs : sameT ⟨v, ⟨A, B, C⟩⟩ ⟨v', ⟨A', B', C'⟩⟩
        · have hno' := hideP (hno.out fun e => by rw [(sameT_iff _ _).2 e] at hs; cases hs)
          rw [hs] at hq
          go_wp2_with fail
          go_quiet (fail)
          go_wp2_with fail
          go_ret
          exact ⟨ret_bool hno'.out.symm, hg.trans (Grew.drewN wr nq)⟩
        · have hev'' := hideP (hev'.out ((sameT_iff _ _).1 hs))
          rw [hs] at hq
          go_wp2_with fail
          go_quiet (fail)
          go_wp2_with fail
          exact ⟨⟨k + 1, by simp, by omega, hev'', hg.trans (Grew.drewN wr nq)⟩, by simp [intOf]; omega⟩
      · have q2 : ¬ (k : Int) < (xs.length : Int) := by omega
        have hyes : Hid (sameTs xs ys = true) := (sameTs_iff _ _).2 (List.ext_getElem Hl.out fun j h1 h2 => hev.out j h1 h2 (by omega))
        go_wp2_with fail
        go_ret
        exact ⟨ret_bool hyes.out.symm, hg⟩

set_option maxRecDepth 100000 in
set_option maxHeartbeats 8000000 in
theorem rsameRule_at (x y : Rv) (w : World) (hx : Rv.Aw w x) (hy : Rv.Aw w y) : Calls Tryd.prog 19 #[rval x, rval y] w fun e w' => e = .returned (.bool (sameR x.r y.r)) ∧ Below w.heap.size w w' := by
  obtain ⟨⟨v1, ⟨a1, b1, c1⟩⟩, p, ad, cap, ts, ⟨v2, ⟨a2, b2, c2⟩⟩, ba, bc, ls⟩ := x
  obtain ⟨⟨v3, ⟨a3, b3, c3⟩⟩, p', ad', cap', ts', ⟨v4, ⟨a4, b4, c4⟩⟩, ba', bc', ls'⟩ := y
  obtain ⟨hx1, hx2, hx3⟩ := hx
  obtain ⟨hy1, hy2, hy3⟩ := hy
  simp only at hx1 hx2 hx3 hy1 hy2 hy3
  have hE := fun W (h : Below w.heap.size w W) => rterms_at ad ad' cap cap' ts ts' W (hx1.below h (Nat.le_refl _)) (hy1.below h (Nat.le_refl _))
  have few1 := hx2.few; have few2 := hy2.few
  have q1 := fun W => eqTerm ⟨v1, ⟨a1, b1, c1⟩⟩ ⟨v3, ⟨a3, b3, c3⟩⟩ W
  have q2 := fun W => eqTerm ⟨v2, ⟨a2, b2, c2⟩⟩ ⟨v4, ⟨a4, b4, c4⟩⟩ W
  show Calls _ _ _ _ fun e w' => e = .returned (.bool (sameT ⟨v1, ⟨a1, b1, c1⟩⟩ ⟨v3, ⟨a3, b3, c3⟩⟩ && ((p == p') && (sameTs ts ts' && (sameT ⟨v2, ⟨a2, b2, c2⟩⟩ ⟨v4, ⟨a4, b4, c4⟩⟩ && sameLs (ls.map Lv.l) (ls'.map Lv.l)))))) ∧ Below w.heap.size w w'
  generalize sameT ⟨v1, ⟨a1, b1, c1⟩⟩ ⟨v3, ⟨a3, b3, c3⟩⟩ = s1 at *
  generalize sameT ⟨v2, ⟨a2, b2, c2⟩⟩ ⟨v4, ⟨a4, b4, c4⟩⟩ = s2 at *
  generalize sameTs ts ts' = s3 at *
  have G0 : ∀ o o' : Obj, Below w.heap.size w ((w.alloc o).alloc o') := fun o o' => Below.then (below_alloc _ _) (below_alloc _ _)
  cases s1
  · go_enter Tryd.func19, Tryd.ntmps19
    go_wp2_with fail
    go_ret
    exact ⟨rfl, G0 _ _⟩
  · by_cases hp : p = p'
    · subst hp
      cases s2
      · go_enter Tryd.func19, Tryd.ntmps19
        go_wp2_with fail
        go_ret
        exact ⟨ret_bool (by simp), G0 _ _⟩
      · have H1 := below_heap (below_alloc _ (.cells #[str v3, .bool a3, .int .i64 b3, str c3, str p, .slice ad' ts'.length cap', str v4, .bool a4, .int .i64 b4, str c4, .slice ba' ls'.length bc'] 41)) (heap_alloc_new w (.cells #[str v1, .bool a1, .int .i64 b1, str c1, str p, .slice ad ts.length cap, str v2, .bool a2, .int .i64 b2, str c2, .slice ba ls.length bc] 41))
        have H2 := heap_alloc_new (w.alloc (.cells #[str v1, .bool a1, .int .i64 b1, str c1, str p, .slice ad ts.length cap, str v2, .bool a2, .int .i64 b2, str c2, .slice ba ls.length bc] 41)) (.cells #[str v3, .bool a3, .int .i64 b3, str c3, str p, .slice ad' ts'.length cap', str v4, .bool a4, .int .i64 b4, str c4, .slice ba' ls'.length bc'] 41)
        rw [show (w.alloc (.cells #[str v1, .bool a1, .int .i64 b1, str c1, str p, .slice ad ts.length cap, str v2, .bool a2, .int .i64 b2, str c2, .slice ba ls.length bc] 41)).heap.size = w.heap.size + 1 by simp] at H2
        go_enter Tryd.func19, Tryd.ntmps19
        go_wp2_with fail
        refine (hE _ (G0 _ _)).mono ?_; rintro e w1 ⟨rfl, g1⟩
        have J1 := below_heap g1.below H1
        have J2 := below_heap g1.below H2
        have G1 := Below.then (G0 _ _) g1.below
        clear hE g1 hx1 hy1 H1 H2 q1 q2
        have d10 := heap_cell J1 10; have f10 := heap_cell J2 10
        simp at d10 f10
        cases s3
        · go_wp2_with fail
          go_ret
          exact ⟨ret_bool (by simp), G1⟩
        · by_cases hl : ls.length = ls'.length
          rotate_left
          · have q0 : ((ls.length : Int) != (ls'.length : Int)) = true := by simp; omega
            have hno : sameLs (ls.map Lv.l) (ls'.map Lv.l) = false := sameLs_no fun h => hl (by have := congrArg List.length h; simpa using this)
            go_wp2_with fail
            go_ret
            exact ⟨ret_bool (by simp [hno]), G1⟩
          · have q0 : ((ls.length : Int) != (ls'.length : Int)) = false := by simp; omega
            have Hl := hideP hl; clear hl
            go_wp2_with fail
            go_loopw [5, 6, 7] (fun v _ _ wr => ∃ k : Nat, v = .int .i64 (k : Int) ∧ k ≤ ls.length ∧ Hid (∀ j (h1 : j < ls.length) (h2 : j < ls'.length), j < k → ls[j].l = ls'[j].l) ∧ Below w1.heap.size w1 wr) (fun v _ _ _ => ls.length - (intOf v).toNat)
            case atStart => exact ⟨0, rfl, by omega, fun j _ _ h => absurd h (by omega), Below.refl _ _⟩
            case round =>
              obtain ⟨k, rfl, hk, hev, hg1⟩ := hrel
              have hg := G1.trans (hg1.mono G1.size)
              have K1 := below_heap hg1 J1
              have K2 := below_heap hg1 J2
              clear d10 f10
              have d10 := heap_cell K1 10
              simp at d10
              by_cases hlt : k < ls.length
              · have q2 : (k : Int) < (ls.length : Int) := by omega
                have hlt' : k < ls'.length := by have := Hl.out; omega
                have q3 : (k : Int) < (ls'.length : Int) := by omega
                obtain ⟨P1, O1, rfl⟩ := hx2.addr (Nat.lt_of_le_of_lt (Nat.zero_le _) hlt)
                obtain ⟨P2, O2, rfl⟩ := hy2.addr (Nat.lt_of_le_of_lt (Nat.zero_le _) hlt')
                have r1 : wr.rangeAt P1 (O1 + k * 10) (lv (ls[k]'hlt)) := (hx2.below hg (Nat.le_refl _)).range k hlt
                have r2 : ∀ W, Below w.heap.size w W → W.rangeAt P2 (O2 + k * 10) (lv (ls'[k]'hlt')) := fun W h => (hy2.below h (Nat.le_refl _)).range k hlt'
                have aP := hx3 _ (List.getElem_mem hlt)
                have aQ := hy3 _ (List.getElem_mem hlt')
                have hev' : Hid ((ls[k]'hlt).l = (ls'[k]'hlt').l → ∀ j (h1 : j < ls.length) (h2 : j < ls'.length), j < k + 1 → ls[j].l = ls'[j].l) := fun h j h1 h2 hj => by
                  by_cases e : j = k
                  · subst e; exact h
                  · exact hev.out j h1 h2 (by omega)
                have hno : Hid ((ls[k]'hlt).l ≠ (ls'[k]'hlt').l → sameLs (ls.map Lv.l) (ls'.map Lv.l) = false) := fun h => sameLs_no fun he => h (by
                  have h1 : (ls.map Lv.l)[k]'(by simpa using hlt) = (ls'.map Lv.l)[k]'(by simpa using hlt') := by simp only [he]
                  simpa using h1)
                generalize (ls[k]'hlt) = P at *
                generalize (ls'[k]'hlt') = Q at *
                obtain ⟨⟨m1, ⟨n1, o1, p1⟩⟩, pr, aa, ca, us, ⟨m2, ⟨n2, o2, p2⟩⟩⟩ := P
                obtain ⟨⟨m3, ⟨n3, o3, p3⟩⟩, pr', aa', ca', us', ⟨m4, ⟨n4, o4, p4⟩⟩⟩ := Q
                have aP : Row tK w aa ca us := aP
                have aQ : Row tK w aa' ca' us' := aQ
                have hT := fun W (h : Below w.heap.size w W) => rterms_at aa aa' ca ca' us us' W (aP.below h (Nat.le_refl _)) (aQ.below h (Nat.le_refl _))
                have q4 := fun W => eqTerm ⟨m1, ⟨n1, o1, p1⟩⟩ ⟨m3, ⟨n3, o3, p3⟩⟩ W
                have q5 := fun W => eqTerm ⟨m2, ⟨n2, o2, p2⟩⟩ ⟨m4, ⟨n4, o4, p4⟩⟩ W
                have hsl : Hid (sameL (Lv.l ⟨⟨m1, ⟨n1, o1, p1⟩⟩, pr, aa, ca, us, ⟨m2, ⟨n2, o2, p2⟩⟩⟩) (Lv.l ⟨⟨m3, ⟨n3, o3, p3⟩⟩, pr', aa', ca', us', ⟨m4, ⟨n4, o4, p4⟩⟩⟩) = (sameT ⟨m1, ⟨n1, o1, p1⟩⟩ ⟨m3, ⟨n3, o3, p3⟩⟩ && ((pr == pr') && (sameTs us us' && sameT ⟨m2, ⟨n2, o2, p2⟩⟩ ⟨m4, ⟨n4, o4, p4⟩⟩)))) := rfl
                generalize sameT ⟨m1, ⟨n1, o1, p1⟩⟩ ⟨m3, ⟨n3, o3, p3⟩⟩ = t1 at *
                generalize sameT ⟨m2, ⟨n2, o2, p2⟩⟩ ⟨m4, ⟨n4, o4, p4⟩⟩ = t2 at *
                generalize sameTs us us' = t3 at *
                have hbad : Hid ((t1 && ((pr == pr') && (t3 && t2))) = false → sameLs (ls.map Lv.l) (ls'.map Lv.l) = false) := fun h => hno.out fun e => by
                  have := hsl.out; rw [(sameL_iff _ _).2 e, h] at this; cases this
                have hgood : Hid ((t1 && ((pr == pr') && (t3 && t2))) = true → ∀ j (h1 : j < ls.length) (h2 : j < ls'.length), j < k + 1 → ls[j].l = ls'[j].l) := fun h => hev'.out ((sameL_iff _ _).1 (by rw [hsl.out, h]))
                have z0 := hg.size
                have hF : ∀ (W X : World) (o : Obj), But W.heap.size (W.alloc o) X → Below W.heap.size W X := fun W X o d => (below_alloc W o).trans (d.lower (Nat.le_refl _) (by simp))
                have iN : (Tryd.prog.info? 62).map (·.size) = some 10 := by kernel_rfl
                have iP : (Tryd.prog.info? 62).map (·.size) = some (lv ⟨⟨m1, ⟨n1, o1, p1⟩⟩, pr, aa, ca, us, ⟨m2, ⟨n2, o2, p2⟩⟩⟩).length := iN
                have iQ : (Tryd.prog.info? 62).map (·.size) = some (lv ⟨⟨m3, ⟨n3, o3, p3⟩⟩, pr', aa', ca', us', ⟨m4, ⟨n4, o4, p4⟩⟩⟩).length := iN
                clear hev hev' hno hsl hx2 hx3 hy2 hy3
                cases t1
                · have hb := hideP (hbad.out rfl)
                  go_upto_region 8 with (first
                    | (refine wpList_load_mid rfl 62 _ rfl P1 (O1 + k * 10) rfl (lv ⟨⟨m1, ⟨n1, o1, p1⟩⟩, pr, aa, ca, us, ⟨m2, ⟨n2, o2, p2⟩⟩⟩) _ r1 Tryd.underlying62 rfl iP ?_)
                    | (refine wpList_store_all rfl 62 _ _ rfl wr.heap.size 10 _ 62 (lv ⟨⟨m1, ⟨n1, o1, p1⟩⟩, pr, aa, ca, us, ⟨m2, ⟨n2, o2, p2⟩⟩⟩) rfl rfl (heap_alloc_new wr _) rfl rfl iN rfl ?_; intro w2 H2 d2; have B2 := hF wr w2 _ d2; have r2' := r2 w2 (hg.trans (B2.mono z0)); have f10 : w2.cell? ⟨w.heap.size + 1, 10, none⟩ = some (.slice (some ⟨P2, O2, none⟩) ls'.length bc') := by rw [heap_cell (below_heap B2 K2)]; rfl)
                    | (refine wpList_load_mid rfl 62 _ rfl P2 (O2 + k * 10) rfl (lv ⟨⟨m3, ⟨n3, o3, p3⟩⟩, pr', aa', ca', us', ⟨m4, ⟨n4, o4, p4⟩⟩⟩) _ r2' Tryd.underlying62 rfl iQ ?_)
                    | (refine wpList_store_all rfl 62 _ _ rfl w2.heap.size 10 _ 62 (lv ⟨⟨m3, ⟨n3, o3, p3⟩⟩, pr', aa', ca', us', ⟨m4, ⟨n4, o4, p4⟩⟩⟩) rfl rfl (heap_alloc_new w2 _) rfl rfl iN rfl ?_; intro w3 H3 d3; have B3 := hF w2 w3 _ d3; have H2' := below_heap B3 H2))
                  obtain ⟨x0, x1, x2, x3, x4, x5, x6, x7, x8, x9⟩ := lit_cells H2'
                  obtain ⟨y0, y1, y2, y3, y4, y5, y6, y7, y8, y9⟩ := lit_cells H3
                  go_wp2_with fail
                  go_ret
                  exact ⟨ret_bool (by simp [hb.out]), hg.trans ((Below.then B2 B3).mono z0)⟩
                · by_cases hpr : pr = pr'
                  · subst hpr
                    cases t2
                    · have hb := hideP (hbad.out (by simp))
                      go_upto_region 8 with (first
                        | (refine wpList_load_mid rfl 62 _ rfl P1 (O1 + k * 10) rfl (lv ⟨⟨m1, ⟨n1, o1, p1⟩⟩, pr, aa, ca, us, ⟨m2, ⟨n2, o2, p2⟩⟩⟩) _ r1 Tryd.underlying62 rfl iP ?_)
                        | (refine wpList_store_all rfl 62 _ _ rfl wr.heap.size 10 _ 62 (lv ⟨⟨m1, ⟨n1, o1, p1⟩⟩, pr, aa, ca, us, ⟨m2, ⟨n2, o2, p2⟩⟩⟩) rfl rfl (heap_alloc_new wr _) rfl rfl iN rfl ?_; intro w2 H2 d2; have B2 := hF wr w2 _ d2; have r2' := r2 w2 (hg.trans (B2.mono z0)); have f10 : w2.cell? ⟨w.heap.size + 1, 10, none⟩ = some (.slice (some ⟨P2, O2, none⟩) ls'.length bc') := by rw [heap_cell (below_heap B2 K2)]; rfl)
                        | (refine wpList_load_mid rfl 62 _ rfl P2 (O2 + k * 10) rfl (lv ⟨⟨m3, ⟨n3, o3, p3⟩⟩, pr, aa', ca', us', ⟨m4, ⟨n4, o4, p4⟩⟩⟩) _ r2' Tryd.underlying62 rfl iQ ?_)
                        | (refine wpList_store_all rfl 62 _ _ rfl w2.heap.size 10 _ 62 (lv ⟨⟨m3, ⟨n3, o3, p3⟩⟩, pr, aa', ca', us', ⟨m4, ⟨n4, o4, p4⟩⟩⟩) rfl rfl (heap_alloc_new w2 _) rfl rfl iN rfl ?_; intro w3 H3 d3; have B3 := hF w2 w3 _ d3; have H2' := below_heap B3 H2))
                      obtain ⟨x0, x1, x2, x3, x4, x5, x6, x7, x8, x9⟩ := lit_cells H2'
                      obtain ⟨y0, y1, y2, y3, y4, y5, y6, y7, y8, y9⟩ := lit_cells H3
                      go_wp2_with fail
                      go_ret
                      exact ⟨ret_bool (by simp [hb.out]), hg.trans ((Below.then B2 B3).mono z0)⟩
                    · go_upto_region 8 with (first
                        | (refine wpList_load_mid rfl 62 _ rfl P1 (O1 + k * 10) rfl (lv ⟨⟨m1, ⟨n1, o1, p1⟩⟩, pr, aa, ca, us, ⟨m2, ⟨n2, o2, p2⟩⟩⟩) _ r1 Tryd.underlying62 rfl iP ?_)
                        | (refine wpList_store_all rfl 62 _ _ rfl wr.heap.size 10 _ 62 (lv ⟨⟨m1, ⟨n1, o1, p1⟩⟩, pr, aa, ca, us, ⟨m2, ⟨n2, o2, p2⟩⟩⟩) rfl rfl (heap_alloc_new wr _) rfl rfl iN rfl ?_; intro w2 H2 d2; have B2 := hF wr w2 _ d2; have r2' := r2 w2 (hg.trans (B2.mono z0)); have f10 : w2.cell? ⟨w.heap.size + 1, 10, none⟩ = some (.slice (some ⟨P2, O2, none⟩) ls'.length bc') := by rw [heap_cell (below_heap B2 K2)]; rfl)
                        | (refine wpList_load_mid rfl 62 _ rfl P2 (O2 + k * 10) rfl (lv ⟨⟨m3, ⟨n3, o3, p3⟩⟩, pr, aa', ca', us', ⟨m4, ⟨n4, o4, p4⟩⟩⟩) _ r2' Tryd.underlying62 rfl iQ ?_)
                        | (refine wpList_store_all rfl 62 _ _ rfl w2.heap.size 10 _ 62 (lv ⟨⟨m3, ⟨n3, o3, p3⟩⟩, pr, aa', ca', us', ⟨m4, ⟨n4, o4, p4⟩⟩⟩) rfl rfl (heap_alloc_new w2 _) rfl rfl iN rfl ?_; intro w3 H3 d3; have B3 := hF w2 w3 _ d3; have H2' := below_heap B3 H2))
                      obtain ⟨x0, x1, x2, x3, x4, x5, x6, x7, x8, x9⟩ := lit_cells H2'
                      obtain ⟨y0, y1, y2, y3, y4, y5, y6, y7, y8, y9⟩ := lit_cells H3
                      go_wp2_with fail
                      have BB := hg.trans ((Below.then B2 B3).mono z0)
                      refine (hT w3 BB).mono ?_; rintro e w4 ⟨rfl, g4⟩
                      have BB4 := BB.trans (g4.below.mono BB.size)
                      have z1 := hg1.size
                      have BL : Below w1.heap.size w1 w4 := hg1.trans ((Below.then (Below.then B2 B3) g4.below).mono z1)
                      cases t3
                      · have hb := hideP (hbad.out (by simp))
                        go_wp2_with fail
                        go_ret
                        exact ⟨ret_bool (by simp [hb.out]), BB4⟩
                      · have hb := hideP (hgood.out (by simp))
                        go_wp2_with fail
                        exact ⟨⟨k + 1, by simp, by omega, hb, BL⟩, by simp [intOf]; omega⟩
                  · have hb := hideP (hbad.out (by simp [hpr]))
                    have hpr' : (pr == pr') = false := by simpa using hpr
                    go_upto_region 8 with (first
                      | (refine wpList_load_mid rfl 62 _ rfl P1 (O1 + k * 10) rfl (lv ⟨⟨m1, ⟨n1, o1, p1⟩⟩, pr, aa, ca, us, ⟨m2, ⟨n2, o2, p2⟩⟩⟩) _ r1 Tryd.underlying62 rfl iP ?_)
                      | (refine wpList_store_all rfl 62 _ _ rfl wr.heap.size 10 _ 62 (lv ⟨⟨m1, ⟨n1, o1, p1⟩⟩, pr, aa, ca, us, ⟨m2, ⟨n2, o2, p2⟩⟩⟩) rfl rfl (heap_alloc_new wr _) rfl rfl iN rfl ?_; intro w2 H2 d2; have B2 := hF wr w2 _ d2; have r2' := r2 w2 (hg.trans (B2.mono z0)); have f10 : w2.cell? ⟨w.heap.size + 1, 10, none⟩ = some (.slice (some ⟨P2, O2, none⟩) ls'.length bc') := by rw [heap_cell (below_heap B2 K2)]; rfl)
                      | (refine wpList_load_mid rfl 62 _ rfl P2 (O2 + k * 10) rfl (lv ⟨⟨m3, ⟨n3, o3, p3⟩⟩, pr', aa', ca', us', ⟨m4, ⟨n4, o4, p4⟩⟩⟩) _ r2' Tryd.underlying62 rfl iQ ?_)
                      | (refine wpList_store_all rfl 62 _ _ rfl w2.heap.size 10 _ 62 (lv ⟨⟨m3, ⟨n3, o3, p3⟩⟩, pr', aa', ca', us', ⟨m4, ⟨n4, o4, p4⟩⟩⟩) rfl rfl (heap_alloc_new w2 _) rfl rfl iN rfl ?_; intro w3 H3 d3; have B3 := hF w2 w3 _ d3; have H2' := below_heap B3 H2))
                    obtain ⟨x0, x1, x2, x3, x4, x5, x6, x7, x8, x9⟩ := lit_cells H2'
                    obtain ⟨y0, y1, y2, y3, y4, y5, y6, y7, y8, y9⟩ := lit_cells H3
                    go_wp2_with fail
                    go_ret
                    exact ⟨ret_bool (by simp [hb.out]), hg.trans ((Below.then B2 B3).mono z0)⟩
              · have q2 : ¬ (k : Int) < (ls.length : Int) := by omega
                have hyes : Hid (sameLs (ls.map Lv.l) (ls'.map Lv.l) = true) := (sameLs_iff _ _).2 (List.ext_getElem (by simpa using Hl.out) fun j h1 h2 => by
                  simp only [List.getElem_map]
                  exact hev.out j (by simpa using h1) (by simpa using h2) (by simp at h1; omega))
                go_wp2_with fail
                go_ret
                exact ⟨ret_bool (by simp [hyes.out]), hg⟩
    · have hp' : (p == p') = false := by simpa using hp
      go_enter Tryd.func19, Tryd.ntmps19
      go_wp2_with fail
      go_ret
      exact ⟨ret_bool (by simp [hp']), G0 _ _⟩
end Go.Proofs.YtcogjphoceaejaaDoor
