/-
  MatchGrows: what a literal tells begins with the bindings that were there, and matches the fact again, unchanged; another fact does not match by it, unless it is the same.
-/
import Derived.Test.YtbahbibibpkddaaLits11
import Derived.Test.YtbahbibibpkddaaLike
namespace Go.Proofs.Ytbahbibibpkddaa
open Go.RowKit Go.Lib Go.Shelf

def env1 (s : List UInt8) : Mt.Env := [([65], Mt.nm s)]
theorem grows {home : Tm} {l : Lt} {f g : F} {s : List UInt8} {e : Mt.Env} (h : Mt.lit home l f (env1 s) = some e) :
    (∃ m, e = env1 s ++ m) ∧ litE home l f e = e ∧ litB home l f e = true ∧ litB home l g e = decide (cF f g = 0) := by
  obtain ⟨hm, hh⟩ := Mt.lit_has h
  have ha := Mt.lit_again h
  refine ⟨hm, (lit_of_some ha).1, (lit_of_some ha).2, ?_⟩
  by_cases hfg : f = g
  · subst hfg
    rw [(lit_of_some ha).2]
    simp [cF_zero]
  · have : Mt.lit home l g e = none := by
      cases hx : Mt.lit home l g e with
      | none => rfl
      | some e' => exact absurd (Mt.lit_only hh hx) hfg
    rw [(lit_of_none this).2]
    have h0 : ¬ cF f g = 0 := fun h => hfg ((cF_zero f g).1 h)
    simp [h0]
/-- three boxes: a rule, two facts -/
structure Bx4 (r : Rv) (x z : Fv) (w wc : World) : Prop where
  below : Below w.heap.size w wc
  h0 : wc.heap[w.heap.size]? = some (.cells (rv r).toArray 37)
  h1 : wc.heap[w.heap.size + 1]? = some (.cells (fv x).toArray 40)
  h2 : wc.heap[w.heap.size + 2]? = some (.cells (fv z).toArray 40)
theorem Bx4.then {r : Rv} {x z : Fv} {w wc wd : World} (h : Bx4 r x z w wc) (b : Below wc.heap.size wc wd) : Bx4 r x z w wd := ⟨Below.then h.below b, below_heap b h.h0, below_heap b h.h1, below_heap b h.h2⟩
theorem boxes4 (w : World) (o1 o2 o3 o4 : Obj) : ((((w.alloc o1).alloc o2).alloc o3).alloc o4).heap[w.heap.size]? = some o1 ∧ ((((w.alloc o1).alloc o2).alloc o3).alloc o4).heap[w.heap.size + 1]? = some o2 ∧ ((((w.alloc o1).alloc o2).alloc o3).alloc o4).heap[w.heap.size + 2]? = some o3 ∧ ((((w.alloc o1).alloc o2).alloc o3).alloc o4).heap[w.heap.size + 3]? = some o4 ∧ Below w.heap.size w ((((w.alloc o1).alloc o2).alloc o3).alloc o4) := by
  obtain ⟨h1, h2, h3, h4⟩ := boxes3 w o1 o2 o3
  have s1 : (((w.alloc o1).alloc o2).alloc o3).heap.size = w.heap.size + 3 := by simp
  have A1 := below_alloc (((w.alloc o1).alloc o2).alloc o3) o4
  have h5 := heap_alloc_new (((w.alloc o1).alloc o2).alloc o3) o4
  rw [s1] at h5
  exact ⟨below_heap A1 h1, below_heap A1 h2, below_heap A1 h3, h5, Below.then h4 A1⟩
theorem bd_cells {w : World} {b o c : Nat} {L : List Bd} (h : Row bK w (some ⟨b, o, none⟩) c L) (hl : 0 < L.length) : w.cell? ⟨b, o, none⟩ = some (str L[0].1) ∧ w.cell? ⟨b, o + 1, none⟩ = some (.bool L[0].2.num) ∧ w.cell? ⟨b, o + 2, none⟩ = some (.int .i64 L[0].2.n) ∧ w.cell? ⟨b, o + 3, none⟩ = some (str L[0].2.s) := by
  have r := h.range 0 hl
  rw [Nat.zero_mul, Nat.add_zero] at r
  exact ⟨r 0 _ rfl, r 1 _ rfl, r 2 _ rfl, r 3 _ rfl⟩

set_option maxRecDepth 100000 in
set_option maxHeartbeats 2000000 in
theorem matchGrows_walk (r : Rv) (x z : Fv) (w : World) (hr : Rv.Aw w r) (tr : TxR r) (hx : Fv.At w x) (tx : TxF x) (hz : Fv.At w z) (tz : TxF z) :
    Calls Try.prog 7 #[rval r, x.val, z.val] w fun e w' => e = .returned (.bool true) ∧ Below w.heap.size w w' := by
  have iR : (Try.prog.info? 37).map (·.size) = some 11 := by kernel_rfl
  have iF : (Try.prog.info? 40).map (·.size) = some 4 := by kernel_rfl
  have iL : (Try.prog.info? 45).map (·.size) = some 10 := by kernel_rfl
  have iT : (Try.prog.info? 25).map (·.size) = some 4 := by kernel_rfl
  have LV := hideP (fun W => live11_at W)
  obtain ⟨h0, h1, h2, A0⟩ := boxes3 w (.cells (rv r).toArray 37) (.cells (fv x).toArray 40) (.cells (fv z).toArray 40)
  obtain ⟨g0, g1, g2, g3, A1⟩ := boxes4 w (.cells (rv r).toArray 37) (.cells (fv x).toArray 40) (.cells (fv z).toArray 40) (.cells (fv x ++ fv z).toArray 40)
  have R2 : Row fK ((((w.alloc (.cells (rv r).toArray 37)).alloc (.cells (fv x).toArray 40)).alloc (.cells (fv z).toArray 40)).alloc (.cells (fv x ++ fv z).toArray 40)) (some ⟨w.heap.size + 1 + 1 + 1, 0, none⟩) 2 [x, z] :=
    ⟨by simp, by simp, (fun h => by cases h), fun ad ha j u hu => by
      cases ha
      rw [Addr.add_lit, heap_cell g3, Nat.zero_add, ← Array.getElem?_toList]
      simpa [fK] using hu⟩
  have F1 : Lies _ (some ⟨w.heap.size + 1 + 1 + 1, 0, none⟩) 2 [x, z] := row_lies R2 (by decide) (by simp)
  have TL := hideP (light_at r (some ⟨w.heap.size + 1 + 1 + 1, 0, none⟩) 2 [x, z] none 0 [] _ (hr.below A1 (Nat.le_refl _)) tr F1 (fun v hv => by
    rcases List.mem_cons.1 hv with h | h
    · rw [h]; exact ⟨hx.below A1 (Nat.le_refl _), tx⟩
    · rw [List.mem_singleton.1 h]; exact ⟨hz.below A1 (Nat.le_refl _), tz⟩) (Row.nil _ _))
  have hbf := hr.body.few
  go_enter Try.func7, Try.ntmps7
  go_wp2_with (first | (refine wpList_load_all rfl 37 _ rfl w.heap.size 11 37 (rv r) _ rfl h0 rfl Try.underlying37 rfl iR ?_) | (refine wpList_load_all rfl 40 _ rfl (w.heap.size + 1) 4 40 (fv x) _ rfl h1 rfl Try.underlying40 rfl iF ?_) | (refine wpList_load_all rfl 40 _ rfl (w.heap.size + 1 + 1) 4 40 (fv z) _ rfl h2 rfl Try.underlying40 rfl iF ?_) | (refine wpList_build_two rfl 42 40 _ _ rfl (fv x) (fv z) _ 4 72 rfl rfl rfl rfl (by decide) (by decide) Try.underlying42 Try.iF11 _ rfl ?_))
  refine TL.out.mono ?_
  rintro e w1 ⟨⟨q, rfl, hq⟩, b1⟩
  have X1 : Bx4 r x z w w1 := ⟨Below.then A1 b1, below_heap b1 g0, below_heap b1 g1, below_heap b1 g2⟩
  clear h0 h1 h2 A0 g0 g1 g2 g3 A1 F1 R2 TL b1
  cases q with
  | false =>
    go_wp2_with fail
    refine (LV.out _).mono ?_
    rintro e w2 ⟨rfl, b2⟩
    go_wp2_with fail
    go_ret
    exact ⟨rfl, Below.then X1.below b2⟩
  | true =>
    obtain ⟨f2, _, _⟩ := hq rfl
    have c10 := (rv_home X1.h0).2.2.2.2
    clear hq
    by_cases hb : 0 < r.body.length
    rotate_left
    · have q2 : ((r.body.length : Int) == 0) = true := by rw [beq_iff_eq]; omega
      clear hb
      go_wp2_with fail
      refine (LV.out _).mono ?_
      rintro e w2 ⟨rfl, b2⟩
      go_wp2_with fail
      go_ret
      exact ⟨rfl, Below.then X1.below b2⟩
    · have q2 : ((r.body.length : Int) == 0) = false := by rw [beq_eq_false_iff_ne]; omega
      obtain ⟨P1, O1, hP⟩ := hr.body.addr hb
      have aY := hr.each _ (List.getElem_mem hb)
      have ya := f2.c _ (List.getElem_mem hb)
      have KK : ∀ W, Below w.heap.size w W → W.rangeAt P1 O1 (lv (r.body[0]'hb)) := fun W hX => by
        have hB := hr.body.below hX (Nat.le_refl _)
        rw [hP] at hB
        have rg := hB.range 0 hb
        rw [Nat.zero_mul, Nat.add_zero] at rg
        exact rg
      have HK := hideP KK
      rw [hP] at c10
      generalize (r.body[0]'hb) = y at *
      have hn0 : 0 < r.body.length := hb
      clear KK hP hb
      have c0 := (fv_cells X1.h1).1
      generalize hn : r.body.length = n at *
      clear hn
      have A2 := below_alloc w1 (.cells #[str [65], .bool false, .int .i64 0, str x.at_] 57)
      have X2 := X1.then A2
      have R2 : Row bK (w1.alloc (.cells #[str [65], .bool false, .int .i64 0, str x.at_] 57)) (some ⟨w1.heap.size, 0, none⟩) 1 (env1 x.at_) := row_new bK w1 _ _ ([65], Mt.nm x.at_) rfl
      have c11 : (w1.alloc (.cells #[str [65], .bool false, .int .i64 0, str x.at_] 57)).cell? ⟨w.heap.size, 10, none⟩ = some (.slice (some ⟨P1, O1, none⟩) n r.bcap) := by
        rw [A2.cell (cell_block c10)]; exact c10
      have r2 := HK.out _ X2.below
      have iQ : (Try.prog.info? 45).map (·.size) = some (lv y).length := iL
      obtain ⟨m0, m1, m2⟩ := boxes2 w1 (.cells #[str [65], .bool false, .int .i64 0, str x.at_] 57) (.cells #[.string { data := #[] }, .bool false, .int .i64 0, .string { data := #[] }, .string { data := #[] }, .slice none 0 0, .string { data := #[] }, .bool false, .int .i64 0, .string { data := #[] }] 45)
      go_wp2_with (first | (refine wpList_load_mid rfl 45 _ rfl P1 O1 rfl (lv y) _ r2 Try.underlying45 rfl iQ ?_) | (refine wpList_store_all rfl 45 _ _ rfl (w1.heap.size + 1) 10 _ 45 (lv y) rfl rfl m1 rfl rfl iL rfl ?_; intro w3 H3 b3; have T3 : Below w1.heap.size w1 w3 := m2.trans (b3.lower (by omega) m2.size); have X3 := X1.then T3; have H3e := b3.heap (by omega) m0; have rh := (rule_parts10 X3.h0).1) | (refine wpList_load_mid rfl 25 _ rfl w.heap.size 0 rfl (tv r.home) _ rh Try.underlying25 rfl iT ?_) | (refine wpList_load_all rfl 45 _ rfl (w1.heap.size + 1) 10 45 (lv y) _ rfl H3 rfl Try.underlying45 rfl iL ?_) | (refine wpList_load_all rfl 40 _ rfl (w.heap.size + 1) 4 40 (fv x) _ rfl X3.h1 rfl Try.underlying40 rfl iF ?_))
      have R3 : Row bK w3 (some ⟨w1.heap.size, 0, none⟩) 1 (env1 x.at_) := row_block bK H3e ([65], Mt.nm x.at_) rfl
      generalize hU : w1.heap.size = U at *
      clear hU m0 m1 m2 b3 T3 rh r2 c11 R2 A2 X2 X1 c10 c0
      refine (mLiteral_at r.home y x (some ⟨U, 0, none⟩) 1 (env1 x.at_) w3 R3 (by show 1 + _ ≤ _; omega) (aY.below X3.below (Nat.le_refl _)) (hx.below X3.below (Nat.le_refl _))).mono ?_
      rintro e w4 ⟨⟨a4, c4, rfl, R4⟩, b4⟩
      have X4 := X3.then b4
      have H4 := below_heap b4 H3
      have N4 := R3.below b4 (Nat.le_refl _)
      have EL : (litE r.home y.l x.f (env1 x.at_)).length ≤ 1 + (y.args.length + 2) := litE_len r.home y.l x.f (env1 x.at_)
      clear X3 b4 H3 R3 H3e
      cases hlt : Mt.lit r.home y.l x.f (env1 x.at_) with
      | none =>
        obtain ⟨z1, z2⟩ := lit_of_none hlt
        rw [z2]
        rw [z1]
        clear z1 z2 hlt R4 EL
        simp only [List.length_nil]
        go_wp2_with fail
        refine (LV.out _).mono ?_
        rintro e w5 ⟨rfl, b5⟩
        go_wp2_with fail
        go_ret
        exact ⟨rfl, Below.then X4.below b5⟩
      | some e0 =>
        obtain ⟨z1, z2⟩ := lit_of_some hlt
        obtain ⟨⟨m, hm⟩, s1, s2, s3⟩ := grows (g := z.f) hlt
        rw [z1] at R4 EL ⊢
        rw [z2]
        have Hm := hideP hm
        have S1 := hideP s1
        have S2 := hideP s2
        have S3 := hideP s3
        clear z1 z2 hlt hm s1 s2 s3
        have rh := (rule_parts10 X4.h0).1
        go_wp2_with (first | (refine wpList_load_mid rfl 25 _ rfl w.heap.size 0 rfl (tv r.home) _ rh Try.underlying25 rfl iT ?_) | (refine wpList_load_all rfl 45 _ rfl (U + 1) 10 45 (lv y) _ rfl H4 rfl Try.underlying45 rfl iL ?_) | (refine wpList_load_all rfl 40 _ rfl (w.heap.size + 1) 4 40 (fv x) _ rfl X4.h1 rfl Try.underlying40 rfl iF ?_))
        refine (mLiteral_at r.home y x a4 c4 e0 w4 R4.row (by omega) (aY.below X4.below (Nat.le_refl _)) (hx.below X4.below (Nat.le_refl _))).mono ?_
        rintro e w5 ⟨⟨a5, c5, rfl, R5⟩, b5⟩
        have X5 := X4.then b5
        have H5 := below_heap b5 H4
        have N5 := N4.below b5 (Nat.le_refl _)
        have R5a := R4.row.below b5 (Nat.le_refl _)
        rw [S1.out] at R5 ⊢
        rw [S2.out]
        clear X4 b5 H4 N4 R4 rh S1 S2
        have rh := (rule_parts10 X5.h0).1
        go_wp2_with (first | (refine wpList_load_mid rfl 25 _ rfl w.heap.size 0 rfl (tv r.home) _ rh Try.underlying25 rfl iT ?_) | (refine wpList_load_all rfl 45 _ rfl (U + 1) 10 45 (lv y) _ rfl H5 rfl Try.underlying45 rfl iL ?_) | (refine wpList_load_all rfl 40 _ rfl (w.heap.size + 1 + 1) 4 40 (fv z) _ rfl X5.h2 rfl Try.underlying40 rfl iF ?_))
        refine (mLiteral_at r.home y z a4 c4 e0 w5 R5a (by omega) (aY.below X5.below (Nat.le_refl _)) (hz.below X5.below (Nat.le_refl _))).mono ?_
        rintro e w6 ⟨⟨a6, c6, rfl, R6⟩, b6⟩
        have X6 := X5.then b6
        have N6 := N5.below b6 (Nat.le_refl _)
        have R6a := R5a.below b6 (Nat.le_refl _)
        have R6b := R5.row.below b6 (Nat.le_refl _)
        rw [S3.out]
        clear X5 b6 H5 N5 R5a R5 rh R6 S3
        have hl0 : 0 < e0.length := by rw [Hm.out]; simp [env1]
        obtain ⟨Pa, Oa, rfl⟩ := R6a.addr hl0
        have he0 : e0[0] = ([65], Mt.nm x.at_) := by simp only [Hm.out]; rfl
        have gD := (Below.refl w6.heap.size w6).drew
        have X6d := X6.then gD
        have N6d := N6.below gD (Nat.le_refl _)
        have R6c := R6a.below gD (Nat.le_refl _)
        have KK : ∀ W, Bx4 r x z w W → Row bK W (some ⟨U, 0, none⟩) 1 (env1 x.at_) → Row bK W (some ⟨Pa, Oa, none⟩) c4 e0 → (W.cell? ⟨Pa, Oa, none⟩ = some (str [65]) ∧ W.cell? ⟨Pa, Oa + 1, none⟩ = some (.bool false) ∧ W.cell? ⟨Pa, Oa + 2, none⟩ = some (.int .i64 0) ∧ W.cell? ⟨Pa, Oa + 3, none⟩ = some (str x.at_) ∧ W.cell? ⟨U, 0, none⟩ = some (str [65]) ∧ W.cell? ⟨U, 1, none⟩ = some (.bool false) ∧ W.cell? ⟨U, 2, none⟩ = some (.int .i64 0) ∧ W.cell? ⟨U, 3, none⟩ = some (str x.at_) ∧ W.cell? ⟨w.heap.size + 1, 0, none⟩ = some (str x.at_) ∧ W.cell? ⟨w.heap.size + 1, 1, none⟩ = some (str x.by_) ∧ W.cell? ⟨w.heap.size + 1, 2, none⟩ = some (str x.pred) ∧ W.cell? ⟨w.heap.size + 1, 3, none⟩ = some (.slice x.a x.ks.length x.cap) ∧ W.cell? ⟨w.heap.size + 2, 0, none⟩ = some (str z.at_) ∧ W.cell? ⟨w.heap.size + 2, 1, none⟩ = some (str z.by_) ∧ W.cell? ⟨w.heap.size + 2, 2, none⟩ = some (str z.pred) ∧ W.cell? ⟨w.heap.size + 2, 3, none⟩ = some (.slice z.a z.ks.length z.cap)) := fun W hX hN hA => by
          have p1 := bd_cells hA hl0
          rw [he0] at p1
          obtain ⟨p0, p1, p2, p3⟩ := p1
          obtain ⟨n0, n1, n2, n3⟩ := bd_cells hN (by show 0 < 1; omega)
          rw [Nat.zero_add] at n1 n2 n3
          obtain ⟨c0, c1, c2, c3⟩ := fv_cells hX.h1
          obtain ⟨d0, d1, d2, d3⟩ := fv_cells hX.h2
          exact ⟨p0, p1, p2, p3, n0, n1, n2, n3, c0, c1, c2, c3, d0, d1, d2, d3⟩
        have HKA := hideP KK
        clear KK
        have Q : ∀ W, (Op.equalIn 10000 57 (.agg #[str [65], .bool false, .int .i64 0, str x.at_]) (.agg #[str [65], .bool false, .int .i64 0, str x.at_])).run Try.prog W = .ok true W := fun W => by
          have := eqBind ([65], Mt.nm x.at_) ([65], Mt.nm x.at_) W
          rw [show ((([65] : List UInt8), Mt.nm x.at_).1 == (([65] : List UInt8), Mt.nm x.at_).1 && sameK (([65] : List UInt8), Mt.nm x.at_).2 (([65] : List UInt8), Mt.nm x.at_).2) = true by simp [sameK_self]] at this
          exact this
        have TLK := hideP (rlike11_at (some ⟨Pa, Oa, none⟩) a5 c4 c5 e0 w6.drew R6c (R6b.below gD (Nat.le_refl _)))
        have TO := hideP (fun W hW => reforder_at x z W (hx.below (B := w.heap.size) hW (Nat.le_refl _)) (hz.below (B := w.heap.size) hW (Nat.le_refl _)))
        have q4 : (1 : Int) ≤ (e0.length : Int) := by omega
        have q5 : (0 : Int) < (e0.length : Int) := by omega
        clear he0 Hm gD N6 X6 R6a R6b
        generalize hk : List.length e0 = k at *
        clear hk
        by_cases hc : cF x.f z.f = 0
        · rw [hc] at TO
          rw [show decide (cF x.f z.f = 0) = true by simp [hc]]
          clear hc
          go_wp2_with fail
          go_region_held3 (fun W => W.cell? ⟨Pa, Oa, none⟩ = some (str [65]) ∧ W.cell? ⟨Pa, Oa + 1, none⟩ = some (.bool false) ∧ W.cell? ⟨Pa, Oa + 2, none⟩ = some (.int .i64 0) ∧ W.cell? ⟨Pa, Oa + 3, none⟩ = some (str x.at_) ∧ W.cell? ⟨U, 0, none⟩ = some (str [65]) ∧ W.cell? ⟨U, 1, none⟩ = some (.bool false) ∧ W.cell? ⟨U, 2, none⟩ = some (.int .i64 0) ∧ W.cell? ⟨U, 3, none⟩ = some (str x.at_) ∧ W.cell? ⟨w.heap.size + 1, 0, none⟩ = some (str x.at_) ∧ W.cell? ⟨w.heap.size + 1, 1, none⟩ = some (str x.by_) ∧ W.cell? ⟨w.heap.size + 1, 2, none⟩ = some (str x.pred) ∧ W.cell? ⟨w.heap.size + 1, 3, none⟩ = some (.slice x.a x.ks.length x.cap) ∧ W.cell? ⟨w.heap.size + 2, 0, none⟩ = some (str z.at_) ∧ W.cell? ⟨w.heap.size + 2, 1, none⟩ = some (str z.by_) ∧ W.cell? ⟨w.heap.size + 2, 2, none⟩ = some (str z.pred) ∧ W.cell? ⟨w.heap.size + 2, 3, none⟩ = some (.slice z.a z.ks.length z.cap)) (first | with_reducible exact HKA.out _ X6d N6d R6c | with_reducible exact HKA.out _ X7 N7 R7 | with_reducible exact HKA.out _ X8 N8 R8 | with_reducible exact HKA.out _ X9 N9 R9) (first
            | (go_at_call 14; refine TLK.out.mono ?_; rintro e w7 ⟨rfl, b7⟩; have X7 := X6d.then b7; have N7 := N6d.below b7 (Nat.le_refl _); have R7 := R6c.below b7 (Nat.le_refl _))
            | (go_at_call 22; refine (TO.out _ X7.below).mono ?_; rintro e w8 ⟨rfl, g8⟩; have X8 := X7.then g8.below; have N8 := N7.below g8.below (Nat.le_refl _); have R8 := R7.below g8.below (Nat.le_refl _))
            | (go_at_call 9; refine (LV.out _).mono ?_; rintro e w9 ⟨rfl, b9⟩; have X9 := X8.then b9; have N9 := N8.below b9 (Nat.le_refl _); have R9 := R8.below b9 (Nat.le_refl _)))
          go_wp2_with fail
          go_ret
          exact ⟨rfl, X9.below⟩
        · rw [show decide (cF x.f z.f = 0) = false by simp [hc]]
          generalize cF x.f z.f = rr at *
          have q6 : (rr == 0) = false := by simpa using hc
          go_wp2_with fail
          go_region_held3 (fun W => W.cell? ⟨Pa, Oa, none⟩ = some (str [65]) ∧ W.cell? ⟨Pa, Oa + 1, none⟩ = some (.bool false) ∧ W.cell? ⟨Pa, Oa + 2, none⟩ = some (.int .i64 0) ∧ W.cell? ⟨Pa, Oa + 3, none⟩ = some (str x.at_) ∧ W.cell? ⟨U, 0, none⟩ = some (str [65]) ∧ W.cell? ⟨U, 1, none⟩ = some (.bool false) ∧ W.cell? ⟨U, 2, none⟩ = some (.int .i64 0) ∧ W.cell? ⟨U, 3, none⟩ = some (str x.at_) ∧ W.cell? ⟨w.heap.size + 1, 0, none⟩ = some (str x.at_) ∧ W.cell? ⟨w.heap.size + 1, 1, none⟩ = some (str x.by_) ∧ W.cell? ⟨w.heap.size + 1, 2, none⟩ = some (str x.pred) ∧ W.cell? ⟨w.heap.size + 1, 3, none⟩ = some (.slice x.a x.ks.length x.cap) ∧ W.cell? ⟨w.heap.size + 2, 0, none⟩ = some (str z.at_) ∧ W.cell? ⟨w.heap.size + 2, 1, none⟩ = some (str z.by_) ∧ W.cell? ⟨w.heap.size + 2, 2, none⟩ = some (str z.pred) ∧ W.cell? ⟨w.heap.size + 2, 3, none⟩ = some (.slice z.a z.ks.length z.cap)) (first | with_reducible exact HKA.out _ X6d N6d R6c | with_reducible exact HKA.out _ X7 N7 R7 | with_reducible exact HKA.out _ X8 N8 R8 | with_reducible exact HKA.out _ X9 N9 R9) (first
            | (go_at_call 14; refine TLK.out.mono ?_; rintro e w7 ⟨rfl, b7⟩; have X7 := X6d.then b7; have N7 := N6d.below b7 (Nat.le_refl _); have R7 := R6c.below b7 (Nat.le_refl _))
            | (go_at_call 22; refine (TO.out _ X7.below).mono ?_; rintro e w8 ⟨rfl, g8⟩; have X8 := X7.then g8.below; have N8 := N7.below g8.below (Nat.le_refl _); have R8 := R7.below g8.below (Nat.le_refl _))
            | (go_at_call 9; refine (LV.out _).mono ?_; rintro e w9 ⟨rfl, b9⟩; have X9 := X8.then b9; have N9 := N8.below b9 (Nat.le_refl _); have R9 := R8.below b9 (Nat.le_refl _)))
          go_wp2_with fail
          go_ret
          exact ⟨rfl, X9.below⟩
end Go.Proofs.Ytbahbibibpkddaa
