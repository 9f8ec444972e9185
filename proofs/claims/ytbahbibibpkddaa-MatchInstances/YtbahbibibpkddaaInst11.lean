/-
  MatchInstances: where a rule's head and body have values, the head follows from the body; with another fact in place of one it does not.
-/
import Derived.Test.YtbahbibibpkddaaY2
import Derived.Test.YtbahbibibpkddaaY4
import Derived.Test.YtbahbibibpkddaaY5
import Derived.Test.YtbahbibibpkddaaEC
import Derived.Test.YtbahbibibpkddaaD7
import Derived.Test.YtbahbibibpkddaaOq
import Derived.Test.YtbahbibibpkddaaMd
namespace Go.Proofs.Ytbahbibibpkddaa
open Go.RowKit Go.Lib Go.Shelf

theorem body_pre {home : Tm} {L : Mt.Env} {ls : List Lt} {fs : List F} (h : Mt.body home L ls = some fs) {P : Lt → Prop} (hp : ∀ l ∈ ls, P l) : ∀ f ∈ fs, ∃ l, P l ∧ f.pred = l.pred ∧ f.ks.length = l.args.length := by
  intro f hf
  obtain ⟨i, hi, rfl⟩ := List.getElem_of_mem hf
  have hl := Mt.body_len h
  have h1 := Mt.body_pred h i (by omega) hi
  refine ⟨ls[i]'(by omega), hp _ (List.getElem_mem _), h1.symm, ?_⟩
  exact Mt.body_ks h i (by omega) hi
/-- the cells of a rule's box and of a fact's -/
theorem rf_cells {r : Rv} {x : Fv} {w W : World} {U : Nat} (h0 : W.heap[w.heap.size]? = some (.cells (rv r).toArray 37)) (h1 : W.heap[U]? = some (.cells (fv x).toArray 40)) :
    W.cell? ⟨w.heap.size, 0, none⟩ = some (str r.home.v) ∧ W.cell? ⟨w.heap.size, 1, none⟩ = some (.bool r.home.k.num) ∧ W.cell? ⟨w.heap.size, 2, none⟩ = some (.int .i64 r.home.k.n) ∧ W.cell? ⟨w.heap.size, 3, none⟩ = some (str r.home.k.s) ∧ W.cell? ⟨w.heap.size, 4, none⟩ = some (str r.pred) ∧ W.cell? ⟨w.heap.size, 5, none⟩ = some (.slice r.a r.args.length r.cap) ∧ W.cell? ⟨w.heap.size, 6, none⟩ = some (str r.to_.v) ∧ W.cell? ⟨w.heap.size, 7, none⟩ = some (.bool r.to_.k.num) ∧ W.cell? ⟨w.heap.size, 8, none⟩ = some (.int .i64 r.to_.k.n) ∧ W.cell? ⟨w.heap.size, 9, none⟩ = some (str r.to_.k.s) ∧ W.cell? ⟨w.heap.size, 10, none⟩ = some (.slice r.ba r.body.length r.bcap) ∧
    W.cell? ⟨U, 0, none⟩ = some (str x.at_) ∧ W.cell? ⟨U, 1, none⟩ = some (str x.by_) ∧ W.cell? ⟨U, 2, none⟩ = some (str x.pred) ∧ W.cell? ⟨U, 3, none⟩ = some (.slice x.a x.ks.length x.cap) := by
  refine ⟨?_, ?_, ?_, ?_, ?_, ?_, ?_, ?_, ?_, ?_, ?_, ?_, ?_, ?_, ?_⟩
  all_goals first | (rw [heap_cell h0]; rfl) | (rw [heap_cell h1]; rfl)
theorem inst_other {r : Ru} {d : Mt.Env} {h : F} {z4 z7 : List Fv} {I : Nat} {zI : Fv} {pc : List UInt8} (hb : Mt.body r.home d r.body = some (z4.map Fv.f)) (he : z7.map Fv.f = z4.map Fv.f) (hI : I < z7.length) (hz : z7[I] = zI) (hp : pc = zI.pred ++ [120]) :
    Mt.fol r h ((z7.set I ⟨zI.at_, zI.by_, pc, zI.a, zI.cap, zI.ks⟩).map Fv.f) = false := by
  have hl : (z4.map Fv.f).length = z7.length := by rw [← he, List.length_map]
  refine Mt.fol_other (d := d) (b := z4.map Fv.f) (k := I) hb (by omega) (by rw [List.length_map, List.length_set, hl]) ?_
  have h1 : (z4.map Fv.f)[I]'(by omega) = zI.f := by
    have : (z7.map Fv.f)[I]'(by rw [List.length_map]; exact hI) = zI.f := by rw [List.getElem_map, hz]
    rw [← this]
    simp only [he]
  rw [h1]
  simp only [List.getElem_map, List.getElem_set_self]
  intro h9
  have h8 : pc.length = zI.pred.length := congrArg List.length h9
  rw [hp, List.length_append] at h8
  simp at h8
theorem cat11 (a b : List UInt8) : ∃ c : List UInt8, Hid (c = a ++ b) ∧ (⟨a.toArray⟩ : ByteArray) ++ ⟨b.toArray⟩ = ⟨c.toArray⟩ ∧ (⟨c.toArray⟩ : ByteArray).size = c.length ∧ c.length = a.length + b.length :=
  ⟨a ++ b, rfl, by
    apply ByteArray.ext
    simp [ByteArray.data_append], str_size _, List.length_append⟩
theorem head_two {o : Option F} {z : Fv} (hz : z.f = o.getD f0) : (o = none ∧ o.isSome = false) ∨ (o = some z.f ∧ o.isSome = true) := by
  cases o with
  | none => exact .inl ⟨rfl, rfl⟩
  | some f => exact .inr ⟨by rw [hz]; rfl, rfl⟩
theorem body_two {o : Option (List F)} {fs : List F} (hz : fs = o.getD []) : (o = none ∧ o.isSome = false) ∨ (o = some fs ∧ o.isSome = true) := by
  cases o with
  | none => exact .inl ⟨rfl, rfl⟩
  | some f => exact .inr ⟨by rw [hz]; rfl, rfl⟩

set_option maxRecDepth 100000 in
set_option maxHeartbeats 4000000 in
theorem matchInstances_walk (r : Rv) (b : Option Addr) (d : Nat) (L : List Bd) (k : Int) (w : World) (hr : Rv.Aw w r) (tr : TxR r) (tv9 : TxV r.r) (hE : Row bK w b d L) (_hk1 : -9223372036854775808 ≤ k) (_hk2 : k ≤ 9223372036854775807) :
    Calls Try.prog 8 #[rval r, .slice b L.length d, .int .i64 k] w fun e w' => e = .returned (.bool true) ∧ Below w.heap.size w w' := by
  have iR : (Try.prog.info? 37).map (·.size) = some 11 := by kernel_rfl
  have iF : (Try.prog.info? 40).map (·.size) = some 4 := by kernel_rfl
  have iS : (Try.prog.info? 9).map (·.size) = some 1 := by kernel_rfl
  have LV := hideP (fun W => live11_at W)
  have A0 := below_alloc w (.cells (rv r).toArray 37)
  have h0 := heap_alloc_new w (.cells (rv r).toArray 37)
  have TL := hideP (light_at r none 0 [] b d L _ (hr.below A0 (Nat.le_refl _)) tr (Lies.nil _) (fun z hz => by simp at hz) (hE.below A0 (Nat.le_refl _)))
  go_enter Try.func8, Try.ntmps8
  go_wp2_with (refine wpList_load_all rfl 37 _ rfl w.heap.size 11 37 (rv r) _ rfl h0 rfl Try.underlying37 rfl iR ?_)
  refine TL.out.mono ?_
  rintro e w1 ⟨⟨q, rfl, hq⟩, b1⟩
  have B1 := Below.then A0 b1
  have H1 := below_heap b1 h0
  clear h0 A0 TL b1
  cases q with
  | false =>
    go_wp2_with fail
    refine (LV.out _).mono ?_
    rintro e w2 ⟨rfl, b2⟩
    go_wp2_with fail
    go_ret
    exact ⟨rfl, Below.then B1 b2⟩
  | true =>
    obtain ⟨f2, _, l2⟩ := hq rfl
    have fa : r.args.length ≤ 900000 := by have := f2.a; omega
    have fb : r.body.length ≤ 900000 := by have := f2.b; omega
    have fc : ∀ y ∈ r.body, y.args.length ≤ 900000 := fun y hy => by have := f2.c y hy; omega
    have vk := vok_of tv9 f2.few
    have fb2 := f2.b
    clear hq
    go_wp2_with (refine wpList_load_all rfl 37 _ rfl w.heap.size 11 37 (rv r) _ rfl H1 rfl Try.underlying37 rfl iR ?_)
    refine (mHead_at r b d L w1 (hr.below B1 (Nat.le_refl _)) (hE.below B1 (Nat.le_refl _)) fa).mono ?_
    rintro e w2 ⟨⟨z2, rfl, R2, e2⟩, b2⟩
    have B2 := Below.then B1 b2
    have H2 := below_heap b2 H1
    clear B1 b2 H1
    have N3 := heap_alloc_new w2 (.cells #[.string { data := #[] }, .string { data := #[] }, .string { data := #[] }, .slice none 0 0] 40)
    go_wp2_with (first | (refine wpList_store_all rfl 40 _ _ rfl w2.heap.size 4 _ 40 (fv z2) rfl rfl N3 rfl rfl iF rfl ?_; intro w3 F3 b3; have T3 := below_tok b3; have H3 := below_heap T3 H2) | (refine wpList_load_all rfl 37 _ rfl w.heap.size 11 37 (rv r) _ rfl H3 rfl Try.underlying37 rfl iR ?_))
    have B3 := Below.then B2 T3
    have R3 := R2.safe (Safe.below T3)
    have nU : w2.heap.size < w3.heap.size := heap_lt F3
    generalize hU1 : w2.heap.size = U at *
    clear hU1 N3 b3 T3 B2 H2 R2
    refine (mBody_at r b d L w3 (hr.below B3 (Nat.le_refl _)) (hE.below B3 (Nat.le_refl _)) fb fc).mono ?_
    rintro e w4 ⟨⟨a4, c4, z4, rfl, L4, G4, m4, K4, e4⟩, b4⟩
    have B4 := Below.then B3 b4
    have H4 := below_heap b4 H3
    have F4 := below_heap b4 F3
    have R4 := R3.safe (Safe.below b4)
    have nU4 : U < w4.heap.size := heap_lt F4
    clear B3 b4 H3 F3 R3 nU
    rcases head_two e2 with ⟨u1, u2⟩ | ⟨u1, u2⟩
    · rw [u2]
      clear u1 u2 e2 e4
      go_wp2_with fail
      refine (LV.out _).mono ?_
      rintro e w5 ⟨rfl, b5⟩
      go_wp2_with fail
      go_ret
      exact ⟨rfl, Below.then B4 b5⟩
    rcases body_two e4 with ⟨v1, v2⟩ | ⟨v1, v2⟩
    · rw [u2, v2]
      clear u1 u2 v1 v2 e2 e4
      go_wp2_with fail
      refine (LV.out _).mono ?_
      rintro e w5 ⟨rfl, b5⟩
      go_wp2_with fail
      go_ret
      exact ⟨rfl, Below.then B4 b5⟩
    rw [u2, v2]
    have HH := hideP u1
    have HB := hideP v1
    have zl : Hid (z4.length = r.body.length) := by
      show _ = _
      have h1 := Mt.body_len v1
      rw [List.length_map] at h1
      rw [← h1]; exact List.length_map ..
    clear u1 u2 v1 v2 e2 e4
    obtain ⟨p0, p1, p2, p3, p4, p5, p6, p7, p8, p9, p10, _⟩ := rf_cells (w := w) H4 F4
    have TO := hideP (open_at r w4 (hr.below B4 (Nat.le_refl _)) vk fa)
    go_wp2_with fail
    refine TO.out.mono ?_
    rintro e w5 ⟨rfl, b5⟩
    have B5 := Below.then B4 b5
    have H5 := below_heap b5 H4
    have F5 := below_heap b5 F4
    have R5 := R4.safe (Safe.below b5)
    have L5 := L4.below b5 (Nat.le_refl _)
    have K5 := K4.safe (Safe.below b5)
    clear p0 p1 p2 p3 p4 p5 p6 p7 p8 p9 p10 TO B4 H4 F4 R4 L4 K4 b5
    cases ho : Mt.opn r.r with
    | true =>
      clear ho
      go_wp2_with fail
      refine (LV.out _).mono ?_
      rintro e w6 ⟨rfl, b6⟩
      go_wp2_with fail
      go_ret
      exact ⟨rfl, Below.then B5 b6⟩
    | false =>
      have FT := hideP (Mt.inst HH.out HB.out ho)
      have TF := hideP (mFollows_at r 0 z2 a4 c4 z4 w5 (hr.below B5 (Nat.le_refl _)) (row_args R5.row) L5 (fun z hz => row_args (K5 z hz).row) f2.a f2.b f2.c)
      rw [FT.out] at TF
      clear ho FT
      obtain ⟨y0, y1, y2, y3⟩ := fv_cells F5
      go_wp2_with (refine wpList_load_all rfl 37 _ rfl w.heap.size 11 37 (rv r) _ rfl H5 rfl Try.underlying37 rfl iR ?_)
      refine TF.out.mono ?_
      rintro e w6 ⟨rfl, b6⟩
      have B6 := Below.then B5 b6
      have H6 := below_heap b6 H5
      have F6 := below_heap b6 F5
      have R6 := R5.safe (Safe.below b6)
      have L6 := L5.below b6 (Nat.le_refl _)
      have K6 := K5.safe (Safe.below b6)
      have nU6 : U < w6.heap.size := heap_lt F6
      clear y0 y1 y2 y3 TF B5 H5 F5 R5 L5 K5 b6 nU4
      by_cases hpos : 0 < z4.length
      rotate_left
      · have q3 : ((z4.length : Int) == 0) = true := by rw [beq_iff_eq]; omega
        clear hpos
        go_wp2_with fail
        refine (LV.out _).mono ?_
        rintro e w7 ⟨rfl, b7⟩
        go_wp2_with fail
        go_ret
        exact ⟨rfl, Below.then B6 b7⟩
      · have q3 : ((z4.length : Int) == 0) = false := by rw [beq_eq_false_iff_ne]; omega
        have kk9 : ∀ z ∈ z4, z.ks.length ≤ 900000 ∧ z.pred.length ≤ 140737488351232 := fun z hz => by
          obtain ⟨l, ⟨h1, h2⟩, h3, h4⟩ := body_pre HB.out (P := fun l => l.args.length ≤ 900000 ∧ l.pred.length ≤ 140737488351232) (fun l hl => by
            obtain ⟨y, hy, rfl⟩ := List.mem_map.1 hl
            exact ⟨fc y hy, tr.b y hy⟩) z.f (List.mem_map.2 ⟨z, hz, rfl⟩)
          have h5 : z.ks.length = l.args.length := h4
          have h6 : z.pred = l.pred := h3
          exact ⟨by omega, by rw [h6]; exact h2⟩
        have TC := hideP (rcopy4_at a4 c4 z4 w6 L6 (fun z hz => row_args (K6 z hz).row) (by have := zl.out; omega) (fun z hz => (kk9 z hz).1))
        go_wp2_with fail
        refine TC.out.mono ?_
        rintro e w7 ⟨⟨a7, c7, z7, rfl, R7, o7, K7, e7⟩, b7⟩
        have B7 := Below.then B6 b7
        have H7 := below_heap b7 H6
        have F7 := below_heap b7 F6
        have S7 := R6.safe (Safe.below b7)
        have l7 : z7.length = z4.length := by
          have := congrArg List.length e7
          simpa using this
        have pp7 : ∀ z ∈ z7, z.pred.length ≤ 140737488351232 := fun z hz => by
          have : z.f ∈ z4.map Fv.f := by rw [← e7]; exact List.mem_map.2 ⟨z, hz, rfl⟩
          obtain ⟨y, hy, h9⟩ := List.mem_map.1 this
          have h8 : y.pred = z.pred := congrArg F.pred h9
          rw [← h8]; exact (kk9 y hy).2
        have hn7 : 0 < z7.length := by omega
        have hn8 : z7.length ≤ 200 := by have := zl.out; omega
        have E7 := hideP e7
        have L7' := hideP l7
        have s6 : w.heap.size < w6.heap.size := heap_lt H6
        clear e7 l7 TC kk9 B6 H6 F6 R6 L6 K6 b7 hpos q3
        obtain ⟨ad, hC⟩ : ∃ ad, a7 = some ad := by
          obtain ⟨g, o, h9⟩ := R7.row.addr hn7
          exact ⟨_, h9⟩
        obtain ⟨hg1, hg2, hg3⟩ := o7 ad hC
        obtain ⟨g, oo, sp⟩ := ad
        simp only at hg1 hg2 hg3
        subst hg2 hg3 hC
        obtain ⟨⟨t3, t4⟩, I, hI, hIl⟩ := tmod_ix k z7.length hn7
        have rI : w7.rangeAt g (0 + I * 4) (fv (z7[I]'hIl)) := R7.row.range I hIl
        have cI : w7.cell? ⟨g, 0 + I * 4 + 2, none⟩ = some (str (z7[I]'hIl).pred) := rI 2 _ rfl
        rw [Nat.zero_add] at cI
        obtain ⟨cur, hcur⟩ := R7.tag _ rfl
        simp only at hcur
        have hsz := cell_lt hcur cI
        have RP := hideP (R7.pred (p := (z7[I]'hIl).pred ++ [120]) hIl)
        have pI := pp7 _ (List.getElem_mem hIl)
        have hkset := hideP hIl
        generalize hzI : (z7[I]'hIl) = zI at *
        have HzI := hideP hzI
        have qn : (z7.length : Int) ≠ 0 := by omega
        have q4 : (I : Int) < (z7.length : Int) := by omega
        clear hzI rI o7 pp7
        obtain ⟨pc, e5, f5, n5, l5⟩ := cat11 zI.pred [120]
        have l6 : pc.length ≤ 140737488351233 := by rw [l5]; simp only [List.length_cons, List.length_nil]; omega
        have l7 : zI.pred.length + 1 ≤ 140737488351233 := by omega
        clear l5
        rw [← e5.out] at RP
        go_wp2_with (refine wpList_store_celW rfl 9 _ _ rfl g (I * 4 + 2) 40 (str pc) rfl rfl hcur hsz iS rfl ?_; intro w8 hw8 b8)
        have RP8 := RP.out
        rw [Nat.zero_add, ← hw8] at RP8
        have B8 : Below w.heap.size w w8 := B7.trans (b8.lower (by omega) B7.size)
        have H8 := b8.heap (by omega) H7
        have F8 := b8.heap (by omega) F7
        have SK8 : Safe 23 w7 w8 := Safe.but b8 hcur (by decide)
        have S8 := S7.safe SK8
        have K8 : EachK w8 (z7.set I ⟨zI.at_, zI.by_, pc, zI.a, zI.cap, zI.ks⟩) := fun z hz => by
          rcases List.mem_or_eq_of_mem_set hz with h9 | h9
          · exact (K7 z h9).safe SK8
          · subst h9
            have := K7 (z7[I]'hIl) (List.getElem_mem hIl)
            rw [HzI.out] at this
            exact this.safe SK8
        have P8 := inst_other (r := r.r) (d := L) (h := z2.f) HB.out E7.out hIl HzI.out e5.out
        have ML : (z7.set I ⟨zI.at_, zI.by_, pc, zI.a, zI.cap, zI.ks⟩).length = z7.length := List.length_set ..
        have ZL := hideP (L7'.out.trans zl.out)
        rw [← ML] at ZL hn7 hn8 ⊢
        generalize z7.set I ⟨zI.at_, zI.by_, pc, zI.a, zI.cap, zI.ks⟩ = mm at *
        clear ML RP hw8 b8 SK8 S7 K7 H7 F7 B7 R7 E7 L7' HB HH zl hsz hcur cI t3 t4 hI q4 qn hkset f5 n5 l6 l7 pI HzI e5
        match mm, hn7 with
        | y9 :: ys, _ =>
        have RT := row_tl RP8
        have TM := hideP (fun W (hW : Below w8.heap.size w8 W) => mFollows_at r 0 z2 (some ⟨g, 0, none⟩) c7 (y9 :: ys) W (hr.below (Below.then B8 hW) (Nat.le_refl _)) (row_args (S8.safe (Safe.below hW)).row) (RP8.row.below hW (Nat.le_refl _)) (fun z hz => row_args ((K8 z hz).safe (Safe.below hW)).row) f2.a f2.b f2.c)
        have TN := hideP (fun W (hW : Below w8.heap.size w8 W) => mFollows_at r 0 z2 (some (tl g 0 c7)) (c7 - 1) ys W (hr.below (Below.then B8 hW) (Nat.le_refl _)) (row_args (S8.safe (Safe.below hW)).row) (RT.row.below hW (Nat.le_refl _)) (fun z hz => row_args ((K8 z (List.mem_cons_of_mem _ hz)).safe (Safe.below hW)).row) f2.a f2.b f2.c)
        rw [P8] at TM
        rw [Mt.fol_len (r := r.r) (h := z2.f) (b := ys.map Fv.f) (by
          rw [List.length_map, show r.r.body.length = r.body.length from List.length_map .., ← ZL.out, List.length_cons]; omega)] at TN
        have SL := fun W => slice1 g 0 ys.length c7 W
        have q5 : (1 : Int) ≤ ((ys.length + 1 : Nat) : Int) := by omega
        simp only [List.length_cons] at hn8 ⊢
        have X8d := (Below.refl w8.heap.size w8).drew
        have H8d := below_heap X8d H8
        have F8d := below_heap X8d F8
        clear RT RP8 K8 S8 P8 ZL
        go_region_held3 (fun W => W.cell? ⟨w.heap.size, 0, none⟩ = some (str r.home.v) ∧ W.cell? ⟨w.heap.size, 1, none⟩ = some (.bool r.home.k.num) ∧ W.cell? ⟨w.heap.size, 2, none⟩ = some (.int .i64 r.home.k.n) ∧ W.cell? ⟨w.heap.size, 3, none⟩ = some (str r.home.k.s) ∧ W.cell? ⟨w.heap.size, 4, none⟩ = some (str r.pred) ∧ W.cell? ⟨w.heap.size, 5, none⟩ = some (.slice r.a r.args.length r.cap) ∧ W.cell? ⟨w.heap.size, 6, none⟩ = some (str r.to_.v) ∧ W.cell? ⟨w.heap.size, 7, none⟩ = some (.bool r.to_.k.num) ∧ W.cell? ⟨w.heap.size, 8, none⟩ = some (.int .i64 r.to_.k.n) ∧ W.cell? ⟨w.heap.size, 9, none⟩ = some (str r.to_.k.s) ∧ W.cell? ⟨w.heap.size, 10, none⟩ = some (.slice r.ba r.body.length r.bcap) ∧ W.cell? ⟨U, 0, none⟩ = some (str z2.at_) ∧ W.cell? ⟨U, 1, none⟩ = some (str z2.by_) ∧ W.cell? ⟨U, 2, none⟩ = some (str z2.pred) ∧ W.cell? ⟨U, 3, none⟩ = some (.slice z2.a z2.ks.length z2.cap)) (first | with_reducible exact rf_cells H8d F8d | with_reducible exact rf_cells H9 F9 | with_reducible exact rf_cells HA FA | with_reducible exact rf_cells HB FB) (first
          | (go_at_call 24; refine (TN.out _ X9).mono ?_; rintro e wA ⟨rfl, bA⟩; have XA := Below.then X9 bA; have HA := below_heap bA H9; have FA := below_heap bA F9)
          | (go_at_call 24; refine (TM.out _ X8d).mono ?_; rintro e w9 ⟨rfl, b9⟩; have X9 := Below.then X8d b9; have H9 := below_heap b9 H8d; have F9 := below_heap b9 F8d)
          | (go_at_call 9; refine (LV.out _).mono ?_; rintro e wB ⟨rfl, bB⟩; have XB := Below.then XA bB; have HB := below_heap bB HA; have FB := below_heap bB FA))
        go_wp2_with fail
        go_ret
        exact ⟨rfl, Below.then B8 XB⟩
end Go.Proofs.Ytbahbibibpkddaa
