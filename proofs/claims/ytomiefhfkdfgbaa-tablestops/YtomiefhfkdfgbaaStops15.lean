/-
  TableStops, walked.
-/
import Derived.Test.YtomiefhfkdfgbaaSk15
import Derived.Deep.AppendLies
import Derived.Deep.RegionHeld3
namespace Go.Proofs.Ytomiefhfkdfgbaa
open Go.RowKit Go.Shelf Go.Sort
attribute [local go_sem] Oper.semAt_some

set_option maxRecDepth 100000 in
set_option maxHeartbeats 8000000 in
theorem tableStops_walk (a : Option Addr) (c : Nat) (xs : List Fv) (stop : Int) (x : Fv) (w : World) (hl : Lies w a c xs) (hx : ∀ x ∈ xs, Fv.At w x ∧ TxF x) (hfx : Fv.At w x) (_ : TxF x) (_ : -9223372036854775808 ≤ stop) (_ : stop ≤ 9223372036854775807) :
    Calls Try.prog 6 #[.slice a xs.length c, .int .i64 stop, x.val] w fun e w' => e = .returned (.bool true) ∧ Below w.heap.size w w' := by
  have LV := hideP (fun W => live15_at W)
  have PM := hideP (fun (W : World) (b : Nat) (fs : List F) (x : Fv) (h : PutAt w b fs W) (hx : Fv.At W x) => put_more x h hx)
  have HX := hideP hx
  have xfew := hfx.few
  have A0 := below_alloc w (.cells #[str x.at_, str x.by_, str x.pred, .slice x.a x.ks.length x.cap] 34)
  have N0 := heap_alloc_new w (.cells #[str x.at_, str x.by_, str x.pred, .slice x.a x.ks.length x.cap] 34)
  refine calls_marks Try.func6 rfl ?_
  simp only [Try.ntmps6, List.size_toArray, List.length_cons, List.length_nil, Nat.reduceAdd, Nat.reduceSub, Array.replicate_succ, Array.replicate_zero, List.push_toArray, List.append_toArray, List.nil_append, List.cons_append]
  go_wp2_with fail
  generalize hW0 : w.alloc (.cells #[str x.at_, str x.by_, str x.pred, .slice x.a x.ks.length x.cap] 34) = w0 at *
  clear hW0
  refine (weight15 300 (by decide) a c xs w0 (hl.below A0 (Nat.le_refl _)) (fun x h => ((hx x h).1).below A0 (Nat.le_refl _)) (fun x h => (hx x h).2)).mono ?_
  rintro e w1 ⟨⟨r, rfl, hr⟩, G1⟩
  have N1 := below_heap G1.below N0
  have B1 := Below.then A0 G1.below
  clear hx G1 N0 A0
  by_cases hgt : 300 < r
  · go_wp2_with fail
    refine (LV.out w1).mono ?_
    rintro e w2 ⟨rfl, b2⟩
    go_wp2_with fail
    exact ⟨_, results_tmp rfl _ _ _, rfl, Below.then B1 b2⟩
  · have hn := hr hgt
    clear hr
    go_wp2_with fail
    refine (new_at 4096 w1 (by decide) (by decide)).mono ?_
    rintro e w2 ⟨rfl, T2, e2⟩
    have B2 : Below w1.heap.size w1 w2 := by rw [e2]; exact below_alloc _ _
    have C2 := Below.then B1 B2
    have N2 := below_heap B2 N1
    have hb1 := B1.size
    have hbx : w.heap.size ≠ w1.heap.size := by have := heap_lt N1; omega
    have hbl : w1.heap.size < w2.heap.size := T2.lt
    clear e2 B2 N1
    generalize w1.heap.size = b at *
    have H3 := heap_alloc_new w2 (.cells #[.pointer none] 23)
    go_wp2_with (refine wpList_store_cel rfl 23 _ _ rfl w2.heap.size 0 1 23 (ptr b) #[ptr b] rfl rfl H3 rfl (by decide) (by kernel_rfl) rfl rfl ?_; intro w3 N3 d3; have B3 := below_tok d3)
    have K2 := below_heap B3 N2
    have P3 : PutAt w b ((xs.map Fv.f).take 0) w3 := ⟨_, _, _, T2.below B3, rfl⟩
    have C3 := Below.then C2 B3
    have hbt : w2.heap.size ≠ b := by omega
    have hb2 := C2.size
    clear H3 d3 B3 N2 T2 C2 hbl
    generalize w2.heap.size = tb at *
    go_loopw [9] (fun v9 wr => ∃ k : Nat, v9 = .int .i64 (k : Int) ∧ k ≤ xs.length ∧ PutAt w b ((xs.map Fv.f).take k) wr ∧ wr.heap[w.heap.size]? = some (.cells #[str x.at_, str x.by_, str x.pred, .slice x.a x.ks.length x.cap] 34) ∧ wr.heap[tb]? = some (.cells #[ptr b] 23) ∧ Below w.heap.size w wr) (fun v9 _ => xs.length - (intOf v9).toNat)
    case atStart => exact ⟨0, rfl, Nat.zero_le _, P3, K2, N3, C3⟩
    case round =>
      clear P3 K2 N3 C3
      obtain ⟨k, rfl, hk, P3, K2, N3, C3⟩ := hrel
      by_cases hlt : k < xs.length
      · have q2 : (k : Int) < (xs.length : Int) := by omega
        obtain ⟨P, O, rfl⟩ := hl.addr (Nat.lt_of_le_of_lt (Nat.zero_le _) hlt)
        have hA := ((HX.out _ (List.getElem_mem hlt)).1).below C3 (Nat.le_refl _)
        have hst : Hid ((xs.map Fv.f).take (k + 1) = (xs.map Fv.f).take k ++ [(xs[k]'hlt).f]) := by
          show _ = _
          rw [List.take_succ_eq_append_getElem (by simpa using hlt), List.getElem_map]
        have HG := hideP (fun (X : World) (h : But b wr X) => (hl.below (C3.trans (h.lower hb1 C3.size)) (Nat.le_refl _)).get k hlt)
        generalize (xs[k]'hlt) = p at *
        have HK : Hid (∀ X, But b wr X → (X.cell? ⟨tb, 0, none⟩ = some (ptr b) ∧ X.cell? ⟨P, O + k * 4, none⟩ = some (str p.at_) ∧ X.cell? ⟨P, O + k * 4 + 1, none⟩ = some (str p.by_) ∧ X.cell? ⟨P, O + k * 4 + 2, none⟩ = some (str p.pred) ∧ X.cell? ⟨P, O + k * 4 + 3, none⟩ = some (.slice p.a p.ks.length p.cap))) := fun X hX => ⟨by rw [heap_cell (hX.heap hbt N3)]; rfl, HG.out X hX⟩
        have GB : Below wr.heap.size wr wr.drew := (Below.refl _ wr).drew
        have GD : But b wr wr.drew := But.of_below GB
        have TH := hideP (PM.out wr.drew b _ p (P3.below GB) (hA.below GB (Nat.le_refl _)))
        clear HG
        go_wp2_with fail
        go_region_held3 (fun X => X.cell? ⟨tb, 0, none⟩ = some (ptr b) ∧ X.cell? ⟨P, O + k * 4, none⟩ = some (str p.at_) ∧ X.cell? ⟨P, O + k * 4 + 1, none⟩ = some (str p.by_) ∧ X.cell? ⟨P, O + k * 4 + 2, none⟩ = some (str p.pred) ∧ X.cell? ⟨P, O + k * 4 + 3, none⟩ = some (.slice p.a p.ks.length p.cap)) (first | with_reducible exact HK.out _ GD | with_reducible exact HK.out _ G4) (first
          | (go_at_call 12; refine (TH.out).mono ?_; rintro e w4 ⟨v4, rfl, P4, D4⟩; have G4 := GD.trans D4.but))
        have C4 : Below w.heap.size w w4 := C3.trans (G4.lower hb1 C3.size)
        have N4 := G4.heap hbt N3
        have K4 := G4.heap hbx K2
        clear P3 D4 C3 N3 K2 hA HK GB GD TH
        go_wp2_with fail
        exact ⟨⟨k + 1, by simp, by omega, by rw [hst.out]; exact P4, K4, N4, C4⟩, by simp [intOf]; omega⟩
      · have q2 : ¬ (k : Int) < (xs.length : Int) := by omega
        obtain rfl : k = xs.length := by omega
        rw [List.take_of_length_le (by simp)] at P3
        obtain ⟨a1, c1, ps, T3, hps⟩ := P3.tab
        have cb : wr.cell? ⟨tb, 0, none⟩ = some (ptr b) := by rw [heap_cell N3]; rfl
        clear P3 PM hl HX hps
        go_wp2_with fail
        refine (all_tab wr T3).mono ?_
        rintro e w4 ⟨⟨bt, bi, rfl, I4⟩, B4⟩
        go_wp2_with fail
        refine (gather_all wr w4 T3 I4).mono ?_
        rintro e w5 ⟨⟨a5, c5, zs, rfl, O5, hzs, hzl⟩, B5⟩
        have B45 := Below.then B4 B5
        have T5 := T3.below B45
        have N5 := below_heap B45 N3
        have K5 := below_heap B45 K2
        have C5 := Below.then C3 B45
        have hzfew : Hid (zs.length ≤ 4096) := by show _ ≤ _; have := T5.room; have := T5.high; omega
        have HZ := hideP hzs
        have cb5 : w5.cell? ⟨tb, 0, none⟩ = some (ptr b) := by rw [heap_cell N5]; rfl
        clear I4 B4 B5 B45 T3 N3 C3 K2 hzs hzl hn cb
        go_wp2_with fail
        refine (all_tab w5 T5).mono ?_
        rintro e w6 ⟨⟨bt6, bi6, rfl, I6⟩, B6⟩
        go_wp2_with fail
        refine (gather_at bt6 bi6 _ _ ps _ stop w6 I6 (by have := T5.room; have := T5.high; omega)).mono ?_
        rintro e w7 ⟨⟨a7, c7, ys, rfl, O7, hys⟩, B7⟩
        rw [all_told] at hys
        have B67 := Below.then B6 B7
        have T7 := T5.below B67
        have N7 := below_heap B67 N5
        have K7 := below_heap B67 K5
        have C7 := Below.then C5 B67
        have Z7 := O5.below B67
        have HY := hideP hys
        have hyl : Hid (ys.length ≤ 4096) := by
          show _ ≤ _
          have h1 := congrArg List.length hys
          rw [List.length_map] at h1
          have h2 : (cut15 stop (ps.map Pn.f)).length ≤ (ps.map Pn.f).length := by unfold cut15; split <;> simp; omega
          rw [List.length_map] at h2
          have := T7.room; have := T7.high; omega
        clear I6 B6 B7 B67 T5 N5 C5 K5 O5 hys cb5
        go_wp2_with fail
        refine (begin_at a5 zs.length c5 stop w7 Z7.row.row.room).mono ?_
        rintro e w8 ⟨rfl, rfl⟩
        obtain ⟨qs, hqs⟩ : ∃ qs, qs = zs.take (if 0 ≤ stop ∧ stop < (zs.length : Int) then stop.toNat else zs.length) := ⟨_, rfl⟩
        have hql : (if 0 ≤ stop ∧ stop < (zs.length : Int) then stop.toNat else zs.length) = qs.length := by
          rw [hqs, List.length_take]
          split <;> omega
        rw [hql]
        have hqf : Hid (qs.map Fv.f = cut15 stop (ps.map Pn.f)) := by
          show _ = _
          unfold cut15
          rw [← HZ.out, List.length_map, hqs]
          split
          · rw [List.map_take]
          · rw [List.take_length]
        have hqlen : qs.length ≤ zs.length := by rw [hqs, List.length_take]; omega
        have LQ : Lies w7 a5 c5 qs := by
          have h1 := Z7.row.row.cutH qs.length hqlen
          have e1 : zs.take qs.length = qs := by rw [hqs, List.length_take, List.take_eq_take_iff]; omega
          rw [e1] at h1
          exact ⟨h1.room, Z7.most, by have := hzfew.out; omega, h1.void, h1.cells⟩
        have AQ : ∀ z ∈ qs, Fv.At w7 z := fun z hz => Z7.at_ z (List.mem_of_mem_take (by rw [hqs] at hz; exact hz))
        clear hqs hql
        go_wp2_with fail
        refine (like_at a7 a5 c7 c5 ys qs w7 (O7.lies (by have := hyl.out; omega)) LQ O7.at_ AQ).mono ?_
        rintro e w8 ⟨rfl, G8⟩
        rw [(likeB_iff _ _).2 (by rw [HY.out, hqf.out])]
        have T8 := T7.below G8.below
        have N8 := below_heap G8.below N7
        have K8 := below_heap G8.below K7
        have Z8 := Z7.below G8.below
        have C8 := Below.then C7 G8.below
        obtain ⟨S9, A9⟩ : (w8.alloc (.cells #[.slice none 0 0] 41)).heap[w8.heap.size]? = some (.cells #[.slice none 0 0] 41) ∧ Below w8.heap.size w8 (w8.alloc (.cells #[.slice none 0 0] 41)) := ⟨heap_alloc_new _ _, below_alloc _ _⟩
        have T9 := T8.below A9
        have N9 := below_heap A9 N8
        have K9 := below_heap A9 K8
        have Z9 := Z8.below A9
        have C9 := Below.then C8 A9
        have hsb : w.heap.size ≤ w8.heap.size := C8.size
        have hsbb : w8.heap.size ≠ b := by have := T8.lt; omega
        have hsbt : w8.heap.size ≠ tb := by have := heap_lt N8; omega
        have hsbx : w8.heap.size ≠ w.heap.size := by have := heap_lt K8; omega
        have cb9 : (w8.alloc (.cells #[.slice none 0 0] 41)).cell? ⟨tb, 0, none⟩ = some (ptr b) := by rw [heap_cell N9]; rfl
        clear T7 N7 K7 Z7 C7 G8 LQ AQ O7 hyl hqlen HY hqf T8 N8 K8 Z8 C8 A9
        go_wp2_with fail
        generalize hW9 : w8.alloc (.cells #[.slice none 0 0] 41) = w9 at *
        generalize w8.heap.size = sb at *
        clear hW9
        refine (all_tab w9 T9).mono ?_
        rintro e w10 ⟨⟨bt9, bi9, rfl, I10⟩, B10⟩
        have T10 := T9.below B10
        have N10 := below_heap B10 N9
        have K10 := below_heap B10 K9
        have Z10 := Z9.below B10
        have S10 := below_heap B10 S9
        have C10 := Below.then C9 B10
        have hnf : ∀ W, (binOp .eql 44 (.func (.func 60) #[] #[ptr bt9, ptr bi9]) .nilFunc).run Try.prog W = .ok (.bool false) W := fun W => by kernel_rfl
        clear T9 N9 K9 Z9 S9 C9 B10 cb9
        go_wp2_with fail
        clear hnf
        have iF : (Try.prog.info? 34).map (·.size) = some 4 := by kernel_rfl
        have HO : Clear (XX b sb) w10 := fun k c t hk hc => by
          rcases hk with rfl | rfl
          · rw [T10.cell] at hc; cases hc; exact .inl rfl
          · rw [S10] at hc; cases hc; exact .inr rfl
        have H0 : SI w10 b sb w10.heap.size [] w10 := ⟨⟨[], none, 0, a1, c1, ps, S10, World.ownsRow_nil _ _ _ _, (fun _ h => by cases h), rfl, T10, fun p hp => ⟨(fun e => by cases e), fun ad ha => by
          obtain ⟨cur, hc⟩ := (T10.lst.each p hp).args.tag ad ha
          exact heap_lt hc⟩, fun g h => by cases h⟩, Rd5.refl _ _ _, Nat.le_refl _⟩
        have XB : ∀ k, XX b sb k → w.heap.size ≤ k := by
          rintro k (rfl | rfl)
          · exact hb1
          · exact hsb
        have XL : ∀ k, XX b sb k → k < w10.heap.size := by
          rintro k (rfl | rfl)
          · exact T10.lt
          · exact heap_lt S10
        have HLEN : ps.length ≤ 4096 := by have := T10.room; have := T10.high; omega
        have hNt : ¬ XX b sb tb := by rintro (h | h) <;> omega
        have hNx : ¬ XX b sb w.heap.size := by rintro (h | h) <;> omega
        clear S10
        refine wp_rangeW (pt := noT) (gf := 60) (lb := #[ptr bt9, ptr bi9]) rfl (enters_of Try.func60 (by kernel_rfl) rfl)
          (Elt := fun W0 => EltC W0.heap.size) (Kp := fun l2 => Rd5 w10.heap.size (orL (XX b sb) l2)) (S := fun xs => xs = told (fun _ => true) ps) (Sp := fun pre => pre <+: told (fun _ => true) ps) (N := ps.length)
          (fun W1 hb1 _ => those_seqW I10 hb1 HO fun k hk => Nat.lt_of_lt_of_le (XL k hk) hb1.size) (fun h k => h.trans k) (fun l2 W5 o o' h1 _ _ => Rd5.but (but_putObj W5 l2 o') (.inr rfl)) rfl
          (fun pre W => ∃ N0, SI w10 b sb N0 pre W) (fun _ _ _ => False)
          (fun s A A' h hit => by
            obtain ⟨N0, h⟩ := h
            exact ⟨N0, h.itr hit (Nat.le_refl _)⟩)
          (fun c s A A' h hit => h.elim)
          ⟨_, H0⟩
          (fun pre f a' W5 => ∃ (z : Fv) (S N0 : Nat), SI w10 b sb N0 pre W5 ∧ W5.heap[S]? = some (.cells (fv z).toArray 34) ∧ N0 ≤ S ∧ w10.heap.size ≤ S ∧ z.f = f ∧ RowT kK 50 W5 z.a z.cap z.ks ∧ (∀ ad, z.a = some ad → N0 ≤ ad.block ∧ w10.heap.size ≤ ad.block) ∧ z.ks.length ≤ 48 ∧ a' = { tmps := #[.slice a xs.length c, .int .i64 stop, x.val, undef, undef, ptr w.heap.size, .bool false, ptr tb, .int .i64 0, .int .i64 (xs.length : Int), .slice a5 zs.length c5, ptr sb, .func (.func 60) #[] #[ptr bt9, ptr bi9], ptr S, .slice a xs.length c, .int .i64 r, .bool (decide (300 < r)), undef, .tuple #[ptr b, .int .i64 0], .tuple #[ptr b, .int .i64 0], ptr b, .int .i64 0, .int .i64 0, .bool false, .int .i64 (xs.length : Int), .slice a xs.length c, .int .i64 (xs.length : Int), .bool false, u28, u29, u30, u31, u32, u33, u34, u35, ptr b, .func (.func 60) #[] #[ptr bt, ptr bi], .slice a5 zs.length c5, ptr b, .func (.func 60) #[] #[ptr bt6, ptr bi6], .int .i64 stop, .slice a7 ys.length c7, .slice a5 zs.length c5, .int .i64 stop, .slice a5 qs.length c5, .bool true, .bool false, ptr b, .func (.func 60) #[] #[ptr bt9, ptr bi9], .func (.func 60) #[] #[ptr bt9, ptr bi9], .bool false, .func (.func 60) #[] #[ptr bt9, ptr bi9], z.val, undef, undef, undef, undef, undef, undef, undef, undef, undef, undef, undef, undef, undef, undef, undef, undef, undef, undef, undef, undef], defers := [] })
          (fun s f a' A A' h hit => by
            obtain ⟨z, S, N0, h1, h2, h3, h4, h5, h6, h7, h8, h9⟩ := h
            exact ⟨z, S, N0, h1.itr hit (Nat.le_refl _), hit.same _ _ _ _ h2 (by decide), h3, h4, h5, h6.safe (hit.safe (by decide)), h7, h8, h9⟩)
          ?assign ?body ?done ?stop
        case assign =>
          rintro l2 pre f _ W0 W5 K hl5 hlt5 ⟨N0, HI0⟩ hB0 hn0 _ ⟨z, rfl, hzf, RZ, NZ, hz48⟩ hK
          have HI5 := HI0.below hB0
          have N5 := heap_alloc_new W5 (.cells #[.string { data := #[] }, .string { data := #[] }, .string { data := #[] }, .slice none 0 0] 34)
          refine round_region (by rintro ⟨_, _, h⟩; exact h) rfl ?_
          go_wp2_with (refine wpList_store_all rfl 34 _ _ rfl W5.heap.size 4 _ 34 (fv z) rfl rfl N5 rfl rfl iF rfl ?_; intro w6 N6 d6; have B6 := below_tok d6)
          exact hK _ _ ((Rd5.of_below (n0 := 0) (X := noX) B6).keeps (fun _ h => h.elim)) (Rd5.of_below B6) ⟨N0, HI5.below B6⟩ ⟨z, W5.heap.size, N0, HI5.below B6, N6, HI5.big, HI5.rd.size, hzf, RZ.safe (Safe.below B6), fun ad ha => ⟨Nat.le_trans HI0.big (NZ ad ha), Nat.le_trans hn0 (NZ ad ha)⟩, by rw [← hzf] at hz48; exact hz48, rfl⟩
        case body =>
          rintro l2 pre f _ W5 hl5 hlt5 _ ⟨z, S, N0, HI5, N5, hNS, hwS, rfl, RZ, NZ, hz48, rfl⟩ hN
          obtain ⟨us, ua, uc, a2, c2, ps2, hbx, hO, hE, hF, hT, hQ, hown⟩ := HI5.st
          have CW5 : Below w.heap.size w W5 := C10.trans (HI5.rd.lower XB C10.size C10.size)
          have NT5 := HI5.rd.same tb _ N10 hNt (.inl (heap_lt N10))
          have NX5 := HI5.rd.same w.heap.size _ K10 hNx (.inl (heap_lt K10))
          have RD5 := HI5.rd
          have hul : Hid (us.length ≤ 4096) := by
            show _ ≤ _
            rw [← List.length_map (f := Fv.f), hF]; omega
          have HF := hideP hF
          clear HI5 hF
          refine wpIn_block ?_
          apply wpIn_seq_k
          intro K5 hK5
          have HK5 := hideP hK5
          clear hK5
          refine round_drawn (S := fun _ => True) (by kernel_rfl) (by rintro ⟨_, _, h⟩; exact h) (by kernel_rfl) ?_
          change wpAnyH _ _ _ _ _ _ _ _ W5.drew
          have D6 : Below W5.heap.size W5 W5.drew := (Below.refl _ _).drew
          have hbx6 := below_heap D6 hbx
          have hO6 := ownsRow_keep hO (Safe.below D6 : Safe 34 _ _)
          have hE6 : ∀ y ∈ us, RowT kK 50 W5.drew y.a y.cap y.ks ∧ ∀ ad, y.a = some ad → ad.block < N0 := fun y hy => ⟨(hE y hy).1.safe (Safe.below D6), (hE y hy).2⟩
          have hT6 := hT.below D6
          have N6 := below_heap D6 N5
          have NT6 := below_heap D6 NT5
          have NX6 := below_heap D6 NX5
          have CW6 := Below.then CW5 D6
          have RD6 := RD5.trans (Rd5.of_below (n0 := w10.heap.size) (X := XX b sb) D6)
          have RZ6 := RZ.safe (Safe.below D6 : Safe 50 _ _)
          have R56 : ∀ X, Rd5 w10.heap.size X W5 W5.drew := fun X => Rd5.of_below D6
          have hs6 : w10.heap.size ≤ W5.drew.heap.size := RD6.size
          clear hbx hO hE hT N5 NT5 NX5 CW5 RD5 RZ D6
          generalize W5.drew = W6 at *
          have cS : ∀ X, Below W6.heap.size W6 X → X.cell? ⟨sb, 0, none⟩ = some (.slice ua us.length uc) := fun X hX => by rw [heap_cell (below_heap hX hbx6)]; rfl
          have hHeld := Below.refl W6.heap.size W6
          refine Sb.each (fun _ X X' => Below X.heap.size X X') (fun _ _ => true) (fun X => Below W6.heap.size W6 X) (fun _ X X' h b => Below.then h b) [0, 1, 2, 3] (fun | 0 => 54 | 1 => 55 | 2 => 56 | _ => 57) (fun | 2 => [1] | 3 => [2] | _ => []) (fun | 0 => ListV ua uc us.length | 1 => (fun v _ => v = z.val) | 2 => OneFv z | _ => CopyV W6.heap.size z) 2 _ _ (by kernel_rfl) (by kernel_rfl) (by kernel_rfl) ?st ?op ?fin W6 trivial hHeld
          case st =>
            intro j _ _ v X X' hR hb
            match j with
            | 0 => exact hR
            | 1 => exact hR
            | 2 => exact OneFv.below hR hb
            | _ + 3 => exact CopyV.below hR hb
          case op =>
            intro j hj o ho g X _ hG hdone
            simp only [List.mem_cons, List.not_mem_nil, or_false] at hj
            rcases hj with rfl | rfl | rfl | rfl
            · have ho' := Option.some.inj ho
              have hop : o.op = .load 41 (.tmp 11) := (congrArg Oper.op ho').symm.trans (by kernel_rfl)
              have hod : o.dst = some 54 := (congrArg Oper.dst ho').symm.trans (by kernel_rfl)
              clear ho ho'
              refine Sb.val (.slice ua us.length uc) (w' := X) (exec_load_cel 41 _ hop sb 0 _ (by kernel_rfl) Try.isAgg41 (cS X hG)) ?_
              rw [hod]
              exact ⟨_, rfl, trivial, Below.refl _ _, rfl⟩
            · have ho' := Option.some.inj ho
              have hop : o.op = .load 34 (.tmp 13) := (congrArg Oper.op ho').symm.trans (by kernel_rfl)
              have hod : o.dst = some 55 := (congrArg Oper.dst ho').symm.trans (by kernel_rfl)
              clear ho ho'
              refine Sb.val z.val (w' := X) (exec_load_all 34 _ hop S (fv z) _ (by kernel_rfl) Try.underlying34 rfl iF (below_heap hG N6)) ?_
              rw [hod]
              exact ⟨_, rfl, trivial, Below.refl _ _, rfl⟩
            · have ho' := Option.some.inj ho
              have hop : o.op = .buildSlice 41 1 #[(0, .tmp 55)] := (congrArg Oper.op ho').symm.trans (by kernel_rfl)
              have hod : o.dst = some 56 := (congrArg Oper.dst ho').symm.trans (by kernel_rfl)
              clear ho ho'
              have e1 : g 1 = z.val := hdone 1 (by decide) (fun _ _ _ _ => rfl)
              simp only [List.foldl_cons, List.foldl_nil]
              rw [e1]
              refine Sb.val (.slice (some ⟨X.heap.size, 0, none⟩) 1 1) (w' := X.alloc (.cells (fv z).toArray 34)) (exec_build _ _ _ #[(0, z.val)] hop (by kernel_rfl) (build_fact z X)) ?_
              rw [hod]
              exact ⟨_, rfl, trivial, below_alloc _ _, X.heap.size, rfl, heap_alloc_new _ _⟩
            · have ho' := Option.some.inj ho
              have hop : o.op = .call { callee := .value (.func 30), args := #[.tmp 56], argTypes := #[41] } := (congrArg Oper.op ho').symm.trans (by kernel_rfl)
              have hod : o.dst = some 57 := (congrArg Oper.dst ho').symm.trans (by kernel_rfl)
              obtain ⟨k, e2, hk⟩ := hdone 2 (by decide) (fun _ _ _ _ => rfl)
              simp only [List.foldl_cons, List.foldl_nil]
              rw [e2]
              have TC := copy1_at k z X W6.heap.size hG.size hk (RZ6.safe (Safe.below hG)) (by omega)
              refine Sb.call (f := 30) (args := #[.slice (some ⟨k, 0, none⟩) 1 1]) (by rw [← ho']; kernel_rfl) (TC.mono (R' := fun e w' => ∃ v, e = .returned v ∧ (CopyV W6.heap.size z v w' ∧ Below X.heap.size X w')) fun e w' ⟨v, q1, q2, q3⟩ => ⟨v, q1, q2, q3⟩) ?_
              rintro v w' ⟨q2, q3⟩
              rw [hod]
              exact ⟨_, rfl, trivial, q3, q2⟩
          case fin =>
            intro g X _ hG hg
            have e0 : g 0 = .slice ua us.length uc := hg 0 (by decide) (fun _ _ _ => rfl)
            have e1 : g 1 = z.val := hg 1 (by decide) (fun _ _ _ => rfl)
            obtain ⟨k, e2, _⟩ := hg 2 (by decide) (fun _ _ _ => rfl)
            obtain ⟨ad, yc, y, e3, RY, RK, NY, hyf⟩ := hg 3 (by decide) (fun _ _ _ => rfl)
            simp only [List.foldl_cons, List.foldl_nil]
            rw [e0, e1, e2, e3]
            clear hg e0 e1 e2 e3 g
            have hZ6 : ∀ ad, z.a = some ad → ad.block < W6.heap.size := fun ad ha => by
              obtain ⟨cur, hc⟩ := RZ6.tag ad ha
              exact heap_lt hc
            have hbxX := below_heap hG hbx6
            have hOX := ownsRow_keep hO6 (Safe.below hG : Safe 34 _ _)
            have EX : ∀ y' ∈ us, RowT kK 50 X y'.a y'.cap y'.ks ∧ ∀ ad, y'.a = some ad → ad.block < N0 := fun y' hy => ⟨(hE6 y' hy).1.safe (Safe.below hG), (hE6 y' hy).2⟩
            have TX := hT6.below hG
            have NSX := below_heap hG N6
            have NTX := below_heap hG NT6
            have NXX := below_heap hG NX6
            have CWX := Below.then CW6 hG
            have RDX := RD6.trans (Rd5.of_below (n0 := w10.heap.size) (X := XX b sb) hG)
            have RZX := RZ6.safe (Safe.below hG : Safe 50 _ _)
            have R5X : Rd5 w10.heap.size (XX b sb) W5 X := (R56 _).trans (Rd5.of_below hG)
            have hsX : w10.heap.size ≤ X.heap.size := Nat.le_trans hs6 hG.size
            have hS6 : S < X.heap.size := heap_lt NSX
            have hYZ : ∀ ad ad', y.a = some ad → z.a = some ad' → ad.block ≠ ad'.block := fun ad ad' h1 h2 => by
              have := NY ad h1; have := hZ6 ad' h2; omega
            clear hbx6 hO6 hE6 hT6 N6 NT6 NX6 CW6 RD6 RZ6 R56 hs6 hG hHeld cS hZ6 NY
            refine wpAnyH_one 4 (by kernel_rfl) ?_
            refine wpOp_of rfl rfl ?_
            refine owp_append_one15 X (.tmp 54) (.tmp 57) (by kernel_rfl) w10.heap.size (.slice ua us.length uc) us y ad yc (by kernel_rfl) hOX (by kernel_rfl) RY.row hsX (by have := hul.out; omega) ?_
            intro gg cap W8 O8 g8 at8 lt8
            refine ⟨trivial, ?_⟩
            have Bo8 := own_below hOX g8 hsX
            have hb8 := Safe.grown (ty := 41) hOX g8 (by decide) _ _ hbxX
            have T8 := tab_grown TX hOX g8 (fun p hp => (hQ p hp).1)
            have sc8 : Safe 50 X W8 := Safe.grown hOX g8 (by decide)
            have NS8 := (g8.block S hS6 (fun e => by have := hown S e.symm; omega)).trans NSX
            have NT8 := (Bo8.block tb (heap_lt N10)).trans NTX
            have NX8 := (Bo8.block w.heap.size (heap_lt K10)).trans NXX
            have CW8 := CWX.trans (Bo8.mono C10.size)
            have RD8 := RDX.trans (grown_rd5 hOX g8 (Nat.le_refl _))
            have R58 := R5X.trans (grown_rd5 (X := XX b sb) hOX g8 (Nat.le_refl _))
            have RZ8 := RZX.safe sc8
            have E8 : ∀ y' ∈ us ++ [y], RowT kK 50 W8 y'.a y'.cap y'.ks ∧ ∀ ad ad', y'.a = some ad → z.a = some ad' → ad.block ≠ ad'.block := fun y' hy => by
              rcases List.mem_append.1 hy with hy | hy
              · exact ⟨(EX y' hy).1.safe sc8, fun ad ad' h1 h2 => by have := (EX y' hy).2 ad h1; have := (NZ ad' h2).1; omega⟩
              · rw [List.mem_singleton] at hy; subst hy
                exact ⟨RK.safe sc8, hYZ⟩
            have Q8 : ∀ p ∈ ps2, gg ≠ p.q ∧ ∀ ad ad', p.x.a = some ad → z.a = some ad' → ad.block ≠ ad'.block := fun p hp => ⟨fun e => by
              rcases at8 with at8 | at8
              · exact (hQ p hp).1 (by rw [at8, e])
              · have := heap_lt (TX.lst.each p hp).cell; omega, fun ad ad' h1 h2 => by have := (hQ p hp).2 ad h1; have := (NZ ad' h2).1; omega⟩
            clear hbxX hOX EX TX NSX NTX NXX CWX RDX RZX R5X hsX Bo8 g8 at8 sc8 RY RK hYZ
            refine wpAnyH_one 5 (by kernel_rfl) ?_
            refine wpOp_store_cell rfl rfl 41 (.tmp 11) (.tmp 58) (by kernel_rfl) sb 0 1 41 (.slice (some ⟨gg, 0, none⟩) (us ++ [y]).length cap) _ #[.slice (some ⟨gg, 0, none⟩) (us ++ [y]).length cap] (by kernel_rfl) (by kernel_rfl) hb8 rfl (by omega) (by kernel_rfl) rfl rfl ?_
            intro W9 H9 d9
            refine ⟨trivial, ?_⟩
            refine wpAnyH_done (by kernel_rfl) ?_ _
            simp only [Act.put, List.getElem_toArray, List.getElem_cons_succ, List.getElem_cons_zero, List.setIfInBounds_toArray, List.set_cons_zero, List.set_cons_succ]
            have s9 : ∀ ty : TypeId, ty ≠ 41 → Safe ty W8 W9 := fun ty hn => Safe.but d9 hb8 hn
            have hbS : S ≠ b := by have := T10.lt; omega
            have T9 := T8.safe ⟨s9 _ (by decide), s9 _ (by decide), s9 _ (by decide)⟩ (s9 _ (by decide))
            have O9 := ownsRow_keep O8 (s9 _ (by decide))
            have NS9 := s9 34 (by decide) _ _ NS8
            have NT9 := s9 23 (by decide) _ _ NT8
            have NX9 := s9 34 (by decide) _ _ NX8
            have CW9 := CW8.trans (d9.lower hsb CW8.size)
            have RD9 := RD8.trans (Rd5.but d9 (.inr rfl))
            have R59 := R58.trans (Rd5.but (X := XX b sb) d9 (.inr rfl))
            have RZ9 := RZ8.safe (s9 50 (by decide))
            have E9 : ∀ y' ∈ us ++ [y], RowT kK 50 W9 y'.a y'.cap y'.ks ∧ ∀ ad ad', y'.a = some ad → z.a = some ad' → ad.block ≠ ad'.block := fun y' hy => ⟨(E8 y' hy).1.safe (s9 _ (by decide)), (E8 y' hy).2⟩
            have lt9 : gg < W9.heap.size := Nat.lt_of_lt_of_le lt8 d9.size
            have hHF : Hid ((us ++ [y]).map Fv.f = pre ++ [z.f]) := by
              show _ = _
              rw [List.map_append, HF.out, ← hyf]; rfl
            clear s9 T8 O8 NS8 NT8 NX8 CW8 RD8 R58 RZ8 E8 d9 hb8 lt8 HF hyf hul hQ hown hS6
            generalize us ++ [y] = vs at *
            refine HK5.out _ _ ?_
            clear HK5
            apply wpIn_seq_k
            intro K6 hK6
            have HK6 := hideP hK6
            clear hK6
            refine round_region (by rintro ⟨_, _, h⟩; exact h) rfl ?_
            have ct9 : W9.cell? ⟨tb, 0, none⟩ = some (ptr b) := by rw [heap_cell NT9]; rfl
            go_wp2_with (refine wpList_load_all rfl 34 _ rfl S 4 34 (fv z) _ rfl NS9 rfl Try.underlying34 rfl iF ?_)
            refine (take_full z W9 T9 (row_args RZ9.row)).mono ?_
            rintro e W11 ⟨he, ⟨a3, c3, ps3, T11, _, hsub⟩, D11⟩
            obtain ⟨tv, rfl⟩ : ∃ tv, e = .returned tv := ⟨_, he⟩
            clear he
            have H11 := D11.but.heap hsbb H9
            have O11 := ownsRow_keep O9 (D11.safe (by decide))
            have NS11 := D11.but.heap hbS NS9
            have NT11 := D11.but.heap hbt NT9
            have NX11 := D11.but.heap hbx NX9
            have CW11 := CW9.trans (D11.but.lower hb1 CW9.size)
            have RD11 := RD9.trans (Rd5.but D11.but (.inl rfl))
            have R511 := R59.trans (Rd5.but (X := XX b sb) D11.but (.inl rfl))
            have RZ11 := RZ9.safe (D11.safe (ty := 50) (by decide))
            have E11 : ∀ y' ∈ vs, RowT kK 50 W11 y'.a y'.cap y'.ks ∧ ∀ ad ad', y'.a = some ad → z.a = some ad' → ad.block ≠ ad'.block := fun y' hy => ⟨(E9 y' hy).1.safe (D11.safe (by decide)), (E9 y' hy).2⟩
            have Q11 : ∀ p ∈ ps3, gg ≠ p.q ∧ ∀ ad ad', p.x.a = some ad → z.a = some ad' → ad.block ≠ ad'.block := fun p hp => Q8 p (hsub p hp)
            have lt11 : gg < W11.heap.size := Nat.lt_of_lt_of_le lt9 D11.but.size
            clear H9 O9 NS9 NT9 NX9 CW9 RD9 R59 RZ9 E9 Q8 lt9 T9 D11 hsub ct9
            go_wp2_with fail
            gi_wp2
            refine HK6.out _ _ ?_
            clear HK6
            apply wpIn_seq_k
            intro K7 hK7
            have HK7 := hideP hK7
            clear hK7
            refine round_region (by rintro ⟨_, _, h⟩; exact h) rfl ?_
            have ct11 : W11.cell? ⟨tb, 0, none⟩ = some (ptr b) := by rw [heap_cell NT11]; rfl
            go_wp2_with (refine wpList_load_all rfl 34 _ rfl w.heap.size 4 34 (fv x) _ rfl NX11 rfl Try.underlying34 rfl iF ?_)
            refine (put_full x W11 T11 (hfx.below CW11 (Nat.le_refl _))).mono ?_
            rintro e W12 ⟨rfl, ⟨a4, c4, ps4, T12, _, hsub⟩, D12⟩
            have H12 := D12.but.heap hsbb H11
            have O12 := ownsRow_keep O11 (D12.safe (by decide))
            have NS12 := D12.but.heap hbS NS11
            have RD12 := RD11.trans (Rd5.but D12.but (.inl rfl))
            have R512 := R511.trans (Rd5.but (X := XX b sb) D12.but (.inl rfl))
            have RZ12 := RZ11.safe (D12.safe (ty := 50) (by decide))
            have E12 : ∀ y' ∈ vs, RowT kK 50 W12 y'.a y'.cap y'.ks ∧ ∀ ad ad', y'.a = some ad → z.a = some ad' → ad.block ≠ ad'.block := fun y' hy => ⟨(E11 y' hy).1.safe (D12.safe (by decide)), (E11 y' hy).2⟩
            have Q12 : ∀ p ∈ ps4, gg ≠ p.q ∧ ∀ ad ad', p.x.a = some ad → z.a = some ad' → ad.block ≠ ad'.block := fun p hp => by
              rcases hsub p hp with h | ⟨h1, h2⟩
              · exact Q11 p h
              · exact ⟨fun e => by omega, fun ad ad' q1 q2 => by
                  obtain ⟨cur, hc⟩ := RZ11.tag ad' q2
                  have := h2 ad q1; have := heap_lt hc; omega⟩
            have lt12 : gg < W12.heap.size := Nat.lt_of_lt_of_le lt11 D12.but.size
            clear H11 O11 NS11 NT11 NX11 CW11 RD11 R511 RZ11 E11 Q11 lt11 T11 D12 hsub ct11
            go_wp2_with fail
            gi_wp2
            refine HK7.out _ _ ?_
            clear HK7
            refine round_region (by rintro ⟨_, _, h⟩; exact h) rfl ?_
            have A13 := below_alloc W12 (.cells (fv z).toArray 34)
            have L13 := heap_alloc_new W12 (.cells (fv z).toArray 34)
            have H13 := below_heap A13 H12
            have O13 := ownsRow_keep O12 (Safe.below A13 : Safe 34 _ _)
            have RD13 := RD12.trans (Rd5.of_below (n0 := w10.heap.size) (X := XX b sb) A13)
            have R513 := R512.trans (Rd5.of_below (n0 := w10.heap.size) (X := XX b sb) A13)
            have RZ13 := RZ12.safe (Safe.below A13 : Safe 50 _ _)
            have E13 : ∀ y' ∈ vs, RowT kK 50 (W12.alloc (.cells (fv z).toArray 34)) y'.a y'.cap y'.ks ∧ ∀ ad ad', y'.a = some ad → z.a = some ad' → ad.block ≠ ad'.block := fun y' hy => ⟨(E12 y' hy).1.safe (Safe.below A13), (E12 y' hy).2⟩
            have T13 := T12.below A13
            have lt13 := Nat.lt_of_lt_of_le lt12 A13.size
            have TSP := hideP (spoil1_at W12.heap.size z _ L13 RZ13)
            clear H12 O12 RD12 R512 RZ12 E12 T12 lt12 A13 L13
            go_wp2_with (first
              | (refine wpList_load_all rfl 34 _ rfl S 4 34 (fv z) _ rfl NS12 rfl Try.underlying34 rfl iF ?_)
              | (refine wpList_build_one rfl 41 34 _ rfl (fv z) _ 4 72 rfl rfl (by decide) (by decide) Try.underlying41 Try.infoF ?_))
            refine TSP.out.mono ?_
            rintro e W14 ⟨rfl, hS⟩
            obtain ⟨HSI, HRD⟩ := spoil_end RZ13 (fun ad ha => (NZ ad ha).2) hS H13 O13 lt13 E13 T13 Q12 RD13
            have R514 := R513.trans (HRD (XX b sb))
            have HSI2 := hideP HSI
            clear H13 O13 RD13 R513 RZ13 E13 T13 lt13 TSP hS NS12 HRD HSI Q12
            go_wp2_with fail
            refine ⟨R514.keeps XL, R514.mono (fun k hk => .inl hk), _, by rw [← hHF.out]; exact HSI2.out⟩
        case done =>
          rintro D fs W7 hD7 rfl ⟨N0, HI7⟩ hK7
          obtain ⟨us, ua, uc, a2, c2, ps2, hbx, hO, hE, hF, _, _, _⟩ := HI7.st
          rw [all_told] at hF
          have s7 := HI7.rd.s3 (Nat.le_refl _) HO
          have Z7 := Z10.safe s7.facts s7.args
          have CW7 : Below w.heap.size w W7 := C10.trans (HI7.rd.lower XB C10.size C10.size)
          have hul : us.length ≤ 4096 := by
            rw [← List.length_map (f := Fv.f), hF, List.length_map]; omega
          obtain ⟨a', c', e, hr, _⟩ := own_row (D := fK) hO (by omega)
          cases e
          obtain ⟨a2', c2', e2, OF⟩ := own_facts (xs := us) hO (by omega)
          cases e2
          have U7 : Own15 0 W7 ua uc us := ⟨hr, OF.most, fun _ _ => Nat.zero_le _, fun z hz => (hE z hz).1, fun _ _ _ _ => Nat.zero_le _⟩
          have cb7 : W7.cell? ⟨sb, 0, none⟩ = some (.slice ua us.length uc) := by rw [heap_cell hbx]; rfl
          have HF := hideP hF
          have HTL := hideP (like_at ua a5 uc c5 us zs W7 (U7.lies (by omega)) (Z7.lies (by have := hzfew.out; omega)) U7.at_ Z7.at_)
          clear hF s7 hO hE hr OF hbx HI7 Z7 U7 hul
          go_wp2_with fail
          refine HTL.out.mono ?_
          rintro e W8 ⟨rfl, G8⟩
          rw [(likeB_iff _ _).2 (by rw [HF.out, HZ.out])]
          have hK8 := below_heap G8.below hK7
          have CW8 := Below.then CW7 G8.below
          clear HTL G8 hK7 CW7
          go_wp2_with fail
          refine (LV.out W8).mono ?_
          rintro e W9 ⟨rfl, b9⟩
          have hK9 := below_heap b9 hK8
          have CW9 := Below.then CW8 b9
          have IT : Itr noT w10.heap.size W9 (W9.putObj D (.deferred none)) := Itr.putObj _ hK9 rfl hD7
          clear b9 hK8 CW8
          go_wp2_with fail
          refine ⟨by simp, .inl ⟨_, _, rfl, run_takeDeferred hK9, ?_⟩⟩
          exact ⟨_, results_tmp rfl _ _ _, rfl, CW9.trans (IT.toBelow.mono C10.size)⟩
        case stop =>
          rintro D c pre W _ _ h _
          exact h.elim
end Go.Proofs.Ytomiefhfkdfgbaa
