/-
  gather: what a range tells, up to a number.
-/
import Derived.Test.YtomiefhfkdfgbaaAl15
import Derived.Test.YtomiefhfkdfgbaaOw
import Derived.Test.YtomiefhfkdfgbaaBs
namespace Go.Proofs.Ytomiefhfkdfgbaa
open Go.RowKit Go.Shelf Go.Sort
attribute [local go_sem] Oper.semAt_some

theorem Try.iFk15 : (Try.prog.info? 34).map (fun i => (i.zero, i.size, i.bytes)) = some (some (.agg #[.string .empty, .string .empty, .string .empty, .slice none 0 0]), fK.k, 72) := by kernel_rfl
/-- a beginning of that length (below 0, or beyond the end: all) -/
def cut15 (stop : Int) (L : List F) : List F := if 0 ≤ stop ∧ stop < (L.length : Int) then L.take stop.toNat else L
/-- A LIST of facts that the call made: rows and Args from n on -/
structure Own15 (n : Nat) (w : World) (a : Option Addr) (c : Nat) (zs : List Fv) : Prop where
  row : RowT fK 34 w a c zs
  most : c ≤ maxLen
  low : ∀ ad, a = some ad → n ≤ ad.block
  args : ∀ z ∈ zs, RowT kK 50 w z.a z.cap z.ks
  new : ∀ z ∈ zs, ∀ ad, z.a = some ad → n ≤ ad.block
theorem Own15.below {n : Nat} {w w' : World} {a : Option Addr} {c : Nat} {zs : List Fv} (h : Own15 n w a c zs) (hb : Below w.heap.size w w') : Own15 n w' a c zs := ⟨h.row.safe (Safe.below hb), h.most, h.low, fun z hz => (h.args z hz).safe (Safe.below hb), h.new⟩
theorem Own15.safe {n : Nat} {w w' : World} {a : Option Addr} {c : Nat} {zs : List Fv} (h : Own15 n w a c zs) (s1 : Safe 34 w w') (s2 : Safe 50 w w') : Own15 n w' a c zs := ⟨h.row.safe s1, h.most, h.low, fun z hz => (h.args z hz).safe s2, h.new⟩
/-- what has been gathered -/
structure GaI (w : World) (ob sb : Nat) (stop : Int) (pre : List F) (W : World) : Prop where
  row : ∃ (zs : List Fv) (a : Option Addr) (c : Nat), W.heap[ob]? = some (.cells #[.slice a (List.length zs) c] 41) ∧ W.ownsRow w.heap.size 34 fK.k (.slice a (List.length zs) c) zs.length (zs.flatMap fK.enc) ∧ (∀ z ∈ zs, RowT kK 50 W z.a z.cap z.ks) ∧ (∀ z ∈ zs, ∀ ad, z.a = some ad → w.heap.size ≤ ad.block) ∧ zs.map Fv.f = pre
  stp : W.heap[sb]? = some (.cells #[.int .i64 stop] 3)
  below : Below w.heap.size w W
  ns : ∀ k : Nat, k < pre.length → (k : Int) ≠ stop
theorem GaI.itr {w : World} {ob sb B : Nat} {stop : Int} {pre : List F} {A A' : World} (h : GaI w ob sb stop pre A) (hit : Itr noT B A A') (hB : w.heap.size ≤ B) : GaI w ob sb stop pre A' := by
  obtain ⟨zs, a, c, h1, h2, h3, h4, h5⟩ := h.row
  exact ⟨⟨zs, a, c, hit.same _ _ _ _ h1 (by decide), ownsRow_keep h2 (hit.safe (by decide)), fun z hz => (h3 z hz).safe (hit.safe (by decide)), h4, h5⟩, hit.same _ _ _ _ h.stp (by decide), h.below.trans (hit.toBelow.mono hB), h.ns⟩

theorem grown_rd5 {n0 B : Nat} {X : Nat → Prop} {w w' : World} {v : Value} {n : Nat} {xs : List Value} (ho : w.ownsRow B 34 4 v n xs) (hg : w.grownBy w' v.ownBlock) (hn : n0 ≤ B) : Rd5 n0 X w w' := by
  refine ⟨hg.os, hg.tape, hg.output, hg.size, fun k o hk _ hF => ?_⟩
  refine (hg.block k (heap_lt hk) fun e => ?_).trans hk
  rcases ho.2 with ⟨rfl, _⟩ | ⟨g, cap, cur, rfl, h1, h2, _⟩
  · cases e
  · obtain rfl : g = k := by simpa [Value.ownBlock] using e.symm
    rw [h2] at hk; cases hk
    rcases hF with hF | hF
    · omega
    · simp [loose] at hF
theorem cut15_all {stop : Int} {L : List F} (h : ¬ (0 ≤ stop ∧ stop < (L.length : Int))) : cut15 stop L = L := if_neg h

theorem ga_end {w W W' : World} {ob sb B : Nat} {stop : Int} {pre : List F} {ys : List Fv} {a : Option Addr} {c : Nat} (h : GaI w ob sb stop pre W) (hit : Itr noT B W W') (hB : w.heap.size ≤ B) (hO : W.ownsRow w.heap.size 34 fK.k (.slice a (List.length ys) c) ys.length (ys.flatMap fK.enc)) (hE : ∀ z ∈ ys, RowT kK 50 W z.a z.cap z.ks) (hN : ∀ z ∈ ys, ∀ ad, z.a = some ad → w.heap.size ≤ ad.block) (hl : ys.length ≤ 4096) : Own15 w.heap.size W' a c ys ∧ Below w.heap.size w W' := by
  obtain ⟨a', c', e, hr, hn⟩ := own_row (D := fK) (ownsRow_keep hO (hit.safe (by decide))) (by omega)
  cases e
  obtain ⟨a2, c2, e2, OF⟩ := own_facts (xs := ys) (ownsRow_keep hO (hit.safe (by decide))) (by omega)
  cases e2
  exact ⟨⟨hr, OF.most, hn, fun z hz => (hE z hz).safe (hit.safe (by decide)), hN⟩, h.below.trans (hit.toBelow.mono hB)⟩

set_option maxRecDepth 100000 in
set_option maxHeartbeats 4000000 in
theorem gather_at (bt bi : Nat) (a : Option Addr) (cap : Nat) (ps : List Pn) (is : F → Bool) (stop : Int) (w : World) (h : IterAt w bt bi a cap ps is) (hn : ps.length ≤ 4096) :
    Calls Try.prog 19 #[.func (.func 60) #[] #[ptr bt, ptr bi], .int .i64 stop] w fun e w' => (∃ a' c' zs, e = .returned (.slice a' (List.length zs) c') ∧ Own15 w.heap.size w' a' c' zs ∧ zs.map Fv.f = cut15 stop (told is ps)) ∧ Below w.heap.size w w' := by
  have iF : (Try.prog.info? 34).map (·.size) = some 4 := by kernel_rfl
  obtain ⟨S1, O1, A1⟩ := boxes_two w (.cells #[.int .i64 stop] 3) (.cells #[.slice none 0 0] 41)
  have TL := told_len is ps
  have HI := hideP h
  clear h
  refine calls_marks Try.func19 rfl ?_
  simp only [Try.ntmps19, List.size_toArray, List.length_cons, List.length_nil, Nat.reduceAdd, Nat.reduceSub, Array.replicate_succ, Array.replicate_zero, List.push_toArray, List.append_toArray, List.nil_append, List.cons_append]
  have hnf : ∀ W, (binOp .eql 44 (.func (.func 60) #[] #[ptr bt, ptr bi]) .nilFunc).run Try.prog W = .ok (.bool false) W := fun W => by kernel_rfl
  go_wp2_with fail
  have I0 : GaI w (w.heap.size + 1) w.heap.size stop [] ((w.alloc (.cells #[.int .i64 stop] 3)).alloc (.cells #[.slice none 0 0] 41)) := ⟨⟨[], none, 0, O1, World.ownsRow_nil _ _ _ _, (fun _ h => by cases h), (fun _ h => by cases h), rfl⟩, S1, A1, fun k hk => absurd hk (Nat.not_lt_zero k)⟩
  have hsz : ((w.alloc (.cells #[.int .i64 stop] 3)).alloc (.cells #[.slice none 0 0] 41)).heap.size = w.heap.size + 2 := by simp
  clear hnf S1 O1
  generalize hW1 : (w.alloc (.cells #[.int .i64 stop] 3)).alloc (.cells #[.slice none 0 0] 41) = w1 at *
  clear hW1
  refine wp_range (pt := noT) (gf := 60) (lb := #[ptr bt, ptr bi]) rfl (enters_of Try.func60 (by kernel_rfl) rfl)
    (Elt := EltC w.heap.size) (Kp := fun l2 => Rd5 w.heap.size (orL (fun k => k = w.heap.size + 1) l2)) (S := fun xs => xs = told is ps) (Sp := fun pre => pre <+: told is ps) (N := ps.length)
    ?seq (fun h k => h.trans k) (fun l2 W5 o o' h1 _ _ => Rd5.but (but_putObj W5 l2 o') (.inr rfl)) rfl
    (GaI w (w.heap.size + 1) w.heap.size stop) (fun c xs W5 => c = .exit 0 ∧ ∃ pre x, xs = pre ++ [x] ∧ GaI w (w.heap.size + 1) w.heap.size stop pre W5 ∧ (pre.length : Int) = stop)
    (fun s A A' h hit => h.itr hit A1.size)
    (fun c s A A' h hit => by
      obtain ⟨h1, pre, x, h2, h3, h4⟩ := h
      exact ⟨h1, pre, x, h2, h3.itr hit A1.size, h4⟩)
    I0
    (fun f a' W5 => ∃ (z : Fv) (S : Nat), W5.heap[S]? = some (.cells (fv z).toArray 34) ∧ z.f = f ∧ RowT kK 50 W5 z.a z.cap z.ks ∧ (∀ ad, z.a = some ad → w.heap.size ≤ ad.block) ∧ a' = { tmps := #[.func (.func 60) #[] #[ptr bt, ptr bi], .int .i64 stop, undef, ptr w.heap.size, .slice none 0 0, ptr (w.heap.size + 1), ptr S, .func (.func 60) #[] #[ptr bt, ptr bi], .bool false, undef, .func (.func 60) #[] #[ptr bt, ptr bi], z.val, undef, undef, undef, undef, undef, undef, undef, undef, undef], defers := [] })
    (fun f a' A A' h hit => by
      obtain ⟨z, S, h1, h2, h3, h4, h5⟩ := h
      exact ⟨z, S, hit.same _ _ _ _ h1 (by decide), h2, h3.safe (hit.safe (by decide)), h4, h5⟩)
    ?assign ?body ?done ?stop
  case seq =>
    intro W1 hb1 hs1 l J Jx hl ho hJ hJx hY h0
    have hB : Below w.heap.size w W1 := A1.trans (hb1.mono A1.size)
    refine those_seq (X := fun k => k = w.heap.size + 1) HI.out hB (fun k c t hk hc => absurd (heap_lt hc) (by omega)) (fun k hk => by omega) l J Jx hl ho hJ hJx (fun pre x v W2 h1 h2 h3 => hY pre x v W2 h1 ?_ h3) h0
    obtain ⟨z, e1, e2, e3, e4, e5⟩ := h2
    exact ⟨z, e1, e2, e3, fun ad ha => Nat.le_trans hB.size (e4 ad ha), e5⟩
  case assign =>
    rintro l2 pre f _ W5 K hl5 hlt5 HI5 ⟨z, rfl, hzf, RZ, NZ, _⟩ hK
    have N5 := heap_alloc_new W5 (.cells #[.string { data := #[] }, .string { data := #[] }, .string { data := #[] }, .slice none 0 0] 34)
    refine round_region (by rintro ⟨_, _, h⟩; exact h) rfl ?_
    go_wp2_with (refine wpList_store_all rfl 34 _ _ rfl W5.heap.size 4 _ 34 (fv z) rfl rfl N5 rfl rfl iF rfl ?_; intro w6 N6 d6; have B6 := below_tok d6)
    exact hK _ _ ((Rd5.of_below (n0 := 0) (X := noX) B6).keeps (fun _ h => h.elim)) (Rd5.of_below B6) (HI5.itr (Itr.below B6 (Nat.le_refl _)) HI5.below.size) ⟨z, _, N6, hzf, RZ.safe (Safe.below B6), NZ, rfl⟩
  case body =>
    rintro l2 pre f _ W5 hl5 hlt5 HI5 ⟨z, S, N5, rfl, RZ, NZ, rfl⟩ hN
    obtain ⟨ys, a, c, hbx, hO, hE, hNw, hF⟩ := HI5.row
    have BB := HI5.below
    have cb : W5.cell? ⟨w.heap.size + 1, 0, none⟩ = some (.slice a (List.length ys) c) := by rw [heap_cell hbx]; rfl
    have cs : W5.cell? ⟨w.heap.size, 0, none⟩ = some (.int .i64 stop) := by rw [heap_cell HI5.stp]; rfl
    have HYL : Hid (ys.length = pre.length) := by
      show _ = _
      rw [← hF, List.length_map]
    have HF := hideP hF
    have NS := hideP HI5.ns
    clear hF
    refine wpIn_block ?_
    apply wpIn_seq_k
    intro K5 hK5
    have HK5 := hideP hK5
    clear hK5
    apply wpIn_seq_k
    intro K6 hK6
    refine round_region (by rintro ⟨_, _, h⟩; exact h) rfl ?_
    by_cases hst : (ys.length : Int) = stop
    · have HI6 := hideP HI5
      clear HI5
      go_wp2_with fail
      gi_wp2
      exact ⟨KeepsFrom.refl _ _, rfl, pre, z.f, rfl, HI6.out, by rw [← HYL.out]; exact hst⟩
    · have A6 := below_alloc W5 (.cells (fv z).toArray 34)
      have L6 : Row fK (W5.alloc (.cells (fv z).toArray 34)) (some ⟨W5.heap.size, 0, none⟩) 1 [z] := row_new fK W5 _ _ z rfl
      have O6 := ownsRow_keep hO (Safe.below A6 : Safe 34 _ _)
      have hx6 := below_heap A6 hbx
      have hs6 := below_heap A6 HI5.stp
      have fits : ys.length + [z].length ≤ 4097 := by
        have h1 := HYL.out
        simp only [List.length_cons, List.length_nil]
        omega
      have hbs : w.heap.size ≤ (W5.alloc (.cells (fv z).toArray 34)).heap.size := Nat.le_trans BB.size A6.size
      have RZ6 := RZ.safe (Safe.below A6 : Safe 50 _ _)
      have E6 : ∀ y ∈ ys, RowT kK 50 (W5.alloc (.cells (fv z).toArray 34)) y.a y.cap y.ks := fun y hy => (hE y hy).safe (Safe.below A6)
      have loB : w.heap.size ≤ w.heap.size + 1 := Nat.le_succ _
      clear HI5 hN RZ hE hO
      go_wp2_with fail
      gi_wp2
      apply HK5.out
      refine round_region (by rintro ⟨_, _, h⟩; exact h) rfl ?_
      go_wp2_with (first
        | (refine wpList_load_all rfl 34 _ rfl S 4 34 (fv z) _ rfl N5 rfl Try.underlying34 rfl iF ?_)
        | (refine wpList_build_one rfl 41 34 _ rfl (fv z) _ 4 72 rfl rfl (by decide) (by decide) Try.underlying41 Try.infoF ?_)
        | (at_builtin; refine wpList_append_rec fK _ rfl _ _ 41 34 rfl _ 72 Try.underlying41 Try.iFk15 rfl (by decide) w.heap.size (.slice a (List.length ys) c) ys [z] (some ⟨W5.heap.size, 0, none⟩) 1 1 rfl O6 rfl rfl L6 hbs (by omega) ?_; intro v8 w8 o8 g8; have S8 := Safe.grown (ty := 50) O6 g8 (by decide); have h8 := Safe.grown (ty := 41) O6 g8 (by decide) _ _ hx6; have s8 := Safe.grown (ty := 3) O6 g8 (by decide) _ _ hs6; have bw8 := own_below O6 g8 hbs; obtain ⟨a8, c8, rfl, OF8, _⟩ := own_row (D := fK) o8 (by rw [List.length_append]; omega))
        | (refine wpList_store_cel rfl 41 _ _ rfl (w.heap.size + 1) 0 1 41 (.slice a8 (ys ++ [z]).length c8) #[.slice a8 (ys ++ [z]).length c8] rfl rfl h8 rfl (by decide) (by kernel_rfl) rfl rfl ?_; intro w9 N9 t9))
      have s9 : ∀ ty : TypeId, ty ≠ 41 → Safe ty w8 w9 := fun ty hn => Safe.but t9 h8 hn
      have R9 : Rd5 w.heap.size (fun k => k = w.heap.size + 1) W5 w9 := (Rd5.of_below A6).trans ((grown_rd5 O6 g8 (Nat.le_refl _)).trans (Rd5.but t9 rfl))
      refine ⟨R9.keeps (fun k hk => by omega), R9.mono (fun k hk => .inl hk), ⟨⟨ys ++ [z], a8, c8, N9, ownsRow_keep o8 (s9 _ (by decide)), (fun y hy => ?_), (fun y hy => ?_), by rw [List.map_append, HF.out]; rfl⟩, s9 _ (by decide) _ _ s8, ((BB.trans (A6.mono BB.size)).trans bw8).trans (t9.lower loB (by have := bw8.size; omega)), fun k hk => by
        rw [List.length_append, List.length_singleton] at hk
        by_cases h : k = pre.length
        · rw [h, ← HYL.out]; exact hst
        · exact NS.out k (by omega)⟩⟩
      · rcases List.mem_append.1 hy with hy | hy
        · exact ((E6 y hy).safe S8).safe (s9 _ (by decide))
        · rw [List.mem_singleton] at hy; subst hy; exact (RZ6.safe S8).safe (s9 _ (by decide))
      · rcases List.mem_append.1 hy with hy | hy
        · exact hNw y hy
        · rw [List.mem_singleton] at hy; subst hy; exact NZ
  case done =>
    rintro D fs W7 hD7 rfl HI7 hK7
    have IT : Itr noT w1.heap.size W7 (W7.putObj D (.deferred none)) := Itr.putObj _ hK7 rfl hD7
    obtain ⟨ys, a, c, hbx, hO, hE, hNw, hF⟩ := HI7.row
    have cb : W7.cell? ⟨w.heap.size + 1, 0, none⟩ = some (.slice a (List.length ys) c) := by rw [heap_cell hbx]; rfl
    have HE := hideP (ga_end HI7 IT A1.size hO hE hNw (by have := congrArg List.length hF; rw [List.length_map] at this; omega))
    have HF : Hid (ys.map Fv.f = cut15 stop (told is ps)) := by
      show _ = _
      rw [hF, cut15_all]
      rintro ⟨h1, h2⟩
      exact HI7.ns stop.toNat (by omega) (by omega)
    clear hF HI7 hO hE hNw
    go_wp2_with fail
    refine ⟨by simp, .inl ⟨_, _, rfl, run_takeDeferred hK7, ?_⟩⟩
    exact ⟨_, results_tmp rfl _ _ _, ⟨a, c, ys, rfl, HE.out.1, HF.out⟩, HE.out.2⟩
  case stop =>
    rintro D c pre W7 hD7 hpre ⟨rfl, q, x, rfl, HI7, hst⟩ hK7
    have IT : Itr noT w1.heap.size W7 (W7.putObj D (.deferred none)) := Itr.putObj _ hK7 rfl hD7
    obtain ⟨ys, a, c, hbx, hO, hE, hNw, hF⟩ := HI7.row
    have cb : W7.cell? ⟨w.heap.size + 1, 0, none⟩ = some (.slice a (List.length ys) c) := by rw [heap_cell hbx]; rfl
    have hlen := hpre.length_le
    rw [List.length_append, List.length_singleton] at hlen
    have HE := hideP (ga_end HI7 IT A1.size hO hE hNw (by have := congrArg List.length hF; rw [List.length_map] at this; omega))
    have HF : Hid (ys.map Fv.f = cut15 stop (told is ps)) := by
      show _ = _
      rw [hF]
      unfold cut15
      rw [if_pos ⟨by omega, by omega⟩, show stop.toNat = q.length by omega]
      obtain ⟨r, hr⟩ := hpre
      rw [← hr, List.append_assoc, List.take_left]
    clear hF HI7 hO hE hNw hpre hlen hst
    gi_wp2
    go_wp2_with fail
    refine ⟨by simp, .inl ⟨_, _, rfl, run_takeDeferred hK7, ?_⟩⟩
    exact ⟨_, results_tmp rfl _ _ _, ⟨a, c, ys, rfl, HE.out.1, HF.out⟩, HE.out.2⟩
end Go.Proofs.Ytomiefhfkdfgbaa
