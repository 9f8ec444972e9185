/-
  model.Closed, where what is known is known of the sorted facts.
-/
import Derived.Test.YtdehimbfcilhpaaGreatDoorQWc12
import Derived.Test.YtdehimbfcilhpaaGreatDoorQSame
namespace Go.Proofs.YtdehimbfcilhpaaGreatDoor
open Go.RowKit Go.Lib Go.Shelf
attribute [local go_sem] Oper.semAt_some

theorem LIn.cin {w : World} {ra : Option Addr} {rc : Nat} {rs : List Rv} {ha : Option Addr} {hc : Nat} {hs : List (List UInt8)} {na : Option Addr} {nc : Nat} {ns : List (List UInt8)} {zs : List Fv} (h : LIn w ra rc rs ha hc hs na nc ns) (hz : ∀ x ∈ zs.map Fv.f, SmF x) (zl : zs.length ≤ 1000000) (few : Ml.Few ⟨hs, ns⟩ (rs.map Rv.r) (sortF (zs.map Fv.f))) :
    ∀ (w' : World) (fa' : Option Addr) (fc' : Nat) (us : List Fv), Below w.heap.size w w' → Fts w' fa' fc' us → us.map Fv.f = sortF (zs.map Fv.f) → AIn w' ra rc rs ha hc hs na nc ns fa' fc' us := fun w' fa' fc' us hb hf he => by
  refine (h.below hb).ain hf (fun z hz' => hz z.f ?_) ?_ (by rw [he]; exact few)
  · have := List.mem_map_of_mem (f := Fv.f) hz'
    rw [he, mem_sortF] at this
    exact this
  · have := Ml.sub_len (sortF_SS (zs.map Fv.f)) (m := zs.map Fv.f) (fun x hx => (mem_sortF _ _).1 hx)
    rw [← he, List.length_map, List.length_map] at this
    omega
/-- the least model's facts are small -/
theorem lst_small {d : Ml.Wd} {l : List Ru} {b n : List F} (h : Ml.LstF d l (sortF b) (some n)) (hl : ∀ r ∈ l, SmH r) (hh : ∀ x ∈ d.homes, x.length ≤ 1048576) (hb : ∀ x ∈ b, SmF x) : ∀ x ∈ n, SmF x :=
  h.lst.pred (sortF_SS _) (fun x hx => hb x ((mem_sortF _ _).1 hx)) fun _ hm _ hf => ins_ok hl hh hm hf
theorem minus_nil {a b : List F} (h : ∀ x ∈ a, x ∈ b) : minusF a b = [] := by
  rw [List.eq_nil_iff_forall_not_mem]
  intro x hx
  have := (mem_minusF a b x).1 hx
  exact this.2 (h x this.1)

set_option maxRecDepth 100000 in
set_option maxHeartbeats 2000000 in
theorem mclosed2_at (ra : Option Addr) (rc : Nat) (rs : List Rv) (ha : Option Addr) (hc : Nat) (hs : List (List UInt8)) (na : Option Addr) (nc : Nat) (ns : List (List UInt8)) (fa : Option Addr) (fc : Nat) (zs : List Fv) (w : World)
    (hi : ∀ (w' : World) (fa' : Option Addr) (fc' : Nat) (us : List Fv), Below w.heap.size w w' → Fts w' fa' fc' us → us.map Fv.f = sortF (zs.map Fv.f) → AIn w' ra rc rs ha hc hs na nc ns fa' fc' us) (hl : Lies w fa fc zs) (hz : ∀ z ∈ zs, Fv.At w z) :
    Calls Tryz.prog 17 #[wdv ha hc hs na nc ns, .slice ra rs.length rc, .slice fa zs.length fc] w fun e w' => e = .returned (.bool (Ml.closedB ⟨hs, ns⟩ (rs.map Rv.r) (zs.map Fv.f))) ∧ Below w.heap.size w w' := by
  have iF : (Tryz.prog.info? 36).map (·.size) = some 4 := by kernel_rfl
  obtain ⟨h0, h1, h2, A0⟩ := boxes3 w (.cells #[.slice ha hs.length hc, .slice na ns.length nc] 41) (.cells #[.slice fa zs.length fc] 24) (.cells #[.bool false] 4)
  have T1 := hideP (fun W (h : Below w.heap.size w W) => sorted_at fa fc zs W (hl.below h (Nat.le_refl _)) (fun z q => (hz z q).below h (Nat.le_refl _)))
  have HI := hideP hi
  have HA := hideP A0
  clear hi hl hz
  refine calls_marks Tryz.func17 rfl ?_
  simp only [Tryz.ntmps17, List.size_toArray, List.length_cons, List.length_nil, Nat.reduceAdd, Nat.reduceSub, Array.replicate_succ, Array.replicate_zero, List.push_toArray, List.append_toArray, List.nil_append, List.cons_append]
  go_wp2_with fail
  generalize hW3 : ((w.alloc (.cells #[.slice ha hs.length hc, .slice na ns.length nc] 41)).alloc (.cells #[.slice fa zs.length fc] 24)).alloc (.cells #[.bool false] 4) = w3 at *
  clear hW3
  refine (T1.out w3 A0).mono ?_
  rintro e w4 ⟨a4, c4, us, rfl, OF4, EA4, hs4, B4⟩
  have H0 := below_heap B4 h0
  have H1 := below_heap B4 h1
  have H2 := below_heap B4 h2
  have B04 := Below.then A0 B4
  have HS := hideP hs4
  have s4 := heap_lt H2
  have s3 := heap_lt h2
  clear hs4 h0 h1 h2 A0 T1
  go_wp2_with (refine wpList_store_cel rfl 24 _ _ rfl (w.heap.size + 1) 0 1 24 (.slice a4 us.length c4) #[.slice a4 us.length c4] rfl rfl H1 rfl (by decide) (by kernel_rfl) rfl rfl ?_; intro w5 N5 t5; have G0 := t5.heap (by omega) H0; have G2 := t5.heap (by omega) H2; have g0 : w5.cell? ⟨w.heap.size, 0, none⟩ = some (.slice ha hs.length hc) := (by rw [heap_cell G0]; rfl); have g1 : w5.cell? ⟨w.heap.size, 1, none⟩ = some (.slice na ns.length nc) := (by rw [heap_cell G0]; rfl); have g2 : w5.cell? ⟨w.heap.size + 1, 0, none⟩ = some (.slice a4 us.length c4) := (by rw [heap_cell N5]; rfl))
  have B05 : Below w.heap.size w w5 := B04.trans (t5.lower (by omega) B04.size)
  have sf : ∀ ty : TypeId, ty ≠ 24 → Safe ty w4 w5 := fun ty hn => t5.safeT H1 hn
  have EA5 : ∀ z ∈ us, Fv.At w5 z := fun z hz => by
    obtain ⟨q1, q2, q3, q4⟩ := EA4 z hz
    exact q1.but (fun ad had => by
      obtain ⟨cur, hcur⟩ := q4 ad had
      intro e
      rw [e, H1] at hcur; cases hcur) t5
  have L5 : Lies w5 a4 c4 us := by
    have h := OF4.lies
    refine ⟨h.room, h.most, h.few, h.void, fun ad had j u hu => ?_⟩
    obtain ⟨g, rfl, g1', g2', g3'⟩ := OF4.row ad had
    rw [← h.cells _ had j u hu]
    exact t5.cell (by rw [addr_add_block]; show g ≠ _; omega) (by rw [addr_add_block]; exact g2')
  have AI := hideP (HI.out _ _ _ _ B05 ⟨liesRow L5, EA5⟩ HS.out)
  have T2 := hideP (atOnce_at ra rc rs ha hc hs na nc ns a4 c4 us w5)
  clear H0 H1 H2 OF4 EA4 B4 B04 sf
  refine T2.out.mono ?_
  rintro e w6 ⟨rfl, B6, S6, C6⟩
  have HC := hideP C6
  clear T2 g0 g1 g2 C6
  go_wp2_with fail
  have hm : Hid (∀ x, x ∈ us.map Fv.f ↔ x ∈ zs.map Fv.f) := fun x => by rw [HS.out, mem_sortF]
  have SSU : Hid (SS (us.map Fv.f)) := by show SS _; rw [HS.out]; exact sortF_SS _
  have s5 := heap_lt G2
  have s6 := B6.size
  have LL := hideP L5
  have EE := hideP EA5
  have T6 := Below.then B05 B6
  clear L5 EA5 t5
  refine wp_range (pt := 166) (gf := 59) (lb := #[ptr (w5.heap.size + 1), ptr w5.heap.size, ptr (w5.heap.size + 1 + 1)]) rfl (enters_of Tryz.func59 (by kernel_rfl) rfl)
    (Elt := EltO ⟨hs, ns⟩ (rs.map Rv.r) (us.map Fv.f)) (Kp := fun l2 => Rnd w5.heap.size fun k => False ∨ (k = l2 ∧ w5.heap.size ≤ l2)) (S := fun fs => ∀ x, x ∈ fs ↔ x ∈ Ml.onceL ⟨hs, ns⟩ (rs.map Rv.r) (us.map Fv.f)) (Sp := fun _ => True) (N := rs.length * hs.length * 60001)
    ?seq (fun h k => h.trans k) (fun l2 W5 o o' h1 _ _ => Rnd.but (but_putObj W5 l2 o') (.inr ⟨rfl, by omega⟩)) rfl
    (fun pre W => (∀ x ∈ pre, x ∈ us.map Fv.f) ∧ Below w5.heap.size w5 W)
    (fun c pre W => c = .ret ∧ W.heap[w.heap.size + 1 + 1]? = some (.cells #[.bool false] 4) ∧ (∃ x ∈ Ml.onceL ⟨hs, ns⟩ (rs.map Rv.r) (us.map Fv.f), x ∉ us.map Fv.f) ∧ Below w.heap.size w W)
    (fun s A A' h hit => ⟨h.1, h.2.trans (hit.toBelow.mono s6)⟩)
    (fun c s A A' h hit => ⟨h.1, hit.same _ _ _ _ h.2.1 (by decide), h.2.2.1, h.2.2.2.trans (hit.toBelow.mono T6.size)⟩)
    ⟨(fun _ h => by cases h), B6⟩
    (fun f a' W5 => ∃ (z : Fv) (S : Nat) (u0 u1 u2 u3 u10 u11 u12 u13 u14 u15 u16 : Value), W5.heap[S]? = some (.cells (fv z).toArray 36) ∧ z.f = f ∧ f ∈ Ml.onceL ⟨hs, ns⟩ (rs.map Rv.r) (us.map Fv.f) ∧ RowT kK 56 W5 z.a z.cap z.ks ∧ a' = { tmps := #[u0, u1, u2, u3, undef, ptr (w.heap.size + 1), ptr (w.heap.size + 1 + 1), ptr S, undef, undef, u10, u11, u12, u13, u14, u15, u16, undef, undef, undef, undef, undef, undef, undef, undef], defers := [] })
    (fun f a' A A' h hit => by
      obtain ⟨z, S, u0, u1, u2, u3, u10, u11, u12, u13, u14, u15, u16, h1, h2, hm, h3, h4⟩ := h
      exact ⟨z, S, u0, u1, u2, u3, u10, u11, u12, u13, u14, u15, u16, hit.same _ _ _ _ h1 (by decide), h2, hm, h3.safe (hit.safe (by decide)), h4⟩)
    ?assign ?body ?done ?stop
  case seq =>
    intro W1 hb1 hs1
    exact once_seq (X := fun _ => False) AI.out ⟨below_heap hb1 HC.out.rules, below_heap hb1 HC.out.world, below_heap hb1 HC.out.facts⟩ (fun k hk => hk.elim) ⟨id, id, id⟩ (B6.trans (hb1.mono s6))
  case assign =>
    rintro l2 pre f _ W5 K hl5 hlt5 HI5 ⟨⟨z, rfl, hzf, RZ⟩, MEM⟩ hK
    have N5 := heap_alloc_new W5 (.cells #[.string { data := #[] }, .string { data := #[] }, .string { data := #[] }, .slice none 0 0] 36)
    refine round_region (by rintro ⟨_, _, h⟩; exact h) rfl ?_
    go_wp2_with (refine wpList_store_all rfl 36 _ _ rfl W5.heap.size 4 _ 36 (fv z) rfl rfl N5 rfl rfl iF rfl ?_; intro w6 N6 d6; have B6 := below_tok d6)
    exact hK _ _ (keeps_below B6) (Rnd.of_below B6) ⟨HI5.1, HI5.2.trans (B6.mono HI5.2.size)⟩ ⟨z, _, _, _, _, _, _, _, _, _, _, _, _, N6, hzf, MEM, RZ.safe (Safe.below B6), rfl⟩
  case body =>
    rintro l2 pre f _ W7 hl5 hlt5 ⟨ALL, B7⟩ ⟨z, S, u0, u1, u2, u3, u10, u11, u12, u13, u14, u15, u16, N7, rfl, MEM, RZ, rfl⟩ hN
    have k1 := (B7.block (w.heap.size + 1) (by omega)).trans N5
    have k2 := (B7.block (w.heap.size + 1 + 1) (by omega)).trans G2
    have g1 : W7.cell? ⟨w.heap.size + 1, 0, none⟩ = some (.slice a4 us.length c4) := by rw [heap_cell k1]; rfl
    have TS := hideP (msearch_at a4 c4 us z W7 (LL.out.below B7 (Nat.le_refl _)) (fun y hy => (EE.out y hy).below B7 (Nat.le_refl _)) (row_args RZ.row) SSU.out)
    have HM := hideP MEM
    have HALL := hideP ALL
    clear MEM hN ALL
    refine wpIn_block ?_
    apply wpIn_seq_k
    intro K5 hK5
    refine round_region (by rintro ⟨_, _, h⟩; exact h) rfl ?_
    go_wp2_with (refine wpList_load_all rfl 36 _ rfl S 4 36 (fv z) _ rfl N7 rfl Tryz.underlying36 rfl iF ?_)
    refine TS.out.mono ?_
    rintro e w8 ⟨⟨i8, rfl, _⟩, B8⟩
    have k28 := below_heap B8 k2
    have k3 : w8.cell? ⟨w.heap.size + 1 + 1, 0, none⟩ = some (.bool false) := by rw [heap_cell k28]; rfl
    have k4 := heap_frozen k28 0
    have T8 := Below.then B7 B8
    clear TS g1
    cases hq : hasF (us.map Fv.f) z.f with
    | true =>
      have hz := hideP ((hasF_iff _ _).1 hq)
      clear hq
      go_wp2_with fail
      gi_wp2
      exact ⟨keeps_below B8, Rnd.of_below B8, (fun x hx => by
        rcases List.mem_append.1 hx with hx | hx
        · exact HALL.out x hx
        · rw [List.mem_singleton] at hx; subst hx; exact hz.out), T8⟩
    | false =>
      have hz : Hid (z.f ∉ us.map Fv.f) := fun h => by rw [(hasF_iff _ _).2 h] at hq; cases hq
      clear hq
      go_wp2_with fail
      gi_wp2
      obtain ⟨q1, d1⟩ := set_one12 k28 (.bool false)
      exact ⟨(keeps_below B8).trans (keeps_but d1 k28), rfl, q1, ⟨z.f, HM.out, hz.out⟩, (B05.trans (T8.mono B05.size)).trans (d1.lower (by omega) (Nat.le_trans B05.size T8.size))⟩
  case done =>
    rintro D fs W7 hD7 hS7 ⟨ALL, B7⟩ hK7
    have k2 := (B7.block (w.heap.size + 1 + 1) (by omega)).trans G2
    have CL := hideP (closed_yes hm.out (fun x hx => ALL x ((hS7 x).2 hx)))
    clear hS7 ALL
    go_wp2_with (refine wpList_store_cel rfl 4 _ _ rfl (w.heap.size + 1 + 1) 0 1 4 (.bool true) #[.bool true] rfl rfl k2 rfl (by decide) (by kernel_rfl) rfl rfl ?_; intro w8 N8 t8)
    have MK : Marks w6.heap.size [D] w8 := ⟨fun D' h => (by rw [List.mem_singleton] at h; subst h; exact t8.heap (by omega) hK7), (by simp), fun D' h => (by rw [List.mem_singleton] at h; subst h; exact hD7)⟩
    have IT : Itr 166 w6.heap.size w8 (shut [D] w8) := shut_itr [D] w8 MK.open_ MK.nodup MK.low
    have BB : Below w.heap.size w w8 := (B05.trans (B7.mono B05.size)).trans (t8.lower (by omega) (Nat.le_trans B05.size B7.size))
    exact leaves_marks [D] w8 MK.open_ MK.nodup ⟨_, results_bool rfl rfl (IT.same _ _ _ _ N8 (by decide)), by rw [CL.out], BB.trans (IT.toBelow.mono T6.size)⟩
  case stop =>
    rintro D c pre W7 hD7 _ ⟨rfl, k7, hno, B7⟩ hK7
    have CL := hideP (closed_no hm.out hno)
    refine wpIn_ret ?_
    have MK : Marks w6.heap.size [D] W7 := ⟨fun D' h => (by rw [List.mem_singleton] at h; subst h; exact hK7), (by simp), fun D' h => (by rw [List.mem_singleton] at h; subst h; exact hD7)⟩
    have IT : Itr 166 w6.heap.size W7 (shut [D] W7) := shut_itr [D] W7 MK.open_ MK.nodup MK.low
    exact leaves_marks [D] W7 MK.open_ MK.nodup ⟨_, results_bool rfl rfl (IT.same _ _ _ _ k7 (by decide)), by rw [CL.out], B7.trans (IT.toBelow.mono T6.size)⟩
end Go.Proofs.YtdehimbfcilhpaaGreatDoor

/-
  What ModelFixed, ModelGrows and ModelTwice ask of least models; a row of one's own past a store elsewhere.
-/
namespace Go.Proofs.YtdehimbfcilhpaaGreatDoor
open Go.RowKit Go.Lib Go.Shelf

theorem OwF.butLies {w w' : World} {base q : Nat} {a : Option Addr} {cap : Nat} {xs : List Fv} (h : OwF w base a cap xs) (b : But q w w') (hq : q < base) : Lies w' a cap xs :=
  ⟨h.room, h.most, h.few, h.void, fun ad ha => by
    obtain ⟨g, rfl, h1, h2, hr⟩ := h.row ad ha
    intro j u hu
    have hr' := hr.cells j u hu
    rw [Addr.add_lit] at hr' ⊢
    rw [b.cell (p := ⟨g, 0 + j, none⟩) (show g ≠ q by omega) h2]
    exact hr'⟩
theorem map_nil {l : List Fv} (h : l.map Fv.f = []) : l = [] := by cases l with
  | nil => rfl
  | cons _ _ => cases h
theorem lstF_few {d : Ml.Wd} {l : List Ru} {b n : List F} (h : Ml.LstF d l (sortF b) (some n)) : Ml.Few d l (sortF b) := h.few (Nat.le_of_not_lt fun hn => by cases h.none_of hn)
theorem lstF_few2 {d : Ml.Wd} {l : List Ru} {b n : List F} (h : Ml.LstF d l (sortF b) (some n)) : Ml.Few d l (sortF n) := lstF_few (h.twice (sortF_SS _))
theorem fixed_base {d : Ml.Wd} {l : List Ru} {b n : List F} (h : Ml.LstF d l (sortF b) (some n)) : minusF b n = [] := minus_nil fun x hx => (h.lst.got (sortF_SS _)).2.1 x ((mem_sortF _ _).2 hx)
theorem fixed_closed {d : Ml.Wd} {l : List Ru} {b n : List F} (h : Ml.LstF d l (sortF b) (some n)) : Ml.closedB d l n = true := (Ml.closedB_iff _ _ _).2 (h.lst.got (sortF_SS _)).2.2.1
theorem fixed_grows {d : Ml.Wd} {l l2 : List Ru} {b b2 n n2 : List F} (h : Ml.LstF d l (sortF b) (some n)) (h2 : Ml.LstF d l2 (sortF b2) (some n2)) (hl : ∀ r ∈ l, r ∈ l2) (hb : ∀ x ∈ b, x ∈ b2) : minusF n n2 = [] := minus_nil (Ml.grows h.lst h2.lst hl hb)
theorem fixed_same {d : Ml.Wd} {l : List Ru} {b n : List F} (h : Ml.LstF d l (sortF b) (some n)) (hc : Ml.closedB d l b = true) : likeB (sortF n) (sortF b) = true := by
  have g := h.lst.got (sortF_SS _)
  have h1 := h.lst.least (sortF_SS _) (c := b) (fun x hx => (mem_sortF _ _).1 hx) ((Ml.closedB_iff _ _ _).1 hc)
  exact likeB_true ((sortF_eq_iff n b).2 fun x => ⟨h1 x, fun hx => g.2.1 x ((mem_sortF _ _).2 hx)⟩)
end Go.Proofs.YtdehimbfcilhpaaGreatDoor
