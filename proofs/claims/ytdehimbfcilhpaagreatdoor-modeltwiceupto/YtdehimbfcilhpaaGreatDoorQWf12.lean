/-
  model.Closed.
-/
import Derived.Test.YtdehimbfcilhpaaGreatDoorQOn12
import Derived.Test.YtdehimbfcilhpaaGreatDoorQBn
import Derived.Test.YtdehimbfcilhpaaGreatDoorQSorted
namespace Go.Proofs.YtdehimbfcilhpaaGreatDoor
open Go.RowKit Go.Lib Go.Shelf
attribute [local go_sem] Oper.semAt_some

theorem load_bool (a : Addr) (w : World) (v : Value) (h : w.cell? a = some v) : (loadVar 4 a).run Tryz.prog w = .ok v w := by simp [go_sem, h]
theorem results_bool {fn : Func} {p : Tmp} {tmps : Array Value} {w : World} {b : Nat} {v : Value} {T : TypeId} (h : fn.results = #[.cell p 4]) (hp : tmps.getD p undef = ptr b) (hc : w.heap[b]? = some (.cells #[v] T)) : (results fn tmps).run Tryz.prog w = .ok v w := by
  have j := load_bool ⟨b, 0, none⟩ w v (by rw [heap_cell hc]; rfl)
  simp only [Array.getD_eq_getD_getElem?] at hp
  simp only [results, h]
  simp [asAddr, hp, j]
/-- the same rules and world, other facts -/
theorem AIn.sorted {w w' : World} {ra : Option Addr} {rc : Nat} {rs : List Rv} {ha : Option Addr} {hc : Nat} {hs : List (List UInt8)} {na : Option Addr} {nc : Nat} {ns : List (List UInt8)} {fa fa' : Option Addr} {fc fc' : Nat} {zs us : List Fv} (h : AIn w ra rc rs ha hc hs na nc ns fa fc zs) (hb : Below w.heap.size w w') (hf : Fts w' fa' fc' us) (he : us.map Fv.f = sortF (zs.map Fv.f)) : AIn w' ra rc rs ha hc hs na nc ns fa' fc' us := by
  have hm : ∀ x, x ∈ us.map Fv.f ↔ x ∈ zs.map Fv.f := fun x => by rw [he, mem_sortF]
  refine ⟨h.rules.below hb, h.smr, h.homes.below hb (Nat.le_refl _), h.hl, h.names.below hb (Nat.le_refl _), hf, fun z hz => ?_, h.tab.now hb hb.size, ?_, by rw [he]; exact h.few.sort⟩
  · obtain ⟨y, hy, e⟩ := List.mem_map.1 ((hm z.f).1 (List.mem_map_of_mem hz))
    rw [← e]; exact h.small y hy
  · have := Ml.sub_len (sortF_SS (zs.map Fv.f)) (m := zs.map Fv.f) (fun x hx => (mem_sortF _ _).1 hx)
    rw [← he, List.length_map, List.length_map] at this
    have := h.zl
    omega
theorem liesRow {w : World} {a : Option Addr} {c : Nat} {xs : List Fv} (h : Lies w a c xs) : Row fK w a c xs := ⟨h.room, by have := h.few; omega, h.void, h.cells⟩
theorem set_one12 {W : World} {b : Nat} {v : Value} {T : TypeId} (h : W.heap[b]? = some (.cells #[v] T)) (u : Value) : (W.setCell ⟨b, 0, none⟩ u).heap[b]? = some (.cells #[u] T) ∧ But b W (W.setCell ⟨b, 0, none⟩ u) :=
  ⟨heap_setCells b T [u] 0 #[v] W h, (But.refl b W).set 0 u⟩
theorem keeps_but {B q : Nat} {W W' : World} {C : Array Value} {T : TypeId} (b : But q W W') (h : W.heap[q]? = some (.cells C T)) : KeepsFrom B W W' := ⟨b.size, fun k o _ hk ho => b.heap (fun e => by subst e; rw [h] at hk; cases hk; cases ho) hk⟩
theorem closed_no {d : Ml.Wd} {l : List Ru} {m m' : List F} (hm : ∀ x, x ∈ m' ↔ x ∈ m) (h : ∃ x ∈ Ml.onceL d l m', x ∉ m') : Ml.closedB d l m = false := by
  rw [Bool.eq_false_iff]
  intro hc
  obtain ⟨x, h1, h2⟩ := h
  exact h2 ((hm x).2 ((Ml.closedB_iff d l m).1 hc x ((Ml.mem_onceL.1 h1).mono (fun _ h => h) fun y hy => (hm y).1 hy)))
theorem closed_yes {d : Ml.Wd} {l : List Ru} {m m' : List F} (hm : ∀ x, x ∈ m' ↔ x ∈ m) (h : ∀ x ∈ Ml.onceL d l m', x ∈ m') : Ml.closedB d l m = true :=
  (Ml.closedB_iff d l m).2 fun x hx => (hm x).1 (h x (Ml.mem_onceL.2 (hx.mono (fun _ h => h) fun y hy => (hm y).2 hy)))

set_option maxRecDepth 100000 in
set_option maxHeartbeats 2000000 in
theorem mclosed_at (ra : Option Addr) (rc : Nat) (rs : List Rv) (ha : Option Addr) (hc : Nat) (hs : List (List UInt8)) (na : Option Addr) (nc : Nat) (ns : List (List UInt8)) (fa : Option Addr) (fc : Nat) (zs : List Fv) (w : World)
    (hi : AIn w ra rc rs ha hc hs na nc ns fa fc zs) (hl : Lies w fa fc zs) :
    Calls Tryz.prog 17 #[wdv ha hc hs na nc ns, .slice ra rs.length rc, .slice fa zs.length fc] w fun e w' => e = .returned (.bool (Ml.closedB ⟨hs, ns⟩ (rs.map Rv.r) (zs.map Fv.f))) ∧ Below w.heap.size w w' := by
  have iF : (Tryz.prog.info? 36).map (·.size) = some 4 := by kernel_rfl
  obtain ⟨h0, h1, h2, A0⟩ := boxes3 w (.cells #[.slice ha hs.length hc, .slice na ns.length nc] 41) (.cells #[.slice fa zs.length fc] 24) (.cells #[.bool false] 4)
  have T1 := hideP (fun W (h : Below w.heap.size w W) => sorted_at fa fc zs W (hl.below h (Nat.le_refl _)) (fun z hz => (hi.facts.each z hz).below h (Nat.le_refl _)))
  have HI := hideP hi
  have HA := hideP A0
  clear hi hl
  refine calls_marks Tryz.func17 rfl ?_
  simp only [Tryz.ntmps17, List.size_toArray, List.length_cons, List.length_nil, Nat.reduceAdd, Nat.reduceSub, Array.replicate_succ, Array.replicate_zero, List.push_toArray, List.append_toArray, List.nil_append, List.cons_append]
  go_wp2_with fail
  generalize hW3 : ((w.alloc (.cells #[.slice ha hs.length hc, .slice na ns.length nc] 41)).alloc (.cells #[.slice fa zs.length fc] 24)).alloc (.cells #[.bool false] 4) = w3 at *
  clear hW3
  refine (T1.out w3 A0).mono ?_
  rintro e w4 ⟨a4, c4, us, rfl, OF4, EA4, hs4, B4⟩
  have H0 := below_heap B4 h0
  have H1 := below_heap B4 h1
  have H2 := below_heap B4 h2
  have B04 := Below.then A0 B4
  have HS := hideP hs4
  have s4 := heap_lt H2
  have s3 := heap_lt h2
  clear hs4 h0 h1 h2 A0 T1
  go_wp2_with (refine wpList_store_cel rfl 24 _ _ rfl (w.heap.size + 1) 0 1 24 (.slice a4 us.length c4) #[.slice a4 us.length c4] rfl rfl H1 rfl (by decide) (by kernel_rfl) rfl rfl ?_; intro w5 N5 t5; have G0 := t5.heap (by omega) H0; have G2 := t5.heap (by omega) H2; have g0 : w5.cell? ⟨w.heap.size, 0, none⟩ = some (.slice ha hs.length hc) := (by rw [heap_cell G0]; rfl); have g1 : w5.cell? ⟨w.heap.size, 1, none⟩ = some (.slice na ns.length nc) := (by rw [heap_cell G0]; rfl); have g2 : w5.cell? ⟨w.heap.size + 1, 0, none⟩ = some (.slice a4 us.length c4) := (by rw [heap_cell N5]; rfl))
  have B05 : Below w.heap.size w w5 := B04.trans (t5.lower (by omega) B04.size)
  have sf : ∀ ty : TypeId, ty ≠ 24 → Safe ty w4 w5 := fun ty hn => t5.safeT H1 hn
  have EA5 : ∀ z ∈ us, Fv.At w5 z := fun z hz => by
    obtain ⟨q1, q2, q3, q4⟩ := EA4 z hz
    exact q1.but (fun ad had => by
      obtain ⟨cur, hcur⟩ := q4 ad had
      intro e
      rw [e, H1] at hcur; cases hcur) t5
  have L5 : Lies w5 a4 c4 us := by
    have h := OF4.lies
    refine ⟨h.room, h.most, h.few, h.void, fun ad had j u hu => ?_⟩
    obtain ⟨g, rfl, g1', g2', g3'⟩ := OF4.row ad had
    rw [← h.cells _ had j u hu]
    exact t5.cell (by rw [addr_add_block]; show g ≠ _; omega) (by rw [addr_add_block]; exact g2')
  have AI := hideP (HI.out.sorted B05 ⟨liesRow L5, EA5⟩ HS.out)
  have T2 := hideP (atOnce_at ra rc rs ha hc hs na nc ns a4 c4 us w5)
  clear H0 H1 H2 OF4 EA4 B4 B04 sf
  refine T2.out.mono ?_
  rintro e w6 ⟨rfl, B6, S6, C6⟩
  have HC := hideP C6
  clear T2 g0 g1 g2 C6
  go_wp2_with fail
  have hm : Hid (∀ x, x ∈ us.map Fv.f ↔ x ∈ zs.map Fv.f) := fun x => by rw [HS.out, mem_sortF]
  have SSU : Hid (SS (us.map Fv.f)) := by show SS _; rw [HS.out]; exact sortF_SS _
  have s5 := heap_lt G2
  have s6 := B6.size
  have LL := hideP L5
  have EE := hideP EA5
  have T6 := Below.then B05 B6
  clear L5 EA5 t5
  refine wp_range (pt := 166) (gf := 59) (lb := #[ptr (w5.heap.size + 1), ptr w5.heap.size, ptr (w5.heap.size + 1 + 1)]) rfl (enters_of Tryz.func59 (by kernel_rfl) rfl)
    (Elt := EltO ⟨hs, ns⟩ (rs.map Rv.r) (us.map Fv.f)) (Kp := fun l2 => Rnd w5.heap.size fun k => False ∨ (k = l2 ∧ w5.heap.size ≤ l2)) (S := fun fs => ∀ x, x ∈ fs ↔ x ∈ Ml.onceL ⟨hs, ns⟩ (rs.map Rv.r) (us.map Fv.f)) (Sp := fun _ => True) (N := rs.length * hs.length * 60001)
    ?seq (fun h k => h.trans k) (fun l2 W5 o o' h1 _ _ => Rnd.but (but_putObj W5 l2 o') (.inr ⟨rfl, by omega⟩)) rfl
    (fun pre W => (∀ x ∈ pre, x ∈ us.map Fv.f) ∧ Below w5.heap.size w5 W)
    (fun c pre W => c = .ret ∧ W.heap[w.heap.size + 1 + 1]? = some (.cells #[.bool false] 4) ∧ (∃ x ∈ Ml.onceL ⟨hs, ns⟩ (rs.map Rv.r) (us.map Fv.f), x ∉ us.map Fv.f) ∧ Below w.heap.size w W)
    (fun s A A' h hit => ⟨h.1, h.2.trans (hit.toBelow.mono s6)⟩)
    (fun c s A A' h hit => ⟨h.1, hit.same _ _ _ _ h.2.1 (by decide), h.2.2.1, h.2.2.2.trans (hit.toBelow.mono T6.size)⟩)
    ⟨(fun _ h => by cases h), B6⟩
    (fun f a' W5 => ∃ (z : Fv) (S : Nat) (u0 u1 u2 u3 u10 u11 u12 u13 u14 u15 u16 : Value), W5.heap[S]? = some (.cells (fv z).toArray 36) ∧ z.f = f ∧ f ∈ Ml.onceL ⟨hs, ns⟩ (rs.map Rv.r) (us.map Fv.f) ∧ RowT kK 56 W5 z.a z.cap z.ks ∧ a' = { tmps := #[u0, u1, u2, u3, undef, ptr (w.heap.size + 1), ptr (w.heap.size + 1 + 1), ptr S, undef, undef, u10, u11, u12, u13, u14, u15, u16, undef, undef, undef, undef, undef, undef, undef, undef], defers := [] })
    (fun f a' A A' h hit => by
      obtain ⟨z, S, u0, u1, u2, u3, u10, u11, u12, u13, u14, u15, u16, h1, h2, hm, h3, h4⟩ := h
      exact ⟨z, S, u0, u1, u2, u3, u10, u11, u12, u13, u14, u15, u16, hit.same _ _ _ _ h1 (by decide), h2, hm, h3.safe (hit.safe (by decide)), h4⟩)
    ?assign ?body ?done ?stop
  case seq =>
    intro W1 hb1 hs1
    exact once_seq (X := fun _ => False) AI.out ⟨below_heap hb1 HC.out.rules, below_heap hb1 HC.out.world, below_heap hb1 HC.out.facts⟩ (fun k hk => hk.elim) ⟨id, id, id⟩ (B6.trans (hb1.mono s6))
  case assign =>
    rintro l2 pre f _ W5 K hl5 hlt5 HI5 ⟨⟨z, rfl, hzf, RZ⟩, MEM⟩ hK
    have N5 := heap_alloc_new W5 (.cells #[.string { data := #[] }, .string { data := #[] }, .string { data := #[] }, .slice none 0 0] 36)
    refine round_region (by rintro ⟨_, _, h⟩; exact h) rfl ?_
    go_wp2_with (refine wpList_store_all rfl 36 _ _ rfl W5.heap.size 4 _ 36 (fv z) rfl rfl N5 rfl rfl iF rfl ?_; intro w6 N6 d6; have B6 := below_tok d6)
    exact hK _ _ (keeps_below B6) (Rnd.of_below B6) ⟨HI5.1, HI5.2.trans (B6.mono HI5.2.size)⟩ ⟨z, _, _, _, _, _, _, _, _, _, _, _, _, N6, hzf, MEM, RZ.safe (Safe.below B6), rfl⟩
  case body =>
    rintro l2 pre f _ W7 hl5 hlt5 ⟨ALL, B7⟩ ⟨z, S, u0, u1, u2, u3, u10, u11, u12, u13, u14, u15, u16, N7, rfl, MEM, RZ, rfl⟩ hN
    have k1 := (B7.block (w.heap.size + 1) (by omega)).trans N5
    have k2 := (B7.block (w.heap.size + 1 + 1) (by omega)).trans G2
    have g1 : W7.cell? ⟨w.heap.size + 1, 0, none⟩ = some (.slice a4 us.length c4) := by rw [heap_cell k1]; rfl
    have TS := hideP (msearch_at a4 c4 us z W7 (LL.out.below B7 (Nat.le_refl _)) (fun y hy => (EE.out y hy).below B7 (Nat.le_refl _)) (row_args RZ.row) SSU.out)
    have HM := hideP MEM
    have HALL := hideP ALL
    clear MEM hN ALL
    refine wpIn_block ?_
    apply wpIn_seq_k
    intro K5 hK5
    refine round_region (by rintro ⟨_, _, h⟩; exact h) rfl ?_
    go_wp2_with (refine wpList_load_all rfl 36 _ rfl S 4 36 (fv z) _ rfl N7 rfl Tryz.underlying36 rfl iF ?_)
    refine TS.out.mono ?_
    rintro e w8 ⟨⟨i8, rfl, _⟩, B8⟩
    have k28 := below_heap B8 k2
    have k3 : w8.cell? ⟨w.heap.size + 1 + 1, 0, none⟩ = some (.bool false) := by rw [heap_cell k28]; rfl
    have k4 := heap_frozen k28 0
    have T8 := Below.then B7 B8
    clear TS g1
    cases hq : hasF (us.map Fv.f) z.f with
    | true =>
      have hz := hideP ((hasF_iff _ _).1 hq)
      clear hq
      go_wp2_with fail
      gi_wp2
      exact ⟨keeps_below B8, Rnd.of_below B8, (fun x hx => by
        rcases List.mem_append.1 hx with hx | hx
        · exact HALL.out x hx
        · rw [List.mem_singleton] at hx; subst hx; exact hz.out), T8⟩
    | false =>
      have hz : Hid (z.f ∉ us.map Fv.f) := fun h => by rw [(hasF_iff _ _).2 h] at hq; cases hq
      clear hq
      go_wp2_with fail
      gi_wp2
      obtain ⟨q1, d1⟩ := set_one12 k28 (.bool false)
      exact ⟨(keeps_below B8).trans (keeps_but d1 k28), rfl, q1, ⟨z.f, HM.out, hz.out⟩, (B05.trans (T8.mono B05.size)).trans (d1.lower (by omega) (Nat.le_trans B05.size T8.size))⟩
  case done =>
    rintro D fs W7 hD7 hS7 ⟨ALL, B7⟩ hK7
    have k2 := (B7.block (w.heap.size + 1 + 1) (by omega)).trans G2
    have CL := hideP (closed_yes hm.out (fun x hx => ALL x ((hS7 x).2 hx)))
    clear hS7 ALL
    go_wp2_with (refine wpList_store_cel rfl 4 _ _ rfl (w.heap.size + 1 + 1) 0 1 4 (.bool true) #[.bool true] rfl rfl k2 rfl (by decide) (by kernel_rfl) rfl rfl ?_; intro w8 N8 t8)
    have MK : Marks w6.heap.size [D] w8 := ⟨fun D' h => (by rw [List.mem_singleton] at h; subst h; exact t8.heap (by omega) hK7), (by simp), fun D' h => (by rw [List.mem_singleton] at h; subst h; exact hD7)⟩
    have IT : Itr 166 w6.heap.size w8 (shut [D] w8) := shut_itr [D] w8 MK.open_ MK.nodup MK.low
    have BB : Below w.heap.size w w8 := (B05.trans (B7.mono B05.size)).trans (t8.lower (by omega) (Nat.le_trans B05.size B7.size))
    exact leaves_marks [D] w8 MK.open_ MK.nodup ⟨_, results_bool rfl rfl (IT.same _ _ _ _ N8 (by decide)), by rw [CL.out], BB.trans (IT.toBelow.mono T6.size)⟩
  case stop =>
    rintro D c pre W7 hD7 _ ⟨rfl, k7, hno, B7⟩ hK7
    have CL := hideP (closed_no hm.out hno)
    refine wpIn_ret ?_
    have MK : Marks w6.heap.size [D] W7 := ⟨fun D' h => (by rw [List.mem_singleton] at h; subst h; exact hK7), (by simp), fun D' h => (by rw [List.mem_singleton] at h; subst h; exact hD7)⟩
    have IT : Itr 166 w6.heap.size W7 (shut [D] W7) := shut_itr [D] W7 MK.open_ MK.nodup MK.low
    exact leaves_marks [D] W7 MK.open_ MK.nodup ⟨_, results_bool rfl rfl (IT.same _ _ _ _ k7 (by decide)), by rw [CL.out], B7.trans (IT.toBelow.mono T6.size)⟩
end Go.Proofs.YtdehimbfcilhpaaGreatDoor

/-
  The reference's weight of facts: where it is within 200 there are at most 200 facts.
-/
namespace Go.Proofs.YtdehimbfcilhpaaGreatDoor
open Go.RowKit Go.Sort

/-- texts within reach -/
structure TxF (x : Fv) : Prop where
  a : x.at_.length ≤ 140737488351232
  b : x.by_.length ≤ 140737488351232
  c : x.pred.length ≤ 140737488351232
  d : ∀ k ∈ x.ks, k.s.length ≤ 140737488351232

set_option maxHeartbeats 4000000 in
theorem weight_few4 (a : Option Addr) (c : Nat) (xs : List Fv) (w : World) (hx : Lies w a c xs) (ax : ∀ x ∈ xs, Fv.At w x) (tx : ∀ x ∈ xs, TxF x) :
    Calls Tryz.prog 20 #[.slice a xs.length c, .int .i64 200] w fun e w' => (∃ r : Int, e = .returned (.int .i64 r) ∧ (¬ 200 < r → xs.length ≤ 200)) ∧ Grew w w' := by
  have mixed : Tryz.prog.follows .mixedOrders = true := by kernel_rfl
  have b1 := hx.few
  go_enter Tryz.func20, Tryz.ntmps20
  go_wp2_with fail
  go_loopw [5, 6, 7] (fun v5 v6 _ wr => ∃ (k : Nat) (n : Int), v5 = .int .i64 n ∧ v6 = .int .i64 (k : Int) ∧ k ≤ xs.length ∧ (k : Int) ≤ n ∧ n ≤ 4611686018427387904 ∧ Grew w wr) (fun _ v6 _ _ => xs.length - (intOf v6).toNat)
  case atStart => exact ⟨0, 0, rfl, rfl, by omega, by omega, by omega, Grew.refl _⟩
  case round =>
    obtain ⟨k, n, rfl, rfl, hk, hkn, hnt, hg⟩ := hrel
    by_cases hlt : k < xs.length
    · have q2 : (k : Int) < (xs.length : Int) := by omega
      by_cases hn : n ≤ 200
      · obtain ⟨P1, O1, rfl⟩ := hx.addr (Nat.lt_of_le_of_lt (Nat.zero_le _) hlt)
        have hx' := hx.below hg.below (Nat.le_refl _)
        obtain ⟨a1, a2, a3, a4⟩ := hx'.get k hlt
        have hA := (ax _ (List.getElem_mem hlt)).grew hg
        have hT := tx _ (List.getElem_mem hlt)
        have hfew := ArgsAt.few hA
        generalize (xs[k]'hlt) = p at *
        obtain ⟨t1, t2, t3, t4⟩ := hT
        go_wp2_with fail
        go_quiet (fail)
        go_wp2_with fail
        have hg2 := hg.trans (Grew.drewN wr nq)
        have b2 := (Grew.drewN wr nq).below
        have e4 := (b2.cell (p := ⟨P1, O1 + k * 4 + 3, none⟩) (cell_block a4)).trans a4
        have hA2 := hA.grew (Grew.drewN wr nq)
        generalize wr.drewN nq = w2 at *
        clear a1 a2 a3 a4 b2 hA hx' hg
        go_loopw [5, 7] (fun v5 v7 wi => ∃ (j : Nat) (n : Int), v5 = .int .i64 n ∧ v7 = .int .i64 (j : Int) ∧ j ≤ p.ks.length ∧ (k : Int) + 1 ≤ n ∧ n ≤ 4611686018427387904 ∧ Grew w2 wi) (fun _ v7 _ => p.ks.length - (intOf v7).toNat)
        case atStart => exact ⟨0, _, rfl, rfl, by omega, by omega, by omega, Grew.refl _⟩
        case round =>
          obtain ⟨j, n', rfl, rfl, hj, hn1, hn2, hgi⟩ := hrel
          have c4 := (hgi.below.cell (p := ⟨P1, O1 + k * 4 + 3, none⟩) (cell_block e4)).trans e4
          by_cases hjl : j < p.ks.length
          · have q3 : (j : Int) < (p.ks.length : Int) := by omega
            by_cases hn' : n' ≤ 200
            · obtain ⟨P2, O2, hP2⟩ := ArgsAt.addr hA2 (Nat.lt_of_le_of_lt (Nat.zero_le _) hjl)
              have hA3 := hA2.grew hgi
              rw [Fv.At, hP2] at hA3
              rw [hP2] at c4
              obtain ⟨m1, m2, m3⟩ := hA3.get j hjl
              have t5 := t4 _ (List.getElem_mem hjl)
              go_wp2_with fail
              exact ⟨⟨j + 1, _, rfl, by simp, by omega, by omega, by omega, hgi⟩, by simp [intOf]; omega⟩
            · go_wp2_with fail
              exact ⟨⟨k + 1, n', rfl, by simp, by omega, by omega, by omega, hg2.trans hgi⟩, by simp [intOf]; omega⟩
          · have q3 : ¬ (j : Int) < (p.ks.length : Int) := by omega
            go_wp2_with fail
            exact ⟨⟨k + 1, n', rfl, by simp, by omega, by omega, by omega, hg2.trans hgi⟩, by simp [intOf]; omega⟩
      · go_wp2_with fail
        go_ret
        exact ⟨⟨n, rfl, fun h => by omega⟩, hg⟩
    · have q2 : ¬ (k : Int) < (xs.length : Int) := by omega
      go_wp2_with fail
      go_ret
      exact ⟨⟨n, rfl, fun h => by omega⟩, hg⟩
end Go.Proofs.YtdehimbfcilhpaaGreatDoor

/-
  The reference's weight of facts: what is true of facts whose weight is within a limit.
-/
namespace Go.Proofs.YtdehimbfcilhpaaGreatDoor
open Go.RowKit Go.Lib Go.Shelf Go.Sort

/-- a fact of little weight -/
structure LtF (m : Int) (x : Fv) : Prop where
  ks : (x.ks.length : Int) ≤ m
  txt : (x.at_.length : Int) + x.by_.length + x.pred.length < 16 * (m + 1)
  each : ∀ q ∈ x.ks, (q.s.length : Int) < 16 * (m + 1)

set_option maxHeartbeats 4000000 in
theorem weightF_at (m : Int) (hm0 : 0 ≤ m) (hm1 : m ≤ 1000) (a : Option Addr) (c : Nat) (xs : List Fv) (w : World) (hx : Lies w a c xs) (ax : ∀ x ∈ xs, Fv.At w x) (tx : ∀ x ∈ xs, TxF x) :
    Calls Tryz.prog 20 #[.slice a xs.length c, .int .i64 m] w fun e w' => (∃ r : Int, e = .returned (.int .i64 r) ∧ (r ≤ m → (xs.length : Int) ≤ m ∧ ∀ x ∈ xs, LtF m x)) ∧ Grew w w' := by
  have mixed : Tryz.prog.follows .mixedOrders = true := by kernel_rfl
  have b1 := hx.few
  go_enter Tryz.func20, Tryz.ntmps20
  go_wp2_with fail
  go_loopw [5, 6, 7] (fun v5 v6 _ wr => ∃ (k : Nat) (n : Int), v5 = .int .i64 n ∧ v6 = .int .i64 (k : Int) ∧ k ≤ xs.length ∧ (k : Int) ≤ n ∧ n ≤ 4611686018427387904 ∧ Hid (n ≤ m → ∀ x ∈ xs.take k, LtF m x) ∧ Grew w wr) (fun _ v6 _ _ => xs.length - (RowKit.intOf v6).toNat)
  case atStart => exact ⟨0, 0, rfl, rfl, by omega, by omega, by omega, hideP (fun _ x h => by simp at h), Grew.refl _⟩
  case round =>
    obtain ⟨k, n, rfl, rfl, hk, hkn, hnt, hP, hg⟩ := hrel
    by_cases hlt : k < xs.length
    · have q2 : (k : Int) < (xs.length : Int) := by omega
      by_cases hn : n ≤ m
      · obtain ⟨P1, O1, rfl⟩ := hx.addr (Nat.lt_of_le_of_lt (Nat.zero_le _) hlt)
        have hx' := hx.below hg.below (Nat.le_refl _)
        obtain ⟨a1, a2, a3, a4⟩ := hx'.get k hlt
        have hA := (ax _ (List.getElem_mem hlt)).grew hg
        have hT := tx _ (List.getElem_mem hlt)
        have hfew := ArgsAt.few hA
        have hst : Hid (∀ x, x ∈ xs.take (k + 1) → x ∈ xs.take k ∨ x = xs[k]'hlt) := hideP (fun x h => by
          rw [← List.take_append_getElem hlt, List.mem_append, List.mem_singleton] at h; exact h)
        generalize (xs[k]'hlt) = p at *
        obtain ⟨t1, t2, t3, t4⟩ := hT
        go_wp2_with fail
        go_quiet (fail)
        go_wp2_with fail
        have hg2 := hg.trans (Grew.drewN wr nq)
        have b2 := (Grew.drewN wr nq).below
        have e4 := (b2.cell (p := ⟨P1, O1 + k * 4 + 3, none⟩) (cell_block a4)).trans a4
        have hA2 := hA.grew (Grew.drewN wr nq)
        generalize wr.drewN nq = w2 at *
        clear a1 a2 a3 a4 b2 hA hx' hg
        go_loopw [5, 7] (fun v5 v7 wi => ∃ (j : Nat) (n' : Int), v5 = .int .i64 n' ∧ v7 = .int .i64 (j : Int) ∧ j ≤ p.ks.length ∧ (k : Int) + 1 ≤ n' ∧ n' ≤ 4611686018427387904 ∧ n ≤ n' ∧ (p.ks.length : Int) ≤ n' ∧ (p.at_.length : Int) + p.by_.length + p.pred.length < 16 * (n' + 1) ∧ Hid (n' ≤ m → ∀ q ∈ p.ks.take j, (q.s.length : Int) < 16 * (m + 1)) ∧ Grew w2 wi) (fun _ v7 _ => p.ks.length - (RowKit.intOf v7).toNat)
        case atStart => exact ⟨0, _, rfl, rfl, by omega, by omega, by omega, by omega, by omega, by omega, hideP (fun _ x h => by simp at h), Grew.refl _⟩
        case round =>
          obtain ⟨j, n', rfl, rfl, hj, hn1, hn2, hn3, hn4, hn5, hQ, hgi⟩ := hrel
          have c4 := (hgi.below.cell (p := ⟨P1, O1 + k * 4 + 3, none⟩) (cell_block e4)).trans e4
          by_cases hjl : j < p.ks.length
          · have q3 : (j : Int) < (p.ks.length : Int) := by omega
            by_cases hn' : n' ≤ m
            · obtain ⟨P2, O2, hP2⟩ := ArgsAt.addr hA2 (Nat.lt_of_le_of_lt (Nat.zero_le _) hjl)
              have hA3 := hA2.grew hgi
              rw [Fv.At, hP2] at hA3
              rw [hP2] at c4
              obtain ⟨m1, m2, m3⟩ := hA3.get j hjl
              have t5 := t4 _ (List.getElem_mem hjl)
              have hsj : Hid (∀ q, q ∈ p.ks.take (j + 1) → q ∈ p.ks.take j ∨ q = p.ks[j]'hjl) := hideP (fun x h => by
                rw [← List.take_append_getElem hjl, List.mem_append, List.mem_singleton] at h; exact h)
              generalize (p.ks[j]'hjl) = qq at *
              go_wp2_with fail
              refine ⟨⟨j + 1, _, rfl, by simp, by omega, by omega, by omega, by omega, by omega, by omega, hideP (fun hle q hq => ?_), hgi⟩, by simp [RowKit.intOf]; omega⟩
              rcases hsj.out q hq with h | rfl
              · exact hQ.out hn' q h
              · omega
            · have HN : Hid (n' ≤ m → ∀ x ∈ xs.take (k + 1), LtF m x) := hideP (fun h => absurd h hn')
              go_wp2_with fail
              exact ⟨⟨k + 1, n', rfl, by simp, by omega, by omega, by omega, HN, hg2.trans hgi⟩, by simp [RowKit.intOf]; omega⟩
          · have q3 : ¬ (j : Int) < (p.ks.length : Int) := by omega
            have HN : Hid (n' ≤ m → ∀ x ∈ xs.take (k + 1), LtF m x) := hideP (fun h x hx => by
              rcases hst.out x hx with h' | rfl
              · exact hP.out (by omega) x h'
              · have hq := hQ.out h
                rw [List.take_of_length_le (by omega)] at hq
                exact ⟨by omega, by omega, hq⟩)
            go_wp2_with fail
            exact ⟨⟨k + 1, n', rfl, by simp, by omega, by omega, by omega, HN, hg2.trans hgi⟩, by simp [RowKit.intOf]; omega⟩
      · go_wp2_with fail
        go_ret
        exact ⟨⟨n, rfl, fun h => by omega⟩, hg⟩
    · have q2 : ¬ (k : Int) < (xs.length : Int) := by omega
      have HN : Hid (n ≤ m → ∀ x ∈ xs, LtF m x) := hideP (fun h x hx => hP.out h x (by rw [List.take_of_length_le (by omega)]; exact hx))
      go_wp2_with fail
      go_ret
      exact ⟨⟨n, rfl, fun h => ⟨by omega, HN.out h⟩⟩, hg⟩
end Go.Proofs.YtdehimbfcilhpaaGreatDoor
