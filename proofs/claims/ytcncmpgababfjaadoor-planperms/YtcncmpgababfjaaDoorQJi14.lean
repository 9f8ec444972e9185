/-
  Order: in which order a rule's literals are looked for.
-/
import Derived.Test.YtcncmpgababfjaaDoorQJh14
namespace Go.Proofs.YtcncmpgababfjaaDoor
open Go.RowKit Go.Lib Go.Shelf

theorem Pn.pick_congr {c c' : Nat → Nat} {o : List Nat} : ∀ {n : Nat}, (∀ k, k < n → c k = c' k) → Pn.pick c o n = Pn.pick c' o n
  | 0, _ => rfl
  | n + 1, h => by
    rw [Pn.pick, Pn.pick, Pn.pick_congr (n := n) fun k hk => h k (by omega)]
    cases hp : Pn.pick c' o n with
    | none => rfl
    | some b =>
      have := Pn.pick_lt hp
      simp only [h n (by omega), h b (by omega)]
/-- the next one of an order -/
theorem Pn.next_of (r : Ru) {o : List Nat} (h : Pn.Ok r o) (hl : o.length < r.body.length) : ∃ b, Pn.pick (kof (Pn.kts r (Pn.vs r o))) o r.body.length = some b ∧ b < r.body.length ∧ b ∉ o ∧ Pn.Ok r (o ++ [b]) ∧ ∀ m, Pn.go r (m + 1) o = Pn.go r m (o ++ [b]) := by
  obtain ⟨b, hp, hb⟩ := Pn.pick_ex (c := Pn.ck r o) (o := o) (n := r.body.length) hl
  refine ⟨b, ?_, hb.lt, hb.out, h.snoc hb, fun m => Pn.go_step hb⟩
  rw [← hp]
  refine Pn.pick_congr fun k hk => ?_
  rw [kof_get (by rw [Pn.kts_len]; exact hk), Pn.kts_get, Pn.kts_ck _ _ _ hk]
theorem vs_take (x : Rv) (o : List Nat) (i : Nat) (hi : i < x.body.length) : Pn.vs x.r o ++ Pn.lvs (x.body[i]).l = Pn.vs x.r (o ++ [i]) := by
  rw [Pn.vs_snoc]
  unfold Pn.lvk
  rw [List.getElem?_eq_getElem (by show i < (x.body.map Lv.l).length; rw [List.length_map]; exact hi)]
  simp [Rv.r]

set_option maxRecDepth 100000 in
set_option maxHeartbeats 2000000 in
theorem order_at (x : Rv) (first : Int) (w : World) (hx : Rv.Aw w x) (hn : x.body.length ≤ 900000) (hT : Pn.tot x.r x.body.length ≤ 900000) (hs : ∀ y ∈ x.body, ∀ v ∈ Pn.lvs y.l, v.length ≤ maxLen) (hh : x.home.v.length ≤ maxLen) :
    Calls Tryd.prog 8 #[rval x, .int .i64 first] w fun e w' => (∃ a c, e = .returned (.slice a (Pn.ord x.r first).length c) ∧ Row iK14 w' a c (Pn.ord x.r first)) ∧ Below w.heap.size w w' := by
  have iR : (Tryd.prog.info? 29).map (·.size) = some 11 := by kernel_rfl
  have hrl : x.r.body.length = x.body.length := List.length_map ..
  have A0 := below_alloc w (.cells (rv x).toArray 29)
  have H0 := heap_alloc_new w (.cells (rv x).toArray 29)
  have X1 := hx.below A0 (Nat.le_refl _)
  have NO := hideP (newOrder_at x _ X1 (by omega) hT hs hh)
  have TK := hideP (fun w0 W ob tb kb bm base nu V o p i hi h pl hw ho => take_at x (w.alloc (.cells (rv x).toArray 29)) w0 W ob tb kb bm base nu V o p i hi h pl X1 hw (by omega) hT hs ho)
  have HT := hideP hT
  go_enter Tryd.func8, Tryd.ntmps8
  go_wp2_with (refine wpList_load_all rfl 29 _ rfl w.heap.size 11 29 (rv x) _ rfl H0 rfl Tryd.underlying29 rfl iR ?_)
  refine NO.out.mono ?_
  rintro e w2 ⟨ob, tb, kb, bm, base, nu, w0, rfl, pl, O2, B2⟩
  have lt1 := heap_lt H0
  have H2 : w2.heap[w.heap.size]? = some (.cells (rv x).toArray 29) := (B2.block _ lt1).trans H0
  have c2 : w2.cell? ⟨w.heap.size, 10, none⟩ = some (.slice x.ba x.body.length x.bcap) := by rw [heap_cell H2]; rfl
  have K2 : Kw14 (w.alloc (.cells (rv x).toArray 29)).heap.size w2 w2 := Kw14.refl _ _
  clear NO hx hT hs hh X1
  generalize hW1 : w.alloc (.cells (rv x).toArray 29) = w1 at *
  clear hW1
  by_cases h0 : 0 ≤ first
  · by_cases h1 : first < (x.body.length : Int)
    · obtain ⟨i, rfl⟩ : ∃ i : Nat, first = (i : Int) := ⟨first.toNat, by omega⟩
      have hord := hideP (show Pn.go x.r (x.body.length - 1) [i] = Pn.ord x.r (i : Int) by unfold Pn.ord; rw [if_pos (by rw [Pn.isNo_iff, hrl]; exact ⟨h0, h1⟩), hrl]; rfl)
      have hok3 := Pn.Ok.single (r := x.r) (k := i) (by omega)
      go_wp2_with fail
      refine (TK.out w0 w2 ob tb kb bm base nu _ [] [] i (by omega) O2 pl B2 (by simp)).mono ?_
      rintro e w3 ⟨rfl, ⟨nu3, O3⟩, K3⟩
      have O3' : OrdAt ob tb kb bm base x w0 w3 nu3 (Pn.vs x.r [i]) [i] [i] := by
        have := vs_take x [] i (by omega)
        rw [List.nil_append] at this
        rw [← this]; exact O3
      go_wp2_with fail
      go_loopg [20] (x.body.length - 1) (fun k _ wr => ∃ (o : List Nat) (nu : Value), OrdAt ob tb kb bm base x w0 wr nu (Pn.vs x.r o) o o ∧ Pn.Ok x.r o ∧ Hid (Pn.go x.r k o = Pn.ord x.r (i : Int)) ∧ o.length + k = x.body.length ∧ Kw14 w1.heap.size w2 wr)
      case atStart => exact ⟨[i], nu3, O3', hok3, hord, by simp only [List.length_cons, List.length_nil]; omega, K3⟩
      case round =>
        obtain ⟨o, nu4, O4, hok, hgo, hlen, K4⟩ := hrel
        obtain ⟨a4, c4, rfl, R4, _⟩ := told_slice O4.nums (by omega)
        have H4 := K4.heap H2 (by decide) (by decide) (by decide)
        have o4 := O4.obj
        have d4 : wr.cell? ⟨ob, 1, none⟩ = some (.slice a4 o.length c4) := by rw [heap_cell o4]; rfl
        have e4 : wr.cell? ⟨w.heap.size, 10, none⟩ = some (.slice x.ba x.body.length x.bcap) := by rw [heap_cell H4]; rfl
        have few4 := R4.few
        by_cases hlt : o.length < x.body.length
        · obtain ⟨b, hp, hb1, hb2, hok5, hst⟩ := Pn.next_of x.r hok (by omega)
          have q1 : (o.length : Int) < (x.body.length : Int) := by omega
          obtain ⟨k, rfl⟩ : ∃ k, gk = k + 1 := ⟨gk - 1, by omega⟩
          rw [hrl] at hb1 hp
          have HST := hideP (hst k)
          have HP := hideP hp
          clear hst hp
          go_wp2_with fail
          go_region_held3 (fun W => W.cell? ⟨ob, 1, none⟩ = some (.slice a4 o.length c4) ∧ W.cell? ⟨w.heap.size, 10, none⟩ = some (.slice x.ba x.body.length x.bcap)) (exact ⟨d4, e4⟩) (fail)
          have N4 := O4.next (Below.refl wr.heap.size wr).drew
          have KD : Kw14 w1.heap.size w2 wr.drew := K4.trans (Kw14.next (Below.refl _ _).drew (Nat.le_trans B2.size K4.bel.size))
          generalize wr.drew = w5 at *
          have E : pkv (Pn.pick (kof (Pn.kts x.r (Pn.vs x.r o))) o x.body.length) = (b : Int) := by rw [HP.out]; rfl
          go_wp2_with fail
          refine (next_at (.slice x.ba x.body.length x.bcap) (.slice a4 o.length c4) (.map (some bm)) w5 ob tb kb x.body.length (Pn.kts x.r (Pn.vs x.r o)) o (by rw [Pn.kts_len, hrl]) (by omega) (fun k hk => by
            rw [Pn.kts_get]
            rw [Pn.kts_len] at hk
            have h1 := Pn.kns_le (Pn.vs x.r o) (Pn.tk x.r k)
            have h2 := Pn.tk_len x.r hk
            have h3 := HT.out
            rw [hrl] at h2
            omega) N4.obj N4.taken N4.known).mono ?_
          rintro e w6 ⟨he, B6⟩
          rw [E] at he
          subst he
          have K6 := KD.trans (Kw14.next B6 (Nat.le_trans B2.size KD.bel.size))
          go_wp2_with fail
          refine (TK.out w0 w6 ob tb kb bm base _ _ o o b hb1 (N4.next B6) pl (B2.trans K6.bel) (by omega)).mono ?_
          rintro e w7 ⟨rfl, ⟨nu7, O7⟩, K7⟩
          rw [vs_take] at O7
          go_wp2_with fail
          go_roundg k
          case rel => exact ⟨o ++ [b], nu7, O7, hok5, hideP (HST.out.symm.trans hgo.out), by rw [List.length_append, List.length_singleton]; omega, K6.trans K7⟩
          case measure => omega
        · have q1 : ¬ (o.length : Int) < (x.body.length : Int) := by omega
          go_wp2_with fail
          go_region_held3 (fun W => W.cell? ⟨ob, 1, none⟩ = some (.slice a4 o.length c4) ∧ W.cell? ⟨w.heap.size, 10, none⟩ = some (.slice x.ba x.body.length x.bcap)) (exact ⟨d4, e4⟩) (fail)
          go_wp2_with fail
          go_ret
          obtain rfl : gk = 0 := by omega
          have ho : o = Pn.ord x.r (i : Int) := hgo.out
          rw [← ho]
          refine ⟨⟨a4, c4, rfl, R4.below (Below.refl wr.heap.size wr).drew (Nat.le_refl _)⟩, ?_⟩
          exact (A0.trans ((B2.trans K4.bel).mono A0.size)).drew
    · have hord := hideP (show Pn.go x.r x.body.length [] = Pn.ord x.r first by unfold Pn.ord; rw [if_neg (by rw [Pn.isNo_iff, hrl]; exact fun h => h1 h.2), hrl])
      have hok3 := Pn.Ok.nil x.r
      go_wp2_with fail
      go_loopg [20] x.body.length (fun k _ wr => ∃ (o : List Nat) (nu : Value), OrdAt ob tb kb bm base x w0 wr nu (Pn.vs x.r o) o o ∧ Pn.Ok x.r o ∧ Hid (Pn.go x.r k o = Pn.ord x.r first) ∧ o.length + k = x.body.length ∧ Kw14 w1.heap.size w2 wr)
      case atStart => exact ⟨[], nu, O2, hok3, hord, by simp only [List.length_nil]; omega, K2⟩
      case round =>
        obtain ⟨o, nu4, O4, hok, hgo, hlen, K4⟩ := hrel
        obtain ⟨a4, c4, rfl, R4, _⟩ := told_slice O4.nums (by omega)
        have H4 := K4.heap H2 (by decide) (by decide) (by decide)
        have o4 := O4.obj
        have d4 : wr.cell? ⟨ob, 1, none⟩ = some (.slice a4 o.length c4) := by rw [heap_cell o4]; rfl
        have e4 : wr.cell? ⟨w.heap.size, 10, none⟩ = some (.slice x.ba x.body.length x.bcap) := by rw [heap_cell H4]; rfl
        have few4 := R4.few
        by_cases hlt : o.length < x.body.length
        · obtain ⟨b, hp, hb1, hb2, hok5, hst⟩ := Pn.next_of x.r hok (by omega)
          have q1 : (o.length : Int) < (x.body.length : Int) := by omega
          obtain ⟨k, rfl⟩ : ∃ k, gk = k + 1 := ⟨gk - 1, by omega⟩
          rw [hrl] at hb1 hp
          have HST := hideP (hst k)
          have HP := hideP hp
          clear hst hp
          go_wp2_with fail
          go_region_held3 (fun W => W.cell? ⟨ob, 1, none⟩ = some (.slice a4 o.length c4) ∧ W.cell? ⟨w.heap.size, 10, none⟩ = some (.slice x.ba x.body.length x.bcap)) (exact ⟨d4, e4⟩) (fail)
          have N4 := O4.next (Below.refl wr.heap.size wr).drew
          have KD : Kw14 w1.heap.size w2 wr.drew := K4.trans (Kw14.next (Below.refl _ _).drew (Nat.le_trans B2.size K4.bel.size))
          generalize wr.drew = w5 at *
          have E : pkv (Pn.pick (kof (Pn.kts x.r (Pn.vs x.r o))) o x.body.length) = (b : Int) := by rw [HP.out]; rfl
          go_wp2_with fail
          refine (next_at (.slice x.ba x.body.length x.bcap) (.slice a4 o.length c4) (.map (some bm)) w5 ob tb kb x.body.length (Pn.kts x.r (Pn.vs x.r o)) o (by rw [Pn.kts_len, hrl]) (by omega) (fun k hk => by
            rw [Pn.kts_get]
            rw [Pn.kts_len] at hk
            have h1 := Pn.kns_le (Pn.vs x.r o) (Pn.tk x.r k)
            have h2 := Pn.tk_len x.r hk
            have h3 := HT.out
            rw [hrl] at h2
            omega) N4.obj N4.taken N4.known).mono ?_
          rintro e w6 ⟨he, B6⟩
          rw [E] at he
          subst he
          have K6 := KD.trans (Kw14.next B6 (Nat.le_trans B2.size KD.bel.size))
          go_wp2_with fail
          refine (TK.out w0 w6 ob tb kb bm base _ _ o o b hb1 (N4.next B6) pl (B2.trans K6.bel) (by omega)).mono ?_
          rintro e w7 ⟨rfl, ⟨nu7, O7⟩, K7⟩
          rw [vs_take] at O7
          go_wp2_with fail
          go_roundg k
          case rel => exact ⟨o ++ [b], nu7, O7, hok5, hideP (HST.out.symm.trans hgo.out), by rw [List.length_append, List.length_singleton]; omega, K6.trans K7⟩
          case measure => omega
        · have q1 : ¬ (o.length : Int) < (x.body.length : Int) := by omega
          go_wp2_with fail
          go_region_held3 (fun W => W.cell? ⟨ob, 1, none⟩ = some (.slice a4 o.length c4) ∧ W.cell? ⟨w.heap.size, 10, none⟩ = some (.slice x.ba x.body.length x.bcap)) (exact ⟨d4, e4⟩) (fail)
          go_wp2_with fail
          go_ret
          obtain rfl : gk = 0 := by omega
          have ho : o = Pn.ord x.r first := hgo.out
          rw [← ho]
          refine ⟨⟨a4, c4, rfl, R4.below (Below.refl wr.heap.size wr).drew (Nat.le_refl _)⟩, ?_⟩
          exact (A0.trans ((B2.trans K4.bel).mono A0.size)).drew
  · have hord := hideP (show Pn.go x.r x.body.length [] = Pn.ord x.r first by unfold Pn.ord; rw [if_neg (by rw [Pn.isNo_iff, hrl]; exact fun h => h0 h.1), hrl])
    have hok3 := Pn.Ok.nil x.r
    go_wp2_with fail
    go_loopg [20] x.body.length (fun k _ wr => ∃ (o : List Nat) (nu : Value), OrdAt ob tb kb bm base x w0 wr nu (Pn.vs x.r o) o o ∧ Pn.Ok x.r o ∧ Hid (Pn.go x.r k o = Pn.ord x.r first) ∧ o.length + k = x.body.length ∧ Kw14 w1.heap.size w2 wr)
    case atStart => exact ⟨[], nu, O2, hok3, hord, by simp only [List.length_nil]; omega, K2⟩
    case round =>
      obtain ⟨o, nu4, O4, hok, hgo, hlen, K4⟩ := hrel
      obtain ⟨a4, c4, rfl, R4, _⟩ := told_slice O4.nums (by omega)
      have H4 := K4.heap H2 (by decide) (by decide) (by decide)
      have o4 := O4.obj
      have d4 : wr.cell? ⟨ob, 1, none⟩ = some (.slice a4 o.length c4) := by rw [heap_cell o4]; rfl
      have e4 : wr.cell? ⟨w.heap.size, 10, none⟩ = some (.slice x.ba x.body.length x.bcap) := by rw [heap_cell H4]; rfl
      have few4 := R4.few
      by_cases hlt : o.length < x.body.length
      · obtain ⟨b, hp, hb1, hb2, hok5, hst⟩ := Pn.next_of x.r hok (by omega)
        have q1 : (o.length : Int) < (x.body.length : Int) := by omega
        obtain ⟨k, rfl⟩ : ∃ k, gk = k + 1 := ⟨gk - 1, by omega⟩
        rw [hrl] at hb1 hp
        have HST := hideP (hst k)
        have HP := hideP hp
        clear hst hp
        go_wp2_with fail
        go_region_held3 (fun W => W.cell? ⟨ob, 1, none⟩ = some (.slice a4 o.length c4) ∧ W.cell? ⟨w.heap.size, 10, none⟩ = some (.slice x.ba x.body.length x.bcap)) (exact ⟨d4, e4⟩) (fail)
        have N4 := O4.next (Below.refl wr.heap.size wr).drew
        have KD : Kw14 w1.heap.size w2 wr.drew := K4.trans (Kw14.next (Below.refl _ _).drew (Nat.le_trans B2.size K4.bel.size))
        generalize wr.drew = w5 at *
        have E : pkv (Pn.pick (kof (Pn.kts x.r (Pn.vs x.r o))) o x.body.length) = (b : Int) := by rw [HP.out]; rfl
        go_wp2_with fail
        refine (next_at (.slice x.ba x.body.length x.bcap) (.slice a4 o.length c4) (.map (some bm)) w5 ob tb kb x.body.length (Pn.kts x.r (Pn.vs x.r o)) o (by rw [Pn.kts_len, hrl]) (by omega) (fun k hk => by
          rw [Pn.kts_get]
          rw [Pn.kts_len] at hk
          have h1 := Pn.kns_le (Pn.vs x.r o) (Pn.tk x.r k)
          have h2 := Pn.tk_len x.r hk
          have h3 := HT.out
          rw [hrl] at h2
          omega) N4.obj N4.taken N4.known).mono ?_
        rintro e w6 ⟨he, B6⟩
        rw [E] at he
        subst he
        have K6 := KD.trans (Kw14.next B6 (Nat.le_trans B2.size KD.bel.size))
        go_wp2_with fail
        refine (TK.out w0 w6 ob tb kb bm base _ _ o o b hb1 (N4.next B6) pl (B2.trans K6.bel) (by omega)).mono ?_
        rintro e w7 ⟨rfl, ⟨nu7, O7⟩, K7⟩
        rw [vs_take] at O7
        go_wp2_with fail
        go_roundg k
        case rel => exact ⟨o ++ [b], nu7, O7, hok5, hideP (HST.out.symm.trans hgo.out), by rw [List.length_append, List.length_singleton]; omega, K6.trans K7⟩
        case measure => omega
      · have q1 : ¬ (o.length : Int) < (x.body.length : Int) := by omega
        go_wp2_with fail
        go_region_held3 (fun W => W.cell? ⟨ob, 1, none⟩ = some (.slice a4 o.length c4) ∧ W.cell? ⟨w.heap.size, 10, none⟩ = some (.slice x.ba x.body.length x.bcap)) (exact ⟨d4, e4⟩) (fail)
        go_wp2_with fail
        go_ret
        obtain rfl : gk = 0 := by omega
        have ho : o = Pn.ord x.r first := hgo.out
        rw [← ho]
        refine ⟨⟨a4, c4, rfl, R4.below (Below.refl wr.heap.size wr).drew (Nat.le_refl _)⟩, ?_⟩
        exact (A0.trans ((B2.trans K4.bel).mono A0.size)).drew
end Go.Proofs.YtcncmpgababfjaaDoor
