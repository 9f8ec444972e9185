/-
  The reference's Program.
-/
import Derived.Test.YtcjfdackhgaigaaDoorQe
import Derived.Test.YtcjfdackhgaigaaDoorRTk
import Derived.Deep.QuietTactic
import Derived.BigQuiet
namespace Go.Proofs.YtcjfdackhgaigaaDoor
open Go.RowKit Go.Lib Go.Shelf

/-- what is known in the loop over rules -/
structure Rel9 (p E : Nat) (w wc : World) (s : Ps.St) (xs : List Rv) (v : Value) : Prop where
  low : Below w.heap.size w wc
  row : wc.ownsRow w.heap.size 54 11 v xs.length (xs.flatMap rv)
  each : ∀ y ∈ xs, Rv.At wc y
  at_ : QAt wc p E s
theorem Rel9.below {p E : Nat} {w wc wd : World} {s : Ps.St} {xs : List Rv} {v : Value} (h : Rel9 p E w wc s xs v) (hb : Below wc.heap.size wc wd) : Rel9 p E w wd s xs v :=
  ⟨Below.then h.low hb, ownsRow_keep h.row (Safe.below hb), fun y hy => (h.each y hy).below hb, h.at_.below hb⟩
theorem Rel9.next {p E : Nat} {w wc wd : World} {s s' : Ps.St} {xs : List Rv} {v : Value} (h : Rel9 p E w wc s xs v) (hb : But p wc wd) (hq : QAt wd p E s') (hp : w.heap.size ≤ p) : Rel9 p E w wd s' xs v :=
  ⟨h.low.trans (hb.lower hp h.low.size), ownsRow_keep h.row (h.at_.safe hb (by decide)), fun y hy => (h.each y hy).safe (h.at_.safe hb (by decide)) (h.at_.safe hb (by decide)), hq⟩
theorem Rel9.fin {p E : Nat} {w w2 w4 : World} {s : Ps.St} {ys : List Rv} {x : Rv} {v v4 : Value} (h : Rel9 p E w w2 s ys v) (hx : Rv.At w2 x)
    (o4 : w4.ownsRow w.heap.size 54 11 v4 (ys ++ [x]).length ((ys ++ [x]).flatMap rv)) (g4 : (w2.alloc (.cells (rv x).toArray 54)).grownBy w4 v.ownBlock) : Rel9 p E w w4 s (ys ++ [x]) v4 := by
  have h' := h.below (below_alloc w2 (.cells (rv x).toArray 54))
  have hx' := hx.below (below_alloc w2 (.cells (rv x).toArray 54))
  refine ⟨h'.low.trans (grown_low h'.row g4 h'.low.size), o4, fun y hy => ?_, h'.at_.grown h'.row g4 (by decide) (by decide)⟩
  rcases List.mem_append.1 hy with h1 | h1
  · exact (h'.each y h1).safe (Safe.grown h'.row g4 (by decide)) (Safe.grown h'.row g4 (by decide))
  · obtain rfl := List.mem_singleton.1 h1
    exact hx'.safe (Safe.grown h'.row g4 (by decide)) (Safe.grown h'.row g4 (by decide))
theorem progAns_err {l : List UInt8} {w w' : World} {x : Nat × Int} (h : Ps.prog l = .error x) (hb : Below w.heap.size w w') : ProgAns l w (.returned (.tuple #[.slice none 0 0, .int .i64 (x.1 : Int), .int .i64 x.2])) w' := by
  unfold ProgAns; rw [h]
  exact ⟨⟨_, rfl, RowsAt.nil _⟩, hb⟩

set_option maxRecDepth 100000 in
set_option maxHeartbeats 4000000 in
theorem rprogram_at (l : List UInt8) (w : World) (hr : l.length ≤ 281474976710656) :
    Calls Tryd.prog 9 #[str l] w (ProgAns l w) := by
  have hsz := str_size l
  have mixed : Tryd.prog.follows .mixedOrders = true := by kernel_rfl
  have T := hideP (rtokens_at l w hr)
  go_enter Tryd.func9, Tryd.ntmps9
  go_wp2_with fail
  refine T.out.mono ?_
  rintro e w1 ⟨⟨a1, c1, rfl, r1, _⟩, b1⟩
  clear T
  cases ha : Lx.ans l with
  | error z =>
    obtain ⟨zp, er⟩ := z
    have hne := (Lx.ans_err ha).2
    have hp : Ps.prog l = .error (zp, er) := by unfold Ps.prog; rw [ha]
    simp only [Lx.toks, Lx.place, Lx.err, List.length_nil]
    have q1 : (er != 0) = true := by simpa using hne
    have HP := hideP hp
    clear ha hp r1
    go_wp2_with fail
    go_ret3
    exact progAns_err HP.out b1
  | ok L =>
    rw [ha] at r1
    simp only [Lx.toks, Lx.place, Lx.err] at r1 ⊢
    simp only [Int.natCast_zero] at *
    have hpr : Ps.prog l = Ps.rules l.length 16 L := by unfold Ps.prog; rw [ha]
    have HPR := hideP hpr
    have A2 := below_alloc w1 (.cells #[.slice a1 L.length c1, .int .i64 (l.length : Int), .int .i64 0, .int .i64 0] 45)
    have q2 : QAt (w1.alloc (.cells #[.slice a1 L.length c1, .int .i64 (l.length : Int), .int .i64 0, .int .i64 0] 45)) w1.heap.size l.length (.ok L) := ⟨a1, c1, L, 0, 0, heap_alloc_new w1 _, r1.safe (Safe.below A2), .inl ⟨rfl, rfl, Ps.ans_fit ha⟩⟩
    have rel0 : Rel9 w1.heap.size l.length w (w1.alloc (.cells #[.slice a1 L.length c1, .int .i64 (l.length : Int), .int .i64 0, .int .i64 0] 45)) (.ok L) [] (.slice none 0 0) := ⟨Below.then b1 A2, ⟨rfl, .inl ⟨rfl, rfl⟩⟩, (fun y hy => by simp at hy), q2⟩
    have hP := b1.size
    clear ha hpr r1 A2 q2
    go_wp2_with fail
    generalize hE : l.length = E at *
    have HE := hideP hE
    clear hE
    generalize hPP : w1.heap.size = P at *
    have HPP := hideP hPP
    clear hPP
    go_loopw [9] (fun v wr => ∃ (ys : List Rv) (s : Ps.St), Rel9 P E w wr s ys v ∧ ((∃ L' n, s = .ok L' ∧ ys.length + n = 16 ∧ Ps.prog l = Ps.rprep (ys.map Rv.r) (Ps.rules E n L')) ∨ (∃ x, s = .error x ∧ Ps.prog l = .error x ∧ ys.length ≤ 17))) (fun v _ => 18 - lenOf v)
    case atStart => exact ⟨[], .ok L, rel0, .inl ⟨L, 16, rfl, rfl, by rw [List.map_nil, Ps.rprep_nil]; exact HPR.out⟩⟩
    case round =>
      obtain ⟨ys, s, rel, hcase⟩ := hrel
      have hy5 : ys.length ≤ 17 := by
        rcases hcase with ⟨L', n, rfl, hn, hans⟩ | ⟨x, rfl, hx, hyl⟩ <;> omega
      obtain ⟨a0, c0, rfl, hrow, _⟩ := own_row (D := rK) rel.row (by omega)
      clear rel0 HPR
      go_wp2_with fail
      refine (ok_q P E s wr rel.at_).mono ?_
      rintro e w2 ⟨rfl, rfl⟩
      rcases hcase with ⟨L', n, rfl, hn, hans⟩ | ⟨x, rfl, hx, hyl⟩
      rotate_left
      · have HX := hideP hx
        obtain ⟨pa, pc, pn, hh, hne⟩ := rel.at_.err
        have y2 : wr.cell? ⟨P, 2, none⟩ = some (.int .i64 x.2) := by rw [heap_cell hh]; rfl
        have y3 : wr.cell? ⟨P, 3, none⟩ = some (.int .i64 (x.1 : Int)) := by rw [heap_cell hh]; rfl
        clear hx
        simp only [isOk]
        go_wp2_with fail
        refine (ok_q P E _ wr rel.at_).mono ?_
        rintro e w2 ⟨rfl, rfl⟩
        simp only [isOk]
        go_wp2_with fail
        go_quiet (fail)
        go_wp2_with fail
        go_ret3
        exact progAns_err HX.out (Below.then rel.low (Grew.drewN wr nq).below)
      simp only [isOk]
      obtain ⟨pa, pc, bad, hh, rr, hfit⟩ := rel.at_.ok
      have few := rr.row.few
      have y0 : wr.cell? ⟨P, 0, none⟩ = some (.slice pa L'.length pc) := by rw [heap_cell hh]; rfl
      have HAN := hideP hans
      clear hans hfit rr hh
      cases L' with
      | nil =>
        have HX := hideP (HAN.out.trans (show Ps.rprep (ys.map Rv.r) (Ps.rules E n []) = .ok (ys.map Rv.r) by rw [Ps.rules_nil]; simp [Ps.rprep]))
        simp only [List.length_nil] at y0
        clear HAN
        go_wp2_with fail
        refine (ok_q P E _ wr rel.at_).mono ?_
        rintro e w2 ⟨rfl, rfl⟩
        simp only [isOk]
        go_wp2_with fail
        go_ret3
        unfold ProgAns; rw [HX.out]
        exact ⟨⟨_, rfl, a0, c0, ys, rfl, rfl, hrow, rel.each⟩, rel.low⟩
      | cons t R =>
        simp only [List.length_cons] at y0 few
        have q1 : (0 : Int) < ((R.length + 1 : Nat) : Int) := by omega
        have q2 : (0 : Int) < (R.length : Int) + 1 := by omega
        have HBG := hideP (begins_q P E (t :: R) wr rel.at_)
        generalize hmt : Ps.mayT (Ps.hd (t :: R)) = mt at *
        have HMT := hideP hmt
        clear hmt
        go_upto_region 7 with fail
        go_cut [41] (fun u wc => u = .bool (mt && decide (n = 0)) ∧ Below wr.heap.size wr wc)
        case first =>
          go_wp2_with fail
          refine HBG.out.mono ?_
          rintro e w3 ⟨rfl, b3⟩
          cases mt
          · go_wp2_with fail
            go_meet
            exact ⟨rfl, b3⟩
          · by_cases hn0 : n = 0
            · have q0 : ((ys.length : Int) == 16) = true := by rw [beq_iff_eq]; omega
              have HN0 := hideP hn0
              clear hn0 hn
              go_wp2_with fail
              go_meet
              exact ⟨by rw [HN0.out]; rfl, b3⟩
            · have q0 : ((ys.length : Int) == 16) = false := beq_eq_false_iff_ne.2 (by omega)
              have HN0 := hideP hn0
              clear hn0 hn
              go_wp2_with fail
              go_meet
              refine ⟨?_, b3⟩
              rw [decide_eq_false HN0.out]; rfl
        obtain ⟨rfl, bc⟩ := hcut
        have relc := rel.below bc
        clear rel bc HBG y0 hrow
        rename_i K hK
        apply hK
        go_cut [43] (fun _ wc => ∃ s2, Rel9 P E w wc s2 ys (.slice a0 ys.length c0) ∧ ((s2 = .ok (t :: R) ∧ (n = 0 → mt = false)) ∨ (s2 = .error (Ps.many E (t :: R)) ∧ n = 0)))
        case first =>
          cases hb : (mt && decide (n = 0))
          · have hz : n = 0 → mt = false := fun e => by
              rw [decide_eq_true e, Bool.and_true] at hb; exact hb
            have HZ := hideP hz
            clear hz hb
            go_wp2_with fail
            go_meet
            exact ⟨.ok (t :: R), relc, .inl ⟨rfl, HZ.out⟩⟩
          · obtain ⟨hm1, hn1⟩ : mt = true ∧ n = 0 := by
              rw [Bool.and_eq_true, decide_eq_true_eq] at hb; exact hb
            have HN1 := hideP hn1
            have HMY := hideP (many_yes (E := E) (L := t :: R) (HMT.out.trans hm1))
            clear hm1 hn1 hb hn
            go_wp2_with fail
            refine (fail_q P E 81 (t :: R) wc relc.at_ (by decide)).mono ?_
            rintro e w4 ⟨rfl, q4, b4⟩
            rw [HMY.out] at q4
            go_wp2_with fail
            go_meet
            exact ⟨.error (Ps.many E (t :: R)), relc.next b4 q4 hP, .inr ⟨rfl, HN1.out⟩⟩
        obtain ⟨s2, rel2, hs2⟩ := hcut
        have HS2 := hideP hs2
        clear relc hs2
        go_wp2_with fail
        refine (rule_q P E s2 wc rel2.at_).mono ?_
        rintro e w3 ⟨b3, r3, _, rfl, ⟨x, rfl, hxr, hxa⟩, hi3, q3⟩
        have rel3 := rel2.next b3 q3 hP
        subst hxr
        have HIX := hideP hi3
        clear hi3 rel2 b3 q3
        have A3 := below_alloc w3 (.cells (rv x).toArray 54)
        have O3 := (rel3.below A3).row
        have R3 := row_new rK w3 (rv x).toArray 54 x rfl
        have z3 := (rel3.below A3).low.size
        have hfew : ys.length + [x].length ≤ 879609302220 := by simp only [List.length_cons, List.length_nil]; omega
        go_wp2_with (first
          | (refine wpList_build_one rfl 22 54 _ rfl (rv x) _ 11 160 rfl rfl (by decide) (by decide) Tryd.underlying22 Tryd.iRule ?_)
          | (at_builtin; refine wpList_append_rec rK _ rfl _ _ 22 54 rfl _ 160 Tryd.underlying22 Tryd.iRule rfl (by decide) w.heap.size (.slice a0 ys.length c0) ys [x] (some ⟨w3.heap.size, 0, none⟩) 1 1 rfl O3 rfl rfl R3 z3 hfew ?_; intro v4 w4 o4 g4))
        have rel4 := rel3.fin hxa o4 g4
        have hlen4 : (ys ++ [x]).length = ys.length + 1 := by simp
        have hmap : (ys ++ [x]).map Rv.r = ys.map Rv.r ++ [x.r] := by simp
        refine ⟨⟨ys ++ [x], Ps.stO (Ps.run s2 (Ps.rule E)), rel4, ?_⟩, ?_⟩
        · rcases HS2.out with ⟨h1, h2⟩ | ⟨h1, h2⟩
          · cases n with
            | zero =>
              have hm := HMT.out.trans (h2 rfl)
              have hl := rule_bad (E := E) (L := t :: R) (by rw [hm]; decide)
              exact .inr ⟨Ps.many E (t :: R), by rw [h1, Ps.run_ok, hl]; rfl, HAN.out, by omega⟩
            | succ m =>
              rcases hl : Ps.rule E (t :: R) with z | ⟨r, L1⟩
              · exact .inr ⟨z, by rw [h1, Ps.run_ok, hl]; rfl, HAN.out.trans (rules_err (ys.map Rv.r) hl), by omega⟩
              · have e1 : Ps.run s2 (Ps.rule E) = .ok (r, L1) := by rw [h1, Ps.run_ok, hl]
                have e2 := HIX.out r L1 e1
                refine .inl ⟨L1, m, by rw [e1]; rfl, by omega, ?_⟩
                rw [hmap, e2]
                exact HAN.out.trans (rules_more (n := m) (ys.map Rv.r) hl)
          · subst h2
            exact .inr ⟨Ps.many E (t :: R), by rw [h1]; rfl, HAN.out, by omega⟩
        · obtain ⟨a5, c5, hv5, _, _⟩ := own_row (D := rK) rel4.row (by omega)
          subst hv5
          show 18 - (ys ++ [x]).length < 18 - ys.length
          omega
end Go.Proofs.YtcjfdackhgaigaaDoor
