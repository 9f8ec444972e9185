/-
  Has; a plain fact; live: the document's example.
-/
import Derived.Test.YtomiefhfkdfgbaaTa15
import Derived.Test.YtomiefhfkdfgbaaBs
namespace Go.Proofs.Ytomiefhfkdfgbaa
open Go.RowKit Go.Sort

set_option maxRecDepth 100000 in
set_option maxHeartbeats 1000000 in
theorem thas_at {b m : Nat} {a : Option Addr} {cap : Nat} {ps : List Pn} (x : Fv) (w : World) (h : TabAt w b m a cap ps) (hx : Fv.At w x) :
    Calls Try.prog 26 #[ptr b, x.val] w fun e w' => e = .returned (.bool (hasF (ps.map Pn.f) x.f)) ∧ Below w.heap.size w w' := by
  have iF : (Try.prog.info? 34).map (·.size) = some 4 := by kernel_rfl
  have TF := Try.underlying34
  have hm : (0 : Int) < (m : Int) := by have := h.low; omega
  have A1 := below_alloc w (.cells #[str x.at_, str x.by_, str x.pred, .slice x.a x.ks.length x.cap] 34)
  have H1 := heap_alloc_new w (.cells #[str x.at_, str x.by_, str x.pred, .slice x.a x.ks.length x.cap] 34)
  have T1 := h.below A1
  have X1 : Fv.At (w.alloc (.cells #[str x.at_, str x.by_, str x.pred, .slice x.a x.ks.length x.cap] 34)) x := hx.below A1 (Nat.le_refl _)
  obtain ⟨r, hr⟩ : ∃ r, r = hasF (ps.map Pn.f) x.f := ⟨_, rfl⟩
  rw [← hr]
  have HR := hideP hr
  clear hr
  go_enter Try.func26, Try.ntmps26
  go_wp2_with fail
  generalize hW1 : w.alloc (.cells #[str x.at_, str x.by_, str x.pred, .slice x.a x.ks.length x.cap] 34) = W1 at *
  clear hW1
  refine (fromNew_at b m _ W1 T1.cell).mono ?_
  rintro e W2 ⟨rfl, rfl⟩
  rw [decide_eq_true hm]
  go_wp2_with (refine wpList_load_all rfl 34 _ rfl w.heap.size 4 34 (fv x) _ rfl H1 rfl TF rfl iF ?_)
  refine (find_at x _ T1 X1).mono ?_
  rintro e W3 ⟨⟨i, rfl, _, _, _⟩, G3⟩
  rw [← HR.out]
  go_wp2_with fail
  go_ret
  exact ⟨rfl, Below.then A1 G3.below⟩

abbrev kn15 (n : Int) : K := ⟨true, n, []⟩
abbrev fn15 (n : Int) : F := ⟨[97], [97], [112], [kn15 n]⟩
theorem Try.iK15 : (Try.prog.info? 50).map (fun i => (i.zero, i.size, i.bytes)) = some (some (.agg #[.bool false, .int .i64 0, .string .empty]), 3, 32) := by kernel_rfl
set_option maxRecDepth 100000 in
theorem at_at (n : Int) (w : World) : Calls Try.prog 17 #[.int .i64 n] w fun e w' => (∃ x : Fv, e = .returned x.val ∧ x.f = fn15 n ∧ RowT kK 50 w' x.a x.cap x.ks) ∧ Below w.heap.size w w' := by
  have h12 := heap_alloc2 w (.cells #[.string { data := #[97] }, .string { data := #[97] }, .string { data := #[112] }, .slice (some ⟨w.heap.size + 1, 0, none⟩) 1 1] 34) (.cells #[.bool true, .int .i64 n, .string { data := #[] }] 50)
  have hb : Below w.heap.size w ((w.alloc (.cells #[.string { data := #[97] }, .string { data := #[97] }, .string { data := #[112] }, .slice (some ⟨w.heap.size + 1, 0, none⟩) 1 1] 34)).alloc (.cells #[.bool true, .int .i64 n, .string { data := #[] }] 50)) := (below_alloc _ _).alloc (by simp) _
  have hr : RowT kK 50 ((w.alloc (.cells #[.string { data := #[97] }, .string { data := #[97] }, .string { data := #[112] }, .slice (some ⟨w.heap.size + 1, 0, none⟩) 1 1] 34)).alloc (.cells #[.bool true, .int .i64 n, .string { data := #[] }] 50)) (some ⟨w.heap.size + 1, 0, none⟩) 1 [kn15 n] := by
    refine ⟨⟨by simp, by simp, (fun h => by cases h), fun ad ha j u hu => ?_⟩, fun ad ha => by cases ha; exact ⟨_, h12.2⟩⟩
    cases ha
    rw [Addr.add_lit, heap_cell h12.2, Nat.zero_add]
    simpa [kK, kv] using hu
  go_enter Try.func17, Try.ntmps17
  go_wp2_with fail
  refine bodyPost_ret (results_row (b := w.heap.size) (o := 0) (cs := fv ⟨[97], [97], [112], some ⟨w.heap.size + 1, 0, none⟩, 1, [kn15 n]⟩) rfl rfl ?_ Try.underlying34 rfl (by kernel_rfl)) rfl ⟨⟨⟨[97], [97], [112], some ⟨w.heap.size + 1, 0, none⟩, 1, [kn15 n]⟩, rfl, rfl, hr⟩, hb⟩
  exact World.rangeAt_of_block h12.1 0 4

theorem ok_fn (n : Int) : okB (fn15 n) = true := rfl
theorem put_one : Tb.put okB 1 [] (fn15 1) = [fn15 1] := rfl
theorem putE_one : Tb.putE okB 1 [] (fn15 1) = 0 := rfl
theorem ne_fn : fn15 2 ∉ [fn15 1] := by simp
theorem putE_two : Tb.putE okB 1 [fn15 1] (fn15 2) = 3 := by
  have h : hasF [fn15 1] (fn15 2) = false := by
    rw [Bool.eq_false_iff]; intro h
    exact ne_fn ((hasF_iff _ _).1 h)
  unfold Tb.putE
  rw [ok_fn, h]; rfl
theorem has_fn : hasF [fn15 1] (fn15 1) = true := (hasF_iff _ _).2 (by simp)
theorem putE_three : Tb.putE okB 1 [fn15 1] (fn15 1) = 2 := by
  unfold Tb.putE
  rw [ok_fn, has_fn]; rfl
theorem put_not {m : Nat} {l : List F} {f : F} (h : Tb.putE okB m l f ≠ 0) : Tb.put okB m l f = l := by unfold Tb.put; rw [if_neg h]

set_option maxRecDepth 100000 in
set_option maxHeartbeats 2000000 in
theorem live15_at (w : World) : Calls Try.prog 11 #[] w fun e w' => e = .returned (.bool true) ∧ Below w.heap.size w w' := by
  have PA := hideP (fun (x : Fv) (W : World) (a : Option Addr) (cap : Nat) (ps : List Pn) (h : TabAt W w.heap.size 1 a cap ps) (hx : RowT kK 50 W x.a x.cap x.ks) => put_at x W h (row_args hx.row))
  go_enter Try.func11, Try.ntmps11
  go_wp2_with fail
  refine (new_at 1 w (by decide) (by decide)).mono ?_
  rintro e w1 ⟨rfl, T1, hw1⟩
  have B1 : Below w.heap.size w w1 := by rw [hw1]; exact below_alloc _ _
  clear hw1
  go_wp2_with fail
  refine (at_at 1 w1).mono ?_
  rintro e w2 ⟨⟨x, rfl, hx, RX⟩, B2⟩
  have T2 := T1.below B2
  go_wp2_with fail
  refine (PA.out x w2 _ _ _ T2 RX).mono ?_
  rintro e w3 ⟨rfl, ⟨a3, c3, ps, T3, hps⟩, D3⟩
  rw [hx] at hps ⊢
  rw [show List.map Pn.f [] = ([] : List F) from rfl] at hps ⊢
  rw [put_one] at hps
  rw [putE_one, show putCode 0 = 0 from rfl]
  have B3 : Below w.heap.size w w3 := (Below.then B1 B2).trans (D3.but.lower (Nat.le_refl _) (Nat.le_trans B1.size B2.size))
  clear T2 RX D3 T1 B1 B2 hx
  go_wp2_with fail
  refine (at_at 2 w3).mono ?_
  rintro e w4 ⟨⟨y, rfl, hy, RY⟩, B4⟩
  have T4 := T3.below B4
  go_wp2_with fail
  refine (PA.out y w4 _ _ _ T4 RY).mono ?_
  rintro e w5 ⟨rfl, ⟨a5, c5, qs, T5, hqs⟩, D5⟩
  rw [hy, hps] at hqs ⊢
  rw [put_not (by rw [putE_two]; decide)] at hqs
  rw [putE_two, show putCode 3 = 150 from rfl]
  have B5 : Below w.heap.size w w5 := (Below.then B3 B4).trans (D5.but.lower (Nat.le_refl _) (Nat.le_trans B3.size B4.size))
  clear T4 RY D5 T3 B3 B4 hy hps
  go_wp2_with fail
  refine (at_at 1 w5).mono ?_
  rintro e w6 ⟨⟨z, rfl, hz, RZ⟩, B6⟩
  have T6 := T5.below B6
  go_wp2_with fail
  refine (PA.out z w6 _ _ _ T6 RZ).mono ?_
  rintro e w7 ⟨rfl, ⟨a7, c7, rs, T7, hrs⟩, D7⟩
  rw [hz, hqs] at hrs ⊢
  rw [put_not (by rw [putE_three]; decide)] at hrs
  rw [putE_three, show putCode 2 = 151 from rfl]
  have B7 : Below w.heap.size w w7 := (Below.then B5 B6).trans (D7.but.lower (Nat.le_refl _) (Nat.le_trans B5.size B6.size))
  clear T6 RZ D7 T5 B5 B6 hz hqs PA
  go_wp2_with fail
  refine (at_at 1 w7).mono ?_
  rintro e w8 ⟨⟨u, rfl, hu, RU⟩, B8⟩
  have T8 := T7.below B8
  go_wp2_with fail
  refine (thas_at u w8 T8 (row_args RU.row)).mono ?_
  rintro e w9 ⟨rfl, B9⟩
  rw [hu, hrs, has_fn]
  have T9 := T8.below B9
  have hl : rs.length = 1 := by rw [← List.length_map (f := Pn.f), hrs]; rfl
  go_wp2_with fail
  refine (len_at w9 T9).mono ?_
  rintro e w10 ⟨rfl, rfl⟩
  rw [hl]
  go_wp2_with fail
  go_ret
  exact ⟨rfl, Below.then (Below.then B7 B8) B9⟩
end Go.Proofs.Ytomiefhfkdfgbaa
