/-
  TableOrder, walked.
-/
import Derived.Test.YtomiefhfkdfgbaaOr15
namespace Go.Proofs.Ytomiefhfkdfgbaa
open Go.RowKit Go.Sort

def f015 : F := ⟨[], [], [], []⟩
/-- the law's other order -/
def ix15 (n : Nat) (turn : Int) (i : Nat) : Nat := (((i : Int) + turn) % (n : Int)).toNat
def gs15 (fs : List F) (turn : Int) (k : Nat) : List F := (List.range k).map fun i => (fs[fs.length - 1 - ix15 fs.length turn i]?).getD f015
theorem gs15_succ (fs : List F) (turn : Int) (k : Nat) : gs15 fs turn (k + 1) = gs15 fs turn k ++ [(fs[fs.length - 1 - ix15 fs.length turn k]?).getD f015] := by unfold gs15; rw [List.range_succ, List.map_append]; rfl
theorem gs15_mem (fs : List F) (turn : Int) (x : F) : x ∈ fs ↔ x ∈ gs15 fs turn fs.length := by
  unfold gs15
  rw [List.mem_map]
  constructor
  · intro hx
    obtain ⟨j, hj, rfl⟩ := List.getElem_of_mem hx
    obtain ⟨i, hi, e⟩ := Tb.turn_all fs.length (by omega) turn (fs.length - 1 - j) (by omega)
    refine ⟨i, List.mem_range.2 hi, ?_⟩
    unfold ix15
    rw [e, Int.toNat_natCast, show fs.length - 1 - (fs.length - 1 - j) = j by omega, List.getElem?_eq_getElem hj]
    rfl
  · rintro ⟨i, hi, rfl⟩
    have hn := List.mem_range.1 hi
    have : fs.length - 1 - ix15 fs.length turn i < fs.length := by omega
    rw [List.getElem?_eq_getElem this]
    exact List.getElem_mem this

set_option maxRecDepth 100000 in
set_option maxHeartbeats 4000000 in
theorem tableOrder_walk (a : Option Addr) (c : Nat) (xs : List Fv) (turn : Int) (w : World) (hl : Lies w a c xs) (hx : ∀ x ∈ xs, Fv.At w x ∧ TxF x) (_ : -9223372036854775808 ≤ turn) (_ : turn ≤ 9223372036854775807) :
    Calls Try.prog 4 #[.slice a xs.length c, .int .i64 turn] w fun e w' => e = .returned (.bool true) ∧ Below w.heap.size w w' := by
  have LV := hideP (fun W => live15_at W)
  have PM := hideP (fun (W : World) (b : Nat) (fs : List F) (x : Fv) (h : PutAt w b fs W) (hx : Fv.At W x) => put_more x h hx)
  have HX := hideP hx
  go_enter Try.func4, Try.ntmps4
  go_wp2_with fail
  refine (weight15 300 (by decide) a c xs w hl (fun x h => (hx x h).1) (fun x h => (hx x h).2)).mono ?_
  rintro e w1 ⟨⟨r, rfl, hr⟩, G1⟩
  have B1 := G1.below
  clear hx G1
  by_cases hgt : 300 < r
  · go_wp2_with fail
    refine (LV.out w1).mono ?_
    rintro e w2 ⟨rfl, b2⟩
    go_wp2_with fail
    go_ret
    exact ⟨rfl, Below.then B1 b2⟩
  · have hn := hr hgt
    go_wp2_with fail
    refine (new_at 4096 w1 (by decide) (by decide)).mono ?_
    rintro e w2 ⟨rfl, T2, e2⟩
    have B2 : Below w1.heap.size w1 w2 := by rw [e2]; exact below_alloc _ _
    have C2 := Below.then B1 B2
    have hlt2 := T2.lt
    have hb1 := B1.size
    clear e2 B2
    generalize w1.heap.size = b1 at *
    go_wp2_with fail
    refine (new_at 4096 w2 (by decide) (by decide)).mono ?_
    rintro e w3 ⟨rfl, T3, e3⟩
    have B3 : Below w2.heap.size w2 w3 := by rw [e3]; exact below_alloc _ _
    have C3 := Below.then C2 B3
    have T23 := T2.below B3
    have hb2 := C2.size
    have hne : b1 ≠ w2.heap.size := by omega
    clear e3 T2 C2 B3 B1
    generalize w2.heap.size = b2 at *
    have P1 : PutAt w b1 (((xs.map Fv.f)).take 0) w3 := ⟨_, _, _, T23, rfl⟩
    have P2 : PutAt w b2 (gs15 (xs.map Fv.f) turn 0) w3 := ⟨_, _, _, T3, rfl⟩
    clear T23 T3
    go_wp2_with fail
    go_loopw [9, 10] (fun v9 _ wr => ∃ k : Nat, v9 = .int .i64 (k : Int) ∧ k ≤ xs.length ∧ PutAt w b1 ((xs.map Fv.f).take k) wr ∧ PutAt w b2 (gs15 (xs.map Fv.f) turn k) wr ∧ Below w.heap.size w wr) (fun v9 _ _ => xs.length - (intOf v9).toNat)
    case atStart => exact ⟨0, rfl, Nat.zero_le _, P1, P2, C3⟩
    case round =>
      clear P1 P2 C3
      obtain ⟨k, rfl, hk, P1, P2, C3⟩ := hrel
      by_cases hlt : k < xs.length
      · have q2 : (k : Int) < (xs.length : Int) := by omega
        obtain ⟨P, O, rfl⟩ := hl.addr (Nat.lt_of_le_of_lt (Nat.zero_le _) hlt)
        obtain ⟨a1, a2, a3, a4⟩ := (hl.below C3 (Nat.le_refl _)).get k hlt
        have hA := ((HX.out _ (List.getElem_mem hlt)).1).below C3 (Nat.le_refl _)
        have hst : Hid ((xs.map Fv.f).take (k + 1) = (xs.map Fv.f).take k ++ [(xs[k]'hlt).f]) := by
          show _ = _
          rw [List.take_succ_eq_append_getElem (by simpa using hlt), List.getElem_map]
        generalize (xs[k]'hlt) = p at *
        go_wp2_with fail
        refine (PM.out wr b1 _ p P1 hA).mono ?_
        rintro e w4 ⟨v4, rfl, P14, D4⟩
        have P24 := P2.other D4 (Ne.symm hne)
        have C4 : Below w.heap.size w w4 := C3.trans (D4.but.lower hb1 C3.size)
        clear P1 P2 D4 C3 a1 a2 a3 a4 hA
        have hlen : xs.length ≤ 300 := by omega
        have d1 := Int.lt_tmod_of_pos turn (show (0 : Int) < (xs.length : Int) by omega)
        have d2 := Int.tmod_lt_of_pos turn (show (0 : Int) < (xs.length : Int) by omega)
        have f1 := Int.lt_tmod_of_pos ((k : Int) + turn.tmod (xs.length : Int)) (show (0 : Int) < (xs.length : Int) by omega)
        have f2 := Int.tmod_lt_of_pos ((k : Int) + turn.tmod (xs.length : Int)) (show (0 : Int) < (xs.length : Int) by omega)
        have g3 := Tb.turn_ix xs.length (by omega) turn k
        have g4 := Int.emod_nonneg ((k : Int) + turn) (show (xs.length : Int) ≠ 0 by omega)
        have g5 := Int.emod_lt_of_pos ((k : Int) + turn) (show (0 : Int) < (xs.length : Int) by omega)
        obtain ⟨j, hj⟩ : ∃ j, j = ix15 xs.length turn k := ⟨_, rfl⟩
        have hj2 : ((k : Int) + turn) % (xs.length : Int) = (j : Int) := by rw [hj]; unfold ix15; omega
        have hjn : j < xs.length := by omega
        have h3 : (((k : Int) + turn.tmod (xs.length : Int)).tmod (xs.length : Int) + (xs.length : Int)).tmod (xs.length : Int) = (j : Int) := by rw [g3, hj2]
        have h1 : wrap64 ((k : Int) + turn.tmod (xs.length : Int)) = (k : Int) + turn.tmod (xs.length : Int) := by unfold wrap64; omega
        have h2 : wrap64 (((k : Int) + turn.tmod (xs.length : Int)).tmod (xs.length : Int) + (xs.length : Int)) = ((k : Int) + turn.tmod (xs.length : Int)).tmod (xs.length : Int) + (xs.length : Int) := by unfold wrap64; omega
        have hml : xs.length - 1 - j < xs.length := by omega
        obtain ⟨u1, u2, u3, u4⟩ := (hl.below C4 (Nat.le_refl _)).get (xs.length - 1 - j) hml
        have hB := ((HX.out _ (List.getElem_mem hml)).1).below C4 (Nat.le_refl _)
        have hst2 : Hid (gs15 (xs.map Fv.f) turn (k + 1) = gs15 (xs.map Fv.f) turn k ++ [(xs[xs.length - 1 - j]'hml).f]) := by
          show _ = _
          rw [gs15_succ, List.length_map, ← hj, List.getElem?_eq_getElem (by simpa using hml), List.getElem_map]
          rfl
        generalize (xs[xs.length - 1 - j]'hml) = y at *
        clear d1 d2 f1 f2 g3 g4 g5 hj hj2
        go_wp2_with fail
        refine (PM.out w4 b2 _ y P24 hB).mono ?_
        rintro e w5 ⟨v5, rfl, P25, D5⟩
        have P15 := P14.other D5 hne
        have C5 : Below w.heap.size w w5 := C4.trans (D5.but.lower (by omega) C4.size)
        clear P14 P24 D5 C4 u1 u2 u3 u4 hB
        go_wp2_with fail
        exact ⟨⟨k + 1, by simp, by omega, by rw [hst.out]; exact P15, by rw [hst2.out]; exact P25, C5⟩, by simp [intOf]; omega⟩
      · have q2 : ¬ (k : Int) < (xs.length : Int) := by omega
        obtain rfl : k = xs.length := by omega
        rw [List.take_of_length_le (by simp)] at P1
        have hSame := Tb.puts_same (ok := okB) (m := 4096) (fs := xs.map Fv.f) (gs := gs15 (xs.map Fv.f) turn xs.length) (by rw [List.length_map]; omega) (by unfold gs15; rw [List.length_map, List.length_range]; omega) (fun x => by have := gs15_mem (xs.map Fv.f) turn x; rwa [List.length_map] at this)
        obtain ⟨a1, c1, ps, T1, hps⟩ := P1.tab
        obtain ⟨a2, c2, qs, T2, hqs⟩ := P2.tab
        have HS : Hid (ps.map Pn.f = qs.map Pn.f) := by
          show _ = _
          rw [hps, hqs, hSame]
        clear hSame hps hqs P1 P2 PM hl HX
        go_wp2_with fail
        refine (all_tab wr T1).mono ?_
        rintro e w4 ⟨⟨bt, bi, rfl, I4⟩, B4⟩
        go_wp2_with fail
        refine (gather_all wr w4 T1 I4).mono ?_
        rintro e w5 ⟨⟨a5, c5, zs, rfl, O5, hzs, hzl⟩, B5⟩
        have B45 := Below.then B4 B5
        have T25 := T2.below B45
        have T15 := T1.below B45
        have HZ := hideP hzs
        have HZL := hideP hzl
        clear I4 B4 B5 T2 T1 hzs hzl
        go_wp2_with fail
        refine (all_tab w5 T25).mono ?_
        rintro e w6 ⟨⟨bt6, bi6, rfl, I6⟩, B6⟩
        go_wp2_with fail
        refine (gather_all w5 w6 T25 I6).mono ?_
        rintro e w7 ⟨⟨a7, c7, ys, rfl, O7, hys, hyl⟩, B7⟩
        have B67 := Below.then B6 B7
        have T17 := T15.below B67
        have O57 := O5.below B67
        have C7 := Below.then (Below.then C3 B45) B67
        have hm1 := T17.room
        have hm2 := T25.room
        have HY := hideP hys
        have HYL := hideP hyl
        clear I6 B6 B7 B67 B45 T25 O5 hys hyl C3 T15
        go_wp2_with fail
        refine (like_at a5 a7 c5 c7 zs ys w7 (O57.lies (by have := HZL.out; omega)) (O7.lies (by have := HYL.out; omega)) O57.at_ O7.at_).mono ?_
        rintro e w8 ⟨rfl, G8⟩
        have hlk : likeB (zs.map Fv.f) (ys.map Fv.f) = true := (likeB_iff _ _).2 (by rw [HZ.out, HY.out, HS.out])
        rw [hlk]
        have T18 := T17.below G8.below
        have C8 := Below.then C7 G8.below
        clear hlk
        go_wp2_with fail
        refine (len_at w8 T18).mono ?_
        rintro e w9 ⟨rfl, rfl⟩
        have q9 : (zs.length : Int) = (ps.length : Int) := by have := HZL.out; omega
        go_wp2_with fail
        refine (LV.out w8).mono ?_
        rintro e w9 ⟨rfl, b9⟩
        go_wp2_with fail
        go_ret
        exact ⟨rfl, Below.then C8 b9⟩
end Go.Proofs.Ytomiefhfkdfgbaa
