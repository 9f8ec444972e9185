/-
  ParseCuts: its walk.
-/
import Derived.Test.YtcjfdackhgaigaaDoorPj
import Derived.Test.YtcjfdackhgaigaaDoorLs8
import Derived.Test.YtcjfdackhgaigaaDoorLm4
namespace Go.Proofs.YtcjfdackhgaigaaDoor
open Go.RowKit Go.Lib Go.Shelf

theorem rows_take {w : World} {P O c k : Nat} {xs : List Rv} (h : RowT rK 54 w (some ⟨P, O, none⟩) c xs) (e : ∀ x ∈ xs, x.At w) (hk : k ≤ xs.length) : RowsAt w ((xs.map Rv.r).take k) (.slice (some ⟨P, O, none⟩) k c) := by
  refine ⟨some ⟨P, O, none⟩, c, xs.take k, ?_, by rw [List.map_take], ⟨⟨?_, ?_, (fun h => by cases h), fun ad ha j u hu => h.row.cells ad ha j u ?_⟩, h.tag⟩, fun x hx => e x (List.mem_of_mem_take hx)⟩
  · rw [List.length_take, Nat.min_eq_left hk]
  · have := h.row.room; rw [List.length_take]; omega
  · have := h.row.few; rw [List.length_take]; omega
  · have hj := (List.getElem?_eq_some_iff.1 hu).1
    have e1 : xs.flatMap rK.enc = (xs.take k).flatMap rK.enc ++ (xs.drop k).flatMap rK.enc := by rw [← List.flatMap_append, List.take_append_drop]
    rw [e1, List.getElem?_append_left hj]; exact hu
theorem slice_rules (P O n c k : Nat) (w : World) (hk : k ≤ n) (hn : n ≤ c) (hc : 0 < c) : (Instr.sliceAt 22 (.slice (some ⟨P, O, none⟩) n c) none (some (.int .i64 (k : Int))) none).run Tryd.prog w = .ok (.slice (some ⟨P, O, none⟩) k c) w := by
  have hu : Tryd.prog.underlying 22 = some (.slice (Tryd.prog.elem 22)) := by kernel_rfl
  have hs : (sizeOf (Tryd.prog.elem 22)).run Tryd.prog w = .ok 11 w := by kernel_rfl
  rw [run_sliceAt_slice (h := hu), run_slice_h (ht := hu) (h0 := by omega) (h2 := by omega), hs]
  simp only [Result.andThen_ok, sliced]
  rw [if_neg (by omega)]
  simp [Addr.add_lit]
theorem rem_pos {k : Int} {n : Nat} (hn : 0 < n) : ∃ i : Nat, ((k.tmod (n : Int)) + (n : Int)).tmod (n : Int) = (i : Int) ∧ i < n := by
  have h0 : (0 : Int) < n := by omega
  have h1 := Int.lt_tmod_of_pos k h0
  have h3 : 0 ≤ ((k.tmod (n : Int)) + (n : Int)).tmod (n : Int) := Int.tmod_nonneg _ (by omega)
  have h4 := Int.tmod_lt_of_pos ((k.tmod (n : Int)) + (n : Int)) h0
  exact ⟨(((k.tmod (n : Int)) + (n : Int)).tmod (n : Int)).toNat, by omega, by omega⟩

set_option maxRecDepth 100000 in
set_option maxHeartbeats 4000000 in
theorem parseCuts_walk (l : List UInt8) (k : Int) (w : World) (hL : Laid w) (hr : l.length ≤ 140737488351232) (_k0 : -9223372036854775808 ≤ k) (_k1 : k ≤ 9223372036854775807) :
    Calls Tryd.prog 6 #[str l, .int .i64 k] w fun e w' => e = .returned (.bool true) ∧ Below w.heap.size w w' := by
  have hsz := str_size l
  have T1 := hideP (pprogram_at l w (by omega) hL)
  have T2 := hideP (fun w => rtokens_at l w (by omega))
  have LV := hideP live_at
  go_enter Tryd.func6, Tryd.ntmps6
  go_wp2_with fail
  refine T1.out.mono ?_
  rintro e w1 ⟨⟨u1, rfl, r1⟩, b1⟩
  have L1 := hL.below b1
  go_wp2_with fail
  refine (T2.out _).mono ?_
  rintro e w2 ⟨⟨a2, c2, rfl, r2, _⟩, b2⟩
  have L2 := L1.below b2
  have B2 := Below.then b1 b2
  have R1 := r1.below b2
  clear r1
  cases hp : Ps.prog l with
  | error x =>
    obtain ⟨p, er⟩ := x
    have hne := prog_err_ne hp
    have q1 : (er != 0) = true := by simpa using hne
    simp only [Ps.place, Ps.err]
    clear hp R1 r2
    go_wp2_with (first
      | (go_at_call 11; refine (LV.out _ L2).mono ?_; rintro e w4 ⟨rfl, b4⟩))
    go_ret
    exact ⟨rfl, Below.then B2 b4⟩
  | ok r =>
    obtain ⟨L, ha⟩ := prog_ans hp
    rw [hp] at R1
    rw [ha] at r2 ⊢
    simp only [Ps.rs, Ps.place, Ps.err, Lx.toks, Lx.place, Lx.err] at R1 r2 ⊢
    have few := r2.row.few
    have room := r2.row.room
    rcases Nat.eq_zero_or_pos L.length with hz | hpos
    · have hz' : L = [] := List.eq_nil_of_length_eq_zero hz
      subst hz'
      simp only [List.length_nil]
      clear ha hp R1 r2
      go_wp2_with (first
        | (go_at_call 11; refine (LV.out _ L2).mono ?_; rintro e w4 ⟨rfl, b4⟩))
      go_ret
      exact ⟨rfl, Below.then B2 b4⟩
    · have q1 : ((L.length : Int) == 0) = false := beq_eq_false_iff_ne.2 (by omega)
      have q2 : ¬ (L.length : Int) = 0 := by omega
      obtain ⟨i, hi, hin⟩ := rem_pos (k := k) hpos
      have hb1 : -(L.length : Int) < k.tmod (L.length : Int) := Int.lt_tmod_of_pos k (by omega)
      have hb2 : k.tmod (L.length : Int) < (L.length : Int) := Int.tmod_lt_of_pos k (by omega)
      have q3 : (i : Int) < (L.length : Int) := by omega
      obtain ⟨P1, O1, rfl⟩ := r2.row.addr (by omega)
      have RG := r2.row.range i hin 3 _ rfl
      change w2.cell? ⟨P1, O1 + i * 4 + 3, none⟩ = some (.int .i64 (L[i].pl : Int)) at RG
      have hpl := Lx.ans_pl ha L[i] (List.getElem_mem hin)
      have hcut := hideP (Ps.prog_cut ha hp hin)
      have hex := extract_sub l 0 L[i].pl (by omega)
      have hsub : Lx.sub l 0 L[i].pl = l.take L[i].pl := by unfold Lx.sub; simp
      rw [hsub] at hex
      have hlen : (l.take L[i].pl).length = L[i].pl := by rw [List.length_take]; omega
      generalize L[i].pl = q at *
      have q4 : (q : Int) ≤ (l.length : Int) := by omega
      have hfit : (l.take q).length ≤ 281474976710656 := by omega
      have hsz2 := str_size (l.take q)
      clear ha hp hsub
      rcases hcut.out with ⟨m, hm, hlt, hmr⟩ | herr
      · have T3 := hideP (pprog_ok hm w2 hfit L2)
        obtain ⟨a1, c1, xs, hu1, hmap, hrow, heach⟩ := R1
        have hxl : xs.length = r.length := by rw [← hmap, List.length_map]
        obtain ⟨P2, O2, rfl⟩ := hrow.row.addr (by omega)
        have room1 := hrow.row.room
        have few1 := hrow.row.few
        have HX := hideP hxl
        rw [hxl] at hu1 room1 few1
        subst hu1
        have q5 : (m.length : Int) < (r.length : Int) := by omega
        have SL := fun W => slice_rules P2 O2 r.length c1 m.length W (by omega) room1 (by omega)
        have HMR := hideP hmr
        have HMP := hideP hmap
        clear hcut hm hmr hmap hxl
        go_wp2_with (first
          | (go_at_call 8; refine T3.out.mono ?_; rintro e w3 ⟨⟨a3, c3, rfl, r3⟩, b3⟩; have RL : RowsAt w3 m (.slice (some ⟨P2, O2, none⟩) m.length c1) := (by have := rows_take (hrow.safe (Safe.below b3)) (fun x hx => (heach x hx).below b3) (k := m.length) (by have := HX.out; omega); rw [HMP.out, ← HMR.out] at this; exact this))
          | (go_at_call 10; refine (rlike_rows r3 RL).mono ?_; rintro e w5 ⟨rfl, b5⟩)
          | (go_at_call 11; refine (LV.out _ (L2.below (Below.then b3 b5))).mono ?_; rintro e w4 ⟨rfl, b4⟩))
        go_ret
        exact ⟨rfl, Below.then (Below.then B2 (Below.then b3 b5)) b4⟩
      · rw [hlen] at herr
        have T3 := hideP (pprog_err herr w2 hfit L2)
        clear hcut herr R1
        go_wp2_with (first
          | (go_at_call 8; refine T3.out.mono ?_; rintro e w3 ⟨⟨a3, c3, rfl, r3⟩, b3⟩)
          | (go_at_call 11; refine (LV.out _ (L2.below b3)).mono ?_; rintro e w4 ⟨rfl, b4⟩))
        go_ret
        exact ⟨rfl, Below.then (Below.then B2 b3) b4⟩
end Go.Proofs.YtcjfdackhgaigaaDoor
