/-
  ShowAgain: its walk.
-/
import Derived.Test.YtcogjphoceaejaaDoorLv9
import Derived.Test.YtcogjphoceaejaaDoorPj
import Derived.Test.YtcogjphoceaejaaDoorLs9
namespace Go.Proofs.YtcogjphoceaejaaDoor
open Go.RowKit Go.Lib Go.Shelf

/-- rules that a text was parsed as: told by a slice of that many -/
theorem RowsAt.rws {w : World} {l : List Ru} {a : Option Addr} {n c : Nat} (h : RowsAt w l (.slice a n c)) : ∃ xs : List Rv, xs.length = n ∧ xs.map Rv.r = l ∧ Rws w a c xs := by
  obtain ⟨a', c', xs, h1, h2, h3⟩ := h.weak
  simp only [Value.slice.injEq] at h1
  obtain ⟨rfl, rfl, rfl⟩ := h1
  exact ⟨xs, rfl, h2, h3⟩
theorem map_in {xs : List Rv} {l : List Ru} (he : xs.map Rv.r = l) (h : ∀ r ∈ l, Sh.RIn r) : ∀ x ∈ xs, Sh.RIn x.r := fun x hx => h _ (by rw [← he]; exact List.mem_map_of_mem hx)

set_option maxRecDepth 100000 in
set_option maxHeartbeats 2000000 in
theorem showAgain_walk (l : List UInt8) (w : World) (hL : Laid w) (hl : l.length ≤ 140737488351232) :
    Calls Tryd.prog 6 #[str l] w fun e w' => e = .returned (.bool true) ∧ Below w.heap.size w w' := by
  have LV := hideP live9_at
  have T1 := hideP (pprog_any l w (by omega) hL)
  cases hp : Ps.prog l with
  | error x =>
    obtain ⟨p, er⟩ := x
    have q1 : (er != 0) = true := by simpa using prog_err_ne hp
    rw [hp] at T1
    simp only [Ps.rs, Ps.place, Ps.err, List.length_nil] at T1
    clear hp
    go_enter Tryd.func6, Tryd.ntmps6
    go_wp2_with fail
    refine T1.out.mono ?_
    rintro e w1 ⟨⟨a1, c1, rfl, r1⟩, b1⟩
    go_wp2_with fail
    refine (LV.out _ (hL.below b1)).mono ?_
    rintro e w2 ⟨rfl, b2⟩
    go_wp2_with fail
    go_ret
    exact ⟨rfl, Below.then b1 b2⟩
  | ok r =>
    rw [hp] at T1
    simp only [Ps.rs, Ps.place, Ps.err] at T1
    obtain ⟨hin, hor⟩ := Sh.prog_good hp
    have few := Ps.prog_few hp
    have T2 := hideP (fun (W : World) (a : Option Addr) (n c : Nat) (h : Laid W) (hr : RowsAt W r (.slice a n c)) => (show Calls Tryd.prog 13 #[.slice a n c] W fun e w' => e = .returned (pv (Sh.progS r)) ∧ Below W.heap.size W w' by
      obtain ⟨xs, rfl, h2, h3⟩ := hr.rws
      rw [← h2]
      exact showProgram_at a c xs W h h3 (map_in h2 hin)))
    rcases hor with ⟨s, hs⟩ | hbig
    · have ha := Sh.prog_again hp hs
      have T3 := hideP (fun W (h : Laid W) (k : s.length ≤ 281474976710656) => pprog_ok ha W k h)
      have hsl : s.length ≤ 4096 := by
        unfold Sh.progS at hs
        split at hs
        · cases hs
        · split at hs
          · cases hs
          · split at hs
            · cases hs
            · cases hs; omega
      rw [hs] at T2
      simp only [pv] at T2
      clear hs ha hp
      go_enter Tryd.func6, Tryd.ntmps6
      go_wp2_with fail
      refine T1.out.mono ?_
      rintro e w1 ⟨⟨a1, c1, rfl, r1⟩, b1⟩
      go_wp2_with fail
      refine (T2.out w1 a1 r.length c1 (hL.below b1) r1).mono ?_
      rintro e w2 ⟨rfl, b2⟩
      have B2 := Below.then b1 b2
      go_wp2_with fail
      refine (T3.out w2 (hL.below B2) (by omega)).mono ?_
      rintro e w3 ⟨⟨a3, c3, rfl, r3⟩, b3⟩
      have B3 := Below.then B2 b3
      go_wp2_with fail
      refine (T2.out w3 a3 r.length c3 (hL.below B3) r3).mono ?_
      rintro e w4 ⟨rfl, b4⟩
      have B4 := Below.then B3 b4
      have K : Hid (Calls Tryd.prog 15 #[.slice a1 r.length c1, .slice a3 r.length c3] w4 fun e w' => e = .returned (.bool true) ∧ Below w4.heap.size w4 w') := by
        obtain ⟨xs, e1, e2, e3⟩ := (r1.below (Below.then (Below.then b2 b3) b4)).rws
        obtain ⟨ys, f1, f2, f3⟩ := (r3.below b4).rws
        have := rlike_rws e3 f3 (e2.trans f2.symm)
        rw [e1, f1] at this
        exact this
      clear T1 T2 T3 r1 r3
      go_wp2_with fail
      refine K.out.mono ?_
      rintro e w5 ⟨rfl, b5⟩
      have B5 := Below.then B4 b5
      go_wp2_with fail
      refine (LV.out w5 (hL.below B5)).mono ?_
      rintro e w6 ⟨rfl, b6⟩
      go_wp2_with fail
      go_ret
      exact ⟨rfl, Below.then B5 b6⟩
    · rw [hbig] at T2
      simp only [pv] at T2
      clear hbig hp
      go_enter Tryd.func6, Tryd.ntmps6
      go_wp2_with fail
      refine T1.out.mono ?_
      rintro e w1 ⟨⟨a1, c1, rfl, r1⟩, b1⟩
      go_wp2_with fail
      refine (T2.out w1 a1 r.length c1 (hL.below b1) r1).mono ?_
      rintro e w2 ⟨rfl, b2⟩
      have B2 := Below.then b1 b2
      go_wp2_with fail
      refine (LV.out w2 (hL.below B2)).mono ?_
      rintro e w6 ⟨rfl, b6⟩
      go_wp2_with fail
      go_ret
      exact ⟨rfl, Below.then B2 b6⟩
end Go.Proofs.YtcogjphoceaejaaDoor
