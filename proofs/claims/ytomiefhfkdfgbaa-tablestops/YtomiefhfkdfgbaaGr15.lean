/-
  slices.Grow of no pointers, slices.Concat of rows of pointers.
-/
import Derived.Test.YtomiefhfkdfgbaaNw15
import Derived.Test.YtomiefhfkdfgbaaOw
import Derived.Lib.AppendZerosOnto
import Derived.Lib.Walk
namespace Go.Proofs.Ytomiefhfkdfgbaa
open Go.RowKit Go.Sort

set_option maxRecDepth 100000 in
set_option maxHeartbeats 1000000 in
theorem grow0_at (w : World) : Calls Try.prog 56 #[.slice none 0 0, .int .i64 0] w fun e w' => e = .returned (.slice none 0 0) ∧ w = w' := by
  go_enter Try.func56, Try.ntmps56
  go_wp2_with fail
  go_ret
  exact ⟨rfl, rfl⟩

set_option maxRecDepth 100000 in
set_option maxHeartbeats 1000000 in
theorem grow_at (n : Nat) (w : World) (h0 : 0 < n) (hn : n ≤ 900000) : Calls Try.prog 56 #[.slice none 0 0, .int .i64 (n : Int)] w fun e w' => ∃ v, e = .returned v ∧ w'.ownsRow w.heap.size 72 pnK.k v ([] : List Pn).length (([] : List Pn).flatMap pnK.enc) ∧ Below w.heap.size w w' := by
  obtain ⟨i0, hi, hz0, hz1, hz2⟩ := info_parts Try.infoP
  have h1 : ¬ ((n : Int) < 0) := by omega
  have h4 : (n : Int) > 0 := by omega
  have hrz : ∀ ty, (Builtin.append_ #[64, 3] ty #[.slice none 0 0, .int .i64 (n : Int)]).run Try.prog w =
      .ok (.slice (some ⟨w.heap.size, 0, none⟩) n (grownCap w n 0 72)) (w.drew.alloc (.cells (Builtin.zeroCells (Value.pointer none).cells n ++ Builtin.zeroCells (Value.pointer none).cells (grownCap w n 0 72 - n)) 72)) := fun ty => by
    have h := Lib.run_append_grow_zeros w 64 3 ty 72 i0 _ .i64 .i64 Try.underlying64 Try.underlying3 hi hz0 none 0 0 [] (run_firstCells_none w.drew i0.size 0 0 0) n h0 (by rw [hz1]; decide) (by omega) (by omega) (by rw [hz2]; omega)
      (by rw [hz2]; exact growslice_fits (by omega) (by omega))
    simp only [Nat.zero_add] at h
    rw [h]
    simp
  have hG1 := grownCap_ge w n 0 72
  have hG2 := grownCap_le_maxLen w n 0 72 (by unfold maxLen; omega)
  generalize hG : grownCap w n 0 72 = G at *
  generalize hC : Builtin.zeroCells (Value.pointer none).cells n ++ Builtin.zeroCells (Value.pointer none).cells (G - n) = C at *
  have hs : C.size = G := by
    rw [← hC, Array.size_append, size_zeroCells, size_zeroCells]
    show n * 1 + (G - n) * 1 = G
    omega
  have hGi : (G : Int) ≤ 9223372036854775807 := by unfold maxLen at hG2; omega
  have hi' := hi; clear hi hz0 hz1 hz2 hi' hG hC
  have w1 : IntKind.i64.wrap ((n : Int) - 0) = (n : Int) := by rw [IntKind.wrap_i64]; omega
  go_enter Try.func56, Try.ntmps56
  go_wp2_with (at_builtin; refine Lib.wpList_append_run _ rfl _ _ _ _ rfl _ _ rfl rfl _ _ (hrz _) ?_)
  go_ret
  have hb : Below w.heap.size w (w.drew.alloc (.cells C 72)) := ((Below.refl w.heap.size w).drew).alloc (Nat.le_refl _) _
  exact ⟨_, rfl, ⟨rfl, .inr ⟨w.heap.size, G, C, rfl, Nat.le_refl _, heap_alloc_new w.drew _, by simp, hG2, by rw [hs]; show G = G * 1; omega, rfl⟩⟩, hb⟩

/-- slices of pointers -/
structure Sl where
  a : Option Addr
  cap : Nat
  ps : List Pn
def slK : Kd Sl := ⟨fun s => [.slice s.a s.ps.length s.cap], 1, fun _ => rfl, fun _ => rfl, by decide⟩
def flats (ls : List Sl) : List Pn := ls.flatMap Sl.ps
def total (ls : List Sl) : Nat := (flats ls).length
theorem flats_take {ls : List Sl} {k : Nat} (h : k < ls.length) : flats (ls.take (k + 1)) = flats (ls.take k) ++ ls[k].ps := by
  unfold flats
  rw [List.take_succ_eq_append_getElem h, List.flatMap_append]; simp
theorem total_take {ls : List Sl} {k : Nat} (h : k < ls.length) : total (ls.take (k + 1)) = total (ls.take k) + ls[k].ps.length := by
  unfold total
  rw [flats_take h, List.length_append]
theorem total_le (ls : List Sl) (k : Nat) : total (ls.take k) ≤ total ls := by
  unfold total flats
  have := congrArg (fun l => (List.flatMap Sl.ps l).length) (List.take_append_drop k ls)
  simp only [List.flatMap_append, List.length_append] at this
  omega

set_option maxRecDepth 100000 in
set_option maxHeartbeats 2000000 in
theorem concat_at (a : Option Addr) (c : Nat) (ls : List Sl) (w : World) (h : Row slK w a c ls) (each : ∀ s ∈ ls, Row pnK w s.a s.cap s.ps) (hn : total ls ≤ 900000) :
    Calls Try.prog 36 #[.slice a ls.length c] w fun e w' => ∃ a' c', e = .returned (.slice a' (flats ls).length c') ∧ RowT pnK 72 w' a' c' (flats ls) ∧ (∀ ad, a' = some ad → w.heap.size ≤ ad.block) ∧ Below w.heap.size w w' := by
  have few := h.few
  have HT := hideP hn
  have hG : Calls Try.prog 56 #[.slice none 0 0, .int .i64 (total ls : Int)] w fun e w' => ∃ v, e = .returned v ∧ w'.ownsRow w.heap.size 72 pnK.k v ([] : List Pn).length (([] : List Pn).flatMap pnK.enc) ∧ Below w.heap.size w w' := by
    by_cases h0 : total ls = 0
    · rw [h0]
      exact (grow0_at w).mono fun e w' ⟨h1, h2⟩ => ⟨_, h1, ⟨rfl, .inl ⟨rfl, rfl⟩⟩, by rw [← h2]; exact Below.refl _ _⟩
    · exact grow_at (total ls) w (by omega) hn
  have HG := hideP hG
  have HE := hideP each
  clear hG hn each
  go_enter Try.func36, Try.ntmps36
  go_wp2_with fail
  go_loopw [3, 11] (fun v3 v11 wr => ∃ k : Nat, v11 = .int .i64 (k : Int) ∧ k ≤ ls.length ∧ v3 = .int .i64 (total (ls.take k) : Int) ∧ w = wr) (fun _ v11 _ => ls.length - (intOf v11).toNat)
  case atStart => exact ⟨0, rfl, Nat.zero_le _, rfl, rfl⟩
  case round =>
    obtain ⟨k, rfl, hk, rfl, rfl⟩ := hrel
    by_cases hlt : k < ls.length
    · have q2 : (k : Int) < (ls.length : Int) := by omega
      obtain ⟨P1, O1, rfl⟩ := h.addr (Nat.lt_of_le_of_lt (Nat.zero_le _) hlt)
      have a1 : w.cell? ⟨P1, O1 + k * 1 + 0, none⟩ = some (.slice ls[k].a ls[k].ps.length ls[k].cap) := h.range k hlt 0 _ rfl
      simp only [Nat.mul_one, Nat.add_zero] at a1
      have t1 := total_take hlt
      have t2 := total_le ls (k + 1)
      have t3 := HT.out
      generalize (ls[k]'hlt) = s at *
      generalize hu : total (ls.take k) = tk at *
      generalize hv : total (ls.take (k + 1)) = tk1 at *
      generalize hn : s.ps.length = n at *
      have q4 : ¬ ((tk : Int) + (n : Int) < 0) := by omega
      have q6 : (tk : Int) + (n : Int) ≤ 900000 := by omega
      go_wp2_with fail
      all_goals exact ⟨⟨k + 1, by simp, by omega, by rw [hv, t1]; simp, trivial⟩, by simp [intOf]; omega⟩
    · have q2 : ¬ (k : Int) < (ls.length : Int) := by omega
      obtain rfl : k = ls.length := by omega
      simp only [List.take_length]
      go_wp2_with fail
      refine HG.out.mono ?_
      rintro e w2 ⟨v, rfl, ho, hb⟩
      obtain ⟨u0, cu0, rfl, _, _⟩ := own_row (D := pnK) ho (by simp)
      have BL := hb.size
      go_wp2_with fail
      go_loopw [6, 27] (fun v6 v27 wr => ∃ (k : Nat) (u : Option Addr) (cu : Nat), v27 = .int .i64 (k : Int) ∧ k ≤ ls.length ∧ v6 = .slice u (flats (ls.take k)).length cu ∧ wr.ownsRow w.heap.size 72 pnK.k (.slice u (flats (ls.take k)).length cu) (flats (ls.take k)).length ((flats (ls.take k)).flatMap pnK.enc) ∧ Below w.heap.size w wr) (fun _ v27 _ => ls.length - (intOf v27).toNat)
      case atStart => exact ⟨0, u0, cu0, rfl, Nat.zero_le _, rfl, ho, hb⟩
      case round =>
        clear ho hb
        obtain ⟨k, u, cu, rfl, hk, rfl, ho, hb⟩ := hrel
        by_cases hlt : k < ls.length
        · have q2 : (k : Int) < (ls.length : Int) := by omega
          obtain ⟨P1, O1, rfl⟩ := h.addr (Nat.lt_of_le_of_lt (Nat.zero_le _) hlt)
          have a1 : wr.cell? ⟨P1, O1 + k * 1 + 0, none⟩ = some (.slice ls[k].a ls[k].ps.length ls[k].cap) := (h.below hb (Nat.le_refl _)).range k hlt 0 _ rfl
          simp only [Nat.mul_one, Nat.add_zero] at a1
          have hr := (HE.out _ (List.getElem_mem hlt)).below hb (Nat.le_refl _)
          have t1 := flats_take hlt
          have t2 := total_le ls (k + 1)
          have t3 := HT.out
          have t4 := total_take hlt
          unfold total at t2 t3 t4
          generalize (ls[k]'hlt) = s at *
          obtain ⟨sa, sc, sp⟩ := s
          have T1 := hideP t1
          replace t4 : (flats (ls.take (k + 1))).length = (flats (ls.take k)).length + sp.length := t4
          clear t1
          go_wp2_with (at_builtin; refine wpList_append_rec pnK _ rfl _ _ 64 72 rfl _ 8 Try.underlying64 Try.infoP rfl (by decide) w.heap.size _ (flats (ls.take k)) sp sa sp.length sc rfl ho rfl rfl hr hb.size (by omega) ?ap)
          case ap =>
            intro v' w3 ho3 hg3
            have hb3 : Below w.heap.size w w3 := hb.trans (own_below ho hg3 hb.size)
            have t5 : ((flats (ls.take k)) ++ sp).length ≤ 900000 := by rw [List.length_append]; omega
            rw [← List.flatMap_append, ← List.length_append] at ho3
            obtain ⟨u3, cu3, rfl, _, _⟩ := own_row (D := pnK) (xs := flats (ls.take k) ++ sp) ho3 (by omega)
            go_wp2_with fail
            exact ⟨⟨k + 1, u3, cu3, by simp, by omega, by rw [T1.out], by rw [T1.out]; exact ho3, hb3⟩, by simp [intOf]; omega⟩
        · have q2 : ¬ (k : Int) < (ls.length : Int) := by omega
          obtain rfl : k = ls.length := by omega
          rw [List.take_length] at ho
          have t3 := HT.out
          unfold total at t3
          obtain ⟨a', c', e', hr, hn⟩ := own_row (D := pnK) ho (by omega)
          cases e'
          clear ho
          go_wp2_with fail
          go_ret
          exact ⟨u, cu, rfl, hr, hn, hb⟩
end Go.Proofs.Ytomiefhfkdfgbaa
