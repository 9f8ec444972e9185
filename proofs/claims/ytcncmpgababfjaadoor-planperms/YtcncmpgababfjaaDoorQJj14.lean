/-
  The reference's is, in, known, variables.
-/
import Derived.Test.YtcncmpgababfjaaDoorQJi14
import Derived.Test.YtcncmpgababfjaaDoorQBs
import Derived.Test.YtcncmpgababfjaaDoorQRb
namespace Go.Proofs.YtcncmpgababfjaaDoor
open Go.RowKit Go.Lib Go.Shelf

set_option maxRecDepth 100000 in
set_option maxHeartbeats 800000 in
theorem ris14_at (w : World) (a : Option Addr) (c : Nat) (N : List (List UInt8)) (s : List UInt8) (h : Row sK w a c N) :
    Calls Tryd.prog 22 #[.slice a N.length c, str s] w fun e w' => e = .returned (.bool (decide (s ∈ N))) ∧ w = w' := by
  have few := h.few
  go_enter Tryd.func22, Tryd.ntmps22
  go_wp2_with fail
  go_loopw [5] (fun v wr => ∃ k : Nat, v = .int .i64 (k : Int) ∧ k ≤ N.length ∧ Hid (s ∉ N.take k) ∧ w = wr) (fun v _ => N.length - (RowKit.intOf v).toNat)
  case atStart => exact ⟨0, rfl, by omega, hideP (by simp), rfl⟩
  case round =>
    obtain ⟨k, rfl, hk, hno, rfl⟩ := hrel
    by_cases hlt : k < N.length
    · have q0 : (k : Int) < (N.length : Int) := by omega
      obtain ⟨b, o, rfl⟩ := h.addr (by omega)
      have c1 := h.text k hlt
      by_cases hq : N[k] = s
      · have q1 : (N[k] == s) = true := by simpa using hq
        have hm := hideP (show decide (s ∈ N) = true by simpa using hq ▸ List.getElem_mem hlt)
        clear hq
        go_wp2_with fail
        go_ret
        exact ⟨ret_bool hm.out.symm, rfl⟩
      · have q1 : (N[k] == s) = false := by simpa using hq
        have HN : Hid (s ∉ N.take (k + 1)) := hideP (by
          rw [← List.take_append_getElem hlt]
          simp only [List.mem_append, List.mem_singleton, not_or]
          exact ⟨hno.out, fun h => hq h.symm⟩)
        clear hq
        go_wp2_with fail
        exact ⟨⟨k + 1, by go_num, hlt, HN, by first | rfl | trivial⟩, by simp [RowKit.intOf]; omega⟩
    · have q0 : ¬ (k : Int) < (N.length : Int) := by omega
      obtain rfl : k = N.length := by omega
      have hno' := hno.out
      rw [List.take_length] at hno'
      have HN : Hid (decide (s ∈ N) = false) := by
        show _ = _
        simpa using hno'
      clear hno'
      go_wp2_with fail
      go_ret
      exact ⟨ret_bool HN.out.symm, rfl⟩
theorem Row.num {w : World} {b o c : Nat} {L : List Nat} (h : Row iK14 w (some ⟨b, o, none⟩) c L) (k : Nat) (hk : k < L.length) : w.cell? ⟨b, o + k, none⟩ = some (.int .i64 (L[k] : Int)) := by
  have := h.range k hk 0 _ rfl
  rw [show iK14.k = 1 from rfl, Nat.mul_one, Nat.add_zero] at this
  exact this
set_option maxRecDepth 100000 in
set_option maxHeartbeats 800000 in
theorem rin14_at (w : World) (a : Option Addr) (c : Nat) (N : List Nat) (s : Nat) (h : Row iK14 w a c N) :
    Calls Tryd.prog 16 #[.slice a N.length c, .int .i64 (s : Int)] w fun e w' => e = .returned (.bool (decide (s ∈ N))) ∧ w = w' := by
  have few := h.few
  go_enter Tryd.func16, Tryd.ntmps16
  go_wp2_with fail
  go_loopw [5] (fun v wr => ∃ k : Nat, v = .int .i64 (k : Int) ∧ k ≤ N.length ∧ Hid (s ∉ N.take k) ∧ w = wr) (fun v _ => N.length - (RowKit.intOf v).toNat)
  case atStart => exact ⟨0, rfl, by omega, hideP (by simp), rfl⟩
  case round =>
    obtain ⟨k, rfl, hk, hno, rfl⟩ := hrel
    by_cases hlt : k < N.length
    · have q0 : (k : Int) < (N.length : Int) := by omega
      obtain ⟨b, o, rfl⟩ := h.addr (by omega)
      have c1 := h.num k hlt
      by_cases hq : N[k] = s
      · have q1 : ((N[k] : Int) == (s : Int)) = true := by rw [hq]; exact beq_self_eq_true _
        have hm := hideP (show decide (s ∈ N) = true by simpa using hq ▸ List.getElem_mem hlt)
        clear hq
        generalize N[k] = z at *
        go_wp2_with fail
        go_ret
        exact ⟨ret_bool hm.out.symm, rfl⟩
      · have q1 : ((N[k] : Int) == (s : Int)) = false := beq_eq_false_iff_ne.2 fun h => hq (by omega)
        have HN : Hid (s ∉ N.take (k + 1)) := hideP (by
          rw [← List.take_append_getElem hlt]
          simp only [List.mem_append, List.mem_singleton, not_or]
          exact ⟨hno.out, fun h => hq h.symm⟩)
        clear hq
        generalize N[k] = z at *
        go_wp2_with fail
        exact ⟨⟨k + 1, by go_num, hlt, HN, by first | rfl | trivial⟩, by simp [RowKit.intOf]; omega⟩
    · have q0 : ¬ (k : Int) < (N.length : Int) := by omega
      obtain rfl : k = N.length := by omega
      have hno' := hno.out
      rw [List.take_length] at hno'
      have HN : Hid (decide (s ∈ N) = false) := by
        show _ = _
        simpa using hno'
      clear hno'
      go_wp2_with fail
      go_ret
      exact ⟨ret_bool HN.out.symm, rfl⟩
set_option maxRecDepth 100000 in
set_option maxHeartbeats 800000 in
theorem rknown14_at (t : Tm) (a : Option Addr) (c : Nat) (V : List (List UInt8)) (w : World) (h : Row sK w a c V) :
    Calls Tryd.prog 15 #[tval t, .slice a V.length c] w fun e w' => e = .returned (.int .i64 (Pn.kn V t : Int)) ∧ Below w.heap.size w w' := by
  obtain ⟨v, ⟨nm, n, s⟩⟩ := t
  have A0 := below_alloc w (.cells #[str v, .bool nm, .int .i64 n, str s] 25)
  have T := hideP (ris14_at _ a c V v (h.below A0 (Nat.le_refl _)))
  have d0 : (w.alloc (.cells #[str v, .bool nm, .int .i64 n, str s] 25)).cell? ⟨w.heap.size, 0, none⟩ = some (str v) := by rw [heap_cell (heap_alloc_new w _)]; rfl
  by_cases h0 : v = []
  · subst h0
    cases nm with
    | true =>
      have h1 := hideP (show Pn.kn V ⟨[], ⟨true, n, s⟩⟩ = 1 by unfold Pn.kn; rw [if_neg (by simp [Mt.nul]), if_pos (.inl rfl)])
      go_enter Tryd.func15, Tryd.ntmps15
      go_wp2_with fail
      go_ret
      exact ⟨by rw [h1.out]; rfl, A0⟩
    | false =>
      by_cases hn : n = 0
      · subst hn
        by_cases hs : s = []
        · subst hs
          have h1 := hideP (show Pn.kn V ⟨[], ⟨false, 0, []⟩⟩ = 0 by unfold Pn.kn; rw [if_pos (by simp [Mt.nul])])
          go_enter Tryd.func15, Tryd.ntmps15
          go_wp2_with fail
          go_ret
          exact ⟨by rw [h1.out]; rfl, A0⟩
        · have qs : s.isEmpty = false := by simpa using hs
          have h1 := hideP (show Pn.kn V ⟨[], ⟨false, 0, s⟩⟩ = 1 by unfold Pn.kn; rw [if_neg (by simp [Mt.nul, hs]), if_pos (.inl rfl)])
          clear hs
          go_enter Tryd.func15, Tryd.ntmps15
          go_wp2_with fail
          go_ret
          exact ⟨by rw [h1.out]; rfl, A0⟩
      · have h1 := hideP (show Pn.kn V ⟨[], ⟨false, n, s⟩⟩ = 1 by unfold Pn.kn; rw [if_neg (by simp [Mt.nul, hn]), if_pos (.inl rfl)])
        go_enter Tryd.func15, Tryd.ntmps15
        go_wp2_with fail
        go_ret
        exact ⟨by rw [h1.out]; rfl, A0⟩
  · have q : v.isEmpty = false := by simpa using h0
    have hk := hideP (show Pn.kn V ⟨v, ⟨nm, n, s⟩⟩ = if v = [] ∨ v ∈ V then 1 else 0 by unfold Pn.kn; rw [if_neg (by simp [Mt.nul, h0])])
    by_cases h2 : v ∈ V
    · have h1 := hideP (show Pn.kn V ⟨v, ⟨nm, n, s⟩⟩ = 1 by rw [hk.out, if_pos (.inr h2)])
      rw [decide_eq_true h2] at T
      clear h0 hk h2
      go_enter Tryd.func15, Tryd.ntmps15
      go_wp2_with fail
      refine T.out.mono ?_
      rintro e w1 ⟨rfl, rfl⟩
      go_wp2_with fail
      go_ret
      exact ⟨by rw [h1.out]; rfl, A0⟩
    · have h1 := hideP (show Pn.kn V ⟨v, ⟨nm, n, s⟩⟩ = 0 by rw [hk.out, if_neg (fun h => h.elim h0 h2)])
      rw [decide_eq_false h2] at T
      clear h0 hk h2
      go_enter Tryd.func15, Tryd.ntmps15
      go_wp2_with fail
      refine T.out.mono ?_
      rintro e w1 ⟨rfl, rfl⟩
      go_wp2_with fail
      go_ret
      exact ⟨by rw [h1.out]; rfl, A0⟩
end Go.Proofs.YtcncmpgababfjaaDoor
