/-
  Which names may make a ring.
-/
import Derived.Test.YtfpdiafedoppnaaDoorRh
import Derived.BigQuiet
namespace Go.Proofs.YtfpdiafedoppnaaDoor
open Go.RowKit

theorem Row.take {α : Type} {D : Kd α} {w : World} {a : Option Addr} {cap : Nat} {xs : List α} (h : Row D w a cap xs) (k : Nat) : Row D w a cap (xs.take k) := by
  refine ⟨Nat.le_trans (by simp; omega) h.room, Nat.le_trans (by simp; omega) h.few, fun ha => ?_, fun ad ha j u hu => h.cells ad ha j u ?_⟩
  · obtain ⟨rfl, hc⟩ := h.void ha
    exact ⟨by simp, hc⟩
  · have e : xs.flatMap D.enc = (xs.take k).flatMap D.enc ++ (xs.drop k).flatMap D.enc := by rw [← List.flatMap_append, List.take_append_drop]
    rw [e, List.getElem?_append_left (List.getElem?_eq_some_iff.1 hu).1]
    exact hu
theorem Row.text {w : World} {b o cap : Nat} {N : List (List UInt8)} (h : Row sK w (some ⟨b, o, none⟩) cap N) (k : Nat) (hk : k < N.length) : w.cell? ⟨b, o + k, none⟩ = some (str N[k]) := by
  have := h.range k hk 0 (str N[k]) rfl
  rwa [show sK.k = 1 from rfl, Nat.mul_one, Nat.add_zero] at this

set_option maxRecDepth 100000 in
set_option maxHeartbeats 800000 in
theorem index6 (w : World) (a : Option Addr) (c n : Nat) (N : List (List UInt8)) (s : List UInt8) (hn : N.length = n) (h : Row sK w a c N) :
    Calls Tryd.prog 44 #[.slice a n c, str s] w fun e w' => ∃ i : Int, e = .returned (.int .i64 i) ∧ (0 ≤ i ↔ s ∈ N) ∧ w = w' := by
  subst hn
  have few := h.few
  go_enter Tryd.func44, Tryd.ntmps44
  go_wp2_with fail
  go_loopw [8] (fun v wr => ∃ k : Nat, v = .int .i64 (k : Int) ∧ k ≤ N.length ∧ Hid (s ∉ N.take k) ∧ w = wr) (fun v _ => N.length - (intOf v).toNat)
  case atStart => exact ⟨0, rfl, by omega, hideP (by simp), rfl⟩
  case round =>
    obtain ⟨k, rfl, hk, hno, rfl⟩ := hrel
    by_cases hlt : k < N.length
    · have q0 : (k : Int) < (N.length : Int) := by omega
      obtain ⟨b, o, rfl⟩ := h.addr (by omega)
      have c1 := h.text k hlt
      by_cases hq : s = N[k]
      · have q1 : (s == N[k]) = true := by simpa using hq
        have hm := hideP (show s ∈ N from hq ▸ List.getElem_mem hlt)
        clear hq
        go_wp2_with fail
        go_ret
        exact ⟨k, rfl, ⟨fun _ => hm.out, fun _ => by omega⟩, rfl⟩
      · have q1 : (s == N[k]) = false := by simpa using hq
        have HN : Hid (s ∉ N.take (k + 1)) := hideP (by
          rw [← List.take_append_getElem hlt]
          simp only [List.mem_append, List.mem_singleton, not_or]
          exact ⟨hno.out, hq⟩)
        clear hq
        go_wp2_with fail
        exact ⟨⟨k + 1, rfl, hlt, HN, by first | rfl | trivial⟩, by simp [intOf]; omega⟩
    · have q0 : ¬ (k : Int) < (N.length : Int) := by omega
      obtain rfl : k = N.length := by omega
      have hno' := hno.out
      rw [List.take_length] at hno'
      have HN := hideP hno'
      clear hno'
      go_wp2_with fail
      go_ret
      exact ⟨-1, rfl, ⟨fun h => absurd h (by decide), fun h => absurd h HN.out⟩, rfl⟩

set_option maxRecDepth 100000 in
theorem contains6 (w : World) (a : Option Addr) (c n : Nat) (N : List (List UInt8)) (s : List UInt8) (hn : N.length = n) (h : Row sK w a c N) :
    Calls Tryd.prog 33 #[.slice a n c, str s] w fun e w' => e = .returned (.bool (decide (s ∈ N))) ∧ w = w' := by
  go_enter Tryd.func33, Tryd.ntmps33
  go_wp2_with fail
  refine (index6 w a c n N s hn h).mono ?_
  rintro _ w1 ⟨i, rfl, hi, rfl⟩
  have Hi := hideP hi
  clear hi
  go_wp2_with fail
  go_ret
  refine ⟨ret_bool ?_, rfl⟩
  rw [Bool.eq_iff_iff]
  simpa using Hi.out

/-- may these be the names of a ring? -/
def okN (N : List (List UInt8)) (k : Nat) : Prop := ∀ i (h : i < N.length), i < k → 1 ≤ N[i].length ∧ N[i].length ≤ 32 ∧ N[i] ∉ N.take i
def may (N : List (List UInt8)) : Prop := 0 < N.length ∧ okN N N.length
theorem okN_zero (N : List (List UInt8)) : okN N 0 := fun _ _ h => absurd h (by omega)
theorem okN_step {N : List (List UInt8)} {k : Nat} (h : okN N k) (hk : k < N.length) (h1 : 1 ≤ N[k].length ∧ N[k].length ≤ 32 ∧ N[k] ∉ N.take k) : okN N (k + 1) := fun i hi hik => by
  by_cases e : i = k
  · subst e; exact h1
  · exact h i hi (by omega)
theorem not_may {N : List (List UInt8)} {k : Nat} (hk : k < N.length) (h : ¬ (1 ≤ N[k].length ∧ N[k].length ≤ 32 ∧ N[k] ∉ N.take k)) : ¬ may N := fun m => h (m.2 k hk hk)

/-- a bool that tells whether p -/
def Says (p : Prop) (e : Ending) : Prop := ∃ d : Bool, e = .returned (.bool d) ∧ (d = true ↔ p)
theorem Says.yes {p : Prop} (h : p) : Says p (.returned (.bool true)) := ⟨true, rfl, fun _ => h, fun _ => rfl⟩
theorem Says.no {p : Prop} (h : ¬ p) : Says p (.returned (.bool false)) := ⟨false, rfl, fun h => (by cases h), fun h' => absurd h' h⟩

set_option maxRecDepth 100000 in
set_option maxHeartbeats 1600000 in
theorem mayBe6 (w : World) (a : Option Addr) (c : Nat) (N : List (List UInt8)) (h : Row sK w a c N) :
    Calls Tryd.prog 25 #[.slice a N.length c] w fun e w' => Says (may N) e ∧ w = w' := by
  have few := h.few
  have room := h.room
  go_enter Tryd.func25, Tryd.ntmps25
  go_wp2_with fail
  go_loopw [7] (fun v wr => ∃ k : Nat, v = .int .i64 (k : Int) ∧ k ≤ N.length ∧ Hid (okN N k) ∧ w = wr) (fun v _ => N.length - (intOf v).toNat)
  case atStart => exact ⟨0, rfl, by omega, hideP (okN_zero N), rfl⟩
  case round =>
    obtain ⟨k, rfl, hk, hok, rfl⟩ := hrel
    by_cases hlt : k < N.length
    · have q0 : (k : Int) < (N.length : Int) := by omega
      obtain ⟨b, o, rfl⟩ := h.addr (by omega)
      have c1 := h.text k hlt
      have HS : Hid (1 ≤ N[k].length ∧ N[k].length ≤ 32 ∧ N[k] ∉ N.take k → okN N (k + 1)) := hideP (okN_step hok.out hlt)
      have HX : Hid (¬ (1 ≤ N[k].length ∧ N[k].length ≤ 32 ∧ N[k] ∉ N.take k) → ¬ may N) := hideP (not_may hlt)
      have K1 := contains6 w (some ⟨b, o, none⟩) c k (N.take k) N[k] (by simp; omega) (h.take k)
      generalize N[k] = n at *
      have hsz : (⟨n.toArray⟩ : ByteArray).size = n.length := by simp [ByteArray.size]
      by_cases h1 : n.length < 1
      · have q1 : (n.length : Int) < 1 := by omega
        have HX' := hideP (HX.out (by omega))
        clear HX HS K1
        go_wp2_with fail
        go_ret
        exact ⟨Says.no HX'.out, rfl⟩
      · have q1 : ¬ (n.length : Int) < 1 := by omega
        by_cases h2 : 32 < n.length
        · have q2 : (32 : Int) < (n.length : Int) := by omega
          have HX' := hideP (HX.out (by omega))
          clear HX HS K1
          go_wp2_with fail
          go_ret
          exact ⟨Says.no HX'.out, rfl⟩
        · have q2 : ¬ (32 : Int) < (n.length : Int) := by omega
          have q3 : (k : Int) ≤ (c : Int) := by omega
          have HK := hideP K1
          clear K1
          go_wp2_with fail
          refine HK.out.mono ?_
          rintro _ w1 ⟨rfl, rfl⟩
          by_cases h3 : n ∈ N.take k
          · have hd : decide (n ∈ N.take k) = true := by simpa using h3
            rw [hd]
            have HX' := hideP (HX.out (fun h => h.2.2 h3))
            clear HX HS HK h3 hd
            go_wp2_with fail
            go_ret
            exact ⟨Says.no HX'.out, rfl⟩
          · have hd : decide (n ∈ N.take k) = false := by simpa using h3
            rw [hd]
            have HS' := hideP (HS.out ⟨by omega, by omega, h3⟩)
            clear HX HS HK h3 hd
            go_wp2_with fail
            exact ⟨⟨k + 1, rfl, hlt, HS', by first | rfl | trivial⟩, by simp [intOf]; omega⟩
    · have q0 : ¬ (k : Int) < (N.length : Int) := by omega
      obtain rfl : k = N.length := by omega
      by_cases h0 : 0 < N.length
      · have q1 : (0 : Int) < (N.length : Int) := by omega
        have HM : Hid (may N) := hideP ⟨h0, hok.out⟩
        go_wp2_with fail
        go_ret
        exact ⟨Says.yes HM.out, rfl⟩
      · have q1 : ¬ (0 : Int) < (N.length : Int) := by omega
        have HM : Hid (¬ may N) := hideP fun h => h0 h.1
        go_wp2_with fail
        go_ret
        exact ⟨Says.no HM.out, rfl⟩
end Go.Proofs.YtfpdiafedoppnaaDoor
