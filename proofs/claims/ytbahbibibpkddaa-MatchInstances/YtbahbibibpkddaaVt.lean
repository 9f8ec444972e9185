/-
  Rows of texts: the reference's Has.
-/
import Derived.Test.YtbahbibibpkddaaTv
namespace Go.Proofs.Ytbahbibibpkddaa
open Go.RowKit Go.Lib Go.Shelf

def sK : Kd (List UInt8) := ⟨fun s => [str s], 1, fun _ => rfl, fun _ => rfl, by decide⟩
theorem Row.take {α : Type} {D : Kd α} {w : World} {a : Option Addr} {cap : Nat} {xs : List α} (h : Row D w a cap xs) (k : Nat) : Row D w a cap (xs.take k) := by
  refine ⟨Nat.le_trans (by simp; omega) h.room, Nat.le_trans (by simp; omega) h.few, fun ha => ?_, fun ad ha j u hu => h.cells ad ha j u ?_⟩
  · obtain ⟨rfl, hc⟩ := h.void ha
    exact ⟨by simp, hc⟩
  · have e : xs.flatMap D.enc = (xs.take k).flatMap D.enc ++ (xs.drop k).flatMap D.enc := by rw [← List.flatMap_append, List.take_append_drop]
    rw [e, List.getElem?_append_left (List.getElem?_eq_some_iff.1 hu).1]
    exact hu
theorem Row.text {w : World} {b o cap : Nat} {N : List (List UInt8)} (h : Row sK w (some ⟨b, o, none⟩) cap N) (k : Nat) (hk : k < N.length) : w.cell? ⟨b, o + k, none⟩ = some (str N[k]) := by
  have := h.range k hk 0 (str N[k]) rfl
  rwa [show sK.k = 1 from rfl, Nat.mul_one, Nat.add_zero] at this

set_option maxRecDepth 100000 in
set_option maxHeartbeats 800000 in
theorem rhas_at (w : World) (a : Option Addr) (c : Nat) (N : List (List UInt8)) (s : List UInt8) (h : Row sK w a c N) :
    Calls Try.prog 48 #[.slice a N.length c, str s] w fun e w' => e = .returned (.bool (decide (s ∈ N))) ∧ w = w' := by
  have few := h.few
  go_enter Try.func48, Try.ntmps48
  go_wp2_with fail
  go_loopw [5] (fun v wr => ∃ k : Nat, v = .int .i64 (k : Int) ∧ k ≤ N.length ∧ Hid (s ∉ N.take k) ∧ w = wr) (fun v _ => N.length - (intOf v).toNat)
  case atStart => exact ⟨0, rfl, by omega, hideP (by simp), rfl⟩
  case round =>
    obtain ⟨k, rfl, hk, hno, rfl⟩ := hrel
    by_cases hlt : k < N.length
    · have q0 : (k : Int) < (N.length : Int) := by omega
      obtain ⟨b, o, rfl⟩ := h.addr (by omega)
      have c1 := h.text k hlt
      by_cases hq : N[k] = s
      · have q1 : (N[k] == s) = true := by simpa using hq
        have hm := hideP (show decide (s ∈ N) = true by simpa using hq ▸ List.getElem_mem hlt)
        clear hq
        go_wp2_with fail
        go_ret
        exact ⟨ret_bool hm.out.symm, rfl⟩
      · have q1 : (N[k] == s) = false := by simpa using hq
        have HN : Hid (s ∉ N.take (k + 1)) := hideP (by
          rw [← List.take_append_getElem hlt]
          simp only [List.mem_append, List.mem_singleton, not_or]
          exact ⟨hno.out, fun h => hq h.symm⟩)
        clear hq
        go_wp2_with fail
        exact ⟨⟨k + 1, by go_num, hlt, HN, by first | rfl | trivial⟩, by simp [intOf]; omega⟩
    · have q0 : ¬ (k : Int) < (N.length : Int) := by omega
      obtain rfl : k = N.length := by omega
      have hno' := hno.out
      rw [List.take_length] at hno'
      have HN : Hid (decide (s ∈ N) = false) := by
        show _ = _
        simpa using hno'
      clear hno'
      go_wp2_with fail
      go_ret
      exact ⟨ret_bool HN.out.symm, rfl⟩
end Go.Proofs.Ytbahbibibpkddaa
