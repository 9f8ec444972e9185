/-
  The reference's ring in memory; New.
-/
import Derived.Test.YtfpdiafedoppnaaDoorTx6
import Derived.Test.YtfpdiafedoppnaaDoorRo
import Derived.Test.YtfpdiafedoppnaaDoorEqual
namespace Go.Proofs.YtfpdiafedoppnaaDoor
open Go.RowKit

/-- what was signed, as the reference's book has it -/
def qK : Kd P3 := ⟨fun p => [str p.1, str p.2.1, str p.2.2], 3, fun _ => rfl, fun _ => rfl, by decide⟩
/-- THE REFERENCE's RING in the world w: block qb is it; its book is a row of its own, from block base on -/
structure QAt (w : World) (base qb : Nat) (na : Option Addr) (nc : Nat) (v : Value) (seed : Int) (N : List (List UInt8)) (L : List P3) : Prop where
  ring : w.heap[qb]? = some (.cells #[.int .i64 seed, .slice na N.length nc, v] 50)
  names : RowT sK 9 w na nc N
  book : w.ownsRow base 71 qK.k v L.length (L.flatMap qK.enc)
  low : base ≤ qb
  few : N.length ≤ 6
  s0 : -9223372036854775808 ≤ seed
  s1 : seed ≤ 9223372036854775807
theorem QAt.lt {w : World} {base qb : Nat} {na : Option Addr} {nc : Nat} {v : Value} {seed : Int} {N : List (List UInt8)} {L : List P3} (h : QAt w base qb na nc v seed N L) : qb < w.heap.size := heap_lt h.ring
theorem QAt.c0 {w : World} {base qb : Nat} {na : Option Addr} {nc : Nat} {v : Value} {seed : Int} {N : List (List UInt8)} {L : List P3} (h : QAt w base qb na nc v seed N L) : w.cell? ⟨qb, 0, none⟩ = some (.int .i64 seed) := by rw [heap_cell h.ring]; rfl
theorem QAt.c1 {w : World} {base qb : Nat} {na : Option Addr} {nc : Nat} {v : Value} {seed : Int} {N : List (List UInt8)} {L : List P3} (h : QAt w base qb na nc v seed N L) : w.cell? ⟨qb, 1, none⟩ = some (.slice na N.length nc) := by rw [heap_cell h.ring]; rfl
theorem QAt.c2 {w : World} {base qb : Nat} {na : Option Addr} {nc : Nat} {v : Value} {seed : Int} {N : List (List UInt8)} {L : List P3} (h : QAt w base qb na nc v seed N L) : w.cell? ⟨qb, 2, none⟩ = some v := by rw [heap_cell h.ring]; rfl
/-- blocks of its types stay -/
theorem QAt.safe {w w' : World} {base qb : Nat} {na : Option Addr} {nc : Nat} {v : Value} {seed : Int} {N : List (List UInt8)} {L : List P3} (h : QAt w base qb na nc v seed N L) (s1 : Safe 50 w w') (s2 : Safe 9 w w') (s3 : Safe 71 w w') : QAt w' base qb na nc v seed N L :=
  ⟨s1 _ _ h.ring, h.names.safe s2, ownsRow_keep h.book s3, h.low, h.few, h.s0, h.s1⟩
theorem QAt.below {w w' : World} {base qb : Nat} {na : Option Addr} {nc : Nat} {v : Value} {seed : Int} {N : List (List UInt8)} {L : List P3} (h : QAt w base qb na nc v seed N L) (b : Below w.heap.size w w') : QAt w' base qb na nc v seed N L :=
  h.safe (Safe.below b) (Safe.below b) (Safe.below b)

set_option maxRecDepth 100000 in
set_option maxHeartbeats 1600000 in
theorem rnew6_big (w : World) (a : Option Addr) (c : Nat) (seed : Int) (N : List (List UInt8)) (hb : ¬ N.length ≤ 6) :
    Calls Tryd.prog 10 #[.int .i64 seed, .slice a N.length c] w fun e w' => e = .returned (.tuple #[.pointer none, .int .i64 3]) ∧ w = w' := by
  have q0 : (6 : Int) < (N.length : Int) := by omega
  clear hb
  go_enter Tryd.func10, Tryd.ntmps10
  go_wp2_with fail
  go_ret2
  exact ⟨rfl, rfl⟩

/-- what New answers to at most six names -/
def NewQ (w w' : World) (seed : Int) (N : List (List UInt8)) (e : Ending) : Prop :=
  (¬ may N ∧ e = .returned (.tuple #[.pointer none, .int .i64 2])) ∨ (may N ∧ ∃ qb na nc, e = .returned (.tuple #[.pointer (some ⟨qb, 0, none⟩), .int .i64 0]) ∧ QAt w' w.heap.size qb na nc (.slice none 0 0) seed N [])
theorem NewQ.no {w w' : World} {seed : Int} {N : List (List UInt8)} (h : ¬ may N) : NewQ w w' seed N (.returned (.tuple #[.pointer none, .int .i64 2])) := .inl ⟨h, rfl⟩
theorem own_new_str (w : World) : (w.alloc (.cells #[] 9)).ownsRow w.heap.size 9 sK.k (.slice (some ⟨w.heap.size, 0, none⟩) 0 0) ([] : List (List UInt8)).length (([] : List (List UInt8)).flatMap sK.enc) :=
  ⟨rfl, .inr ⟨w.heap.size, 0, #[], rfl, Nat.le_refl _, heap_alloc_new w _, Nat.le_refl _, Nat.zero_le _, rfl, rfl⟩⟩

set_option maxRecDepth 100000 in
set_option maxHeartbeats 1600000 in
theorem rnew6 (w : World) (a : Option Addr) (c : Nat) (seed : Int) (N : List (List UInt8)) (h : Row sK w a c N) (hb : N.length ≤ 6) (s0 : -9223372036854775808 ≤ seed) (s1 : seed ≤ 9223372036854775807) :
    Calls Tryd.prog 10 #[.int .i64 seed, .slice a N.length c] w fun e w' => NewQ w w' seed N e ∧ Below w.heap.size w w' := by
  have q0 : ¬ (6 : Int) < (N.length : Int) := by omega
  by_cases h0 : N.length = 0
  · have q1 : ((N.length : Int) == 0) = true := by simpa using h0
    have hn : ¬ may N := fun m => by have := m.1; omega
    have HN := hideP hn
    clear hn h0
    go_enter Tryd.func10, Tryd.ntmps10
    go_wp2_with fail
    go_ret2
    exact ⟨NewQ.no HN.out, Below.refl _ _⟩
  have q1 : ((N.length : Int) == 0) = false := by simpa using h0
  go_enter Tryd.func10, Tryd.ntmps10
  go_wp2_with fail
  go_loopw [6] (fun v wr => ∃ i : Nat, v = .int .i64 (i : Int) ∧ i ≤ N.length ∧ Hid (okN N i) ∧ Below w.heap.size w wr) (fun v _ => N.length - (intOf v).toNat)
  case atStart => exact ⟨0, rfl, by omega, hideP (okN_zero N), Below.refl _ _⟩
  case round =>
    obtain ⟨i, rfl, hi, hok, hbel⟩ := hrel
    by_cases hlt : i < N.length
    · have q2 : (i : Int) < (N.length : Int) := by omega
      obtain ⟨b, o, rfl⟩ := h.addr (by omega)
      have c1 := (h.below hbel (Nat.le_refl _)).text i hlt
      have HS : Hid (1 ≤ N[i].length ∧ N[i].length ≤ 32 ∧ N[i] ∉ N.take i → okN N (i + 1)) := hideP (okN_step hok.out hlt)
      have HX : Hid (¬ (1 ≤ N[i].length ∧ N[i].length ≤ 32 ∧ N[i] ∉ N.take i) → ¬ may N) := hideP (not_may hlt)
      generalize hN : N[i] = n at *
      have Hn := hideP hN
      clear hN
      have hsz : (⟨n.toArray⟩ : ByteArray).size = n.length := by simp [ByteArray.size]
      by_cases h1 : n.length < 1
      · have q3 : (n.length : Int) < 1 := by omega
        have HX' := hideP (HX.out (by omega))
        clear HX HS
        go_wp2_with fail
        go_ret2
        exact ⟨NewQ.no HX'.out, hbel⟩
      have q3 : ¬ (n.length : Int) < 1 := by omega
      by_cases h2 : 32 < n.length
      · have q4 : (32 : Int) < (n.length : Int) := by omega
        have HX' := hideP (HX.out (by omega))
        clear HX HS
        go_wp2_with fail
        go_ret2
        exact ⟨NewQ.no HX'.out, hbel⟩
      have q4 : ¬ (32 : Int) < (n.length : Int) := by omega
      go_wp2_with fail
      go_loopw [7] (fun v wr => ∃ k : Nat, v = .int .i64 (k : Int) ∧ k ≤ i ∧ Hid (n ∉ N.take k) ∧ Below w.heap.size w wr) (fun v _ => i - (intOf v).toNat)
      case atStart => exact ⟨0, rfl, by omega, hideP (by simp), hbel⟩
      case round =>
        obtain ⟨k, rfl, hk, hno, hbel2⟩ := hrel
        clear c1 hbel
        by_cases hki : k < i
        · have q5 : (k : Int) < (i : Int) := by omega
          have q6 : (k : Int) < (N.length : Int) := by omega
          have d1 := (h.below hbel2 (Nat.le_refl _)).text i hlt
          have d2 := (h.below hbel2 (Nat.le_refl _)).text k (by omega)
          rw [Hn.out] at d1
          by_cases hq : N[k] = n
          · have q7 : (N[k] == n) = true := by simpa using hq
            have HX' := hideP (HX.out fun hh => hh.2.2 (by
              rw [← hq]
              exact List.mem_take_iff_getElem.2 ⟨k, by omega, rfl⟩))
            clear hq HX HS
            go_wp2_with fail
            go_quiet (fail)
            go_wp2_with fail
            go_ret2
            exact ⟨NewQ.no HX'.out, Below.then hbel2 (below_drewN (Below.refl _ _) _)⟩
          · have q7 : (N[k] == n) = false := by simpa using hq
            have HN : Hid (n ∉ N.take (k + 1)) := hideP (by
              rw [← List.take_append_getElem (show k < N.length by omega)]
              simp only [List.mem_append, List.mem_singleton, not_or]
              exact ⟨hno.out, fun e => hq e.symm⟩)
            clear hq
            go_wp2_with fail
            go_quiet (fail)
            go_wp2_with fail
            exact ⟨⟨k + 1, rfl, hki, HN, Below.then hbel2 (below_drewN (Below.refl _ _) _)⟩, by simp [intOf]; omega⟩
        · have q5 : ¬ (k : Int) < (i : Int) := by omega
          obtain rfl : k = i := by omega
          have HS' := hideP (HS.out ⟨by omega, by omega, hno.out⟩)
          go_wp2_with fail
          exact ⟨⟨k + 1, rfl, hlt, HS', hbel2⟩, by simp [intOf]; omega⟩
    · have q2 : ¬ (i : Int) < (N.length : Int) := by omega
      obtain rfl : i = N.length := by omega
      have HM : Hid (may N) := hideP ⟨by omega, hok.out⟩
      have few := h.few
      have b1 := below_alloc wr (.cells #[] 9)
      have B1 := Below.then hbel b1
      have o1 := own_new_str wr
      go_wp2_with (at_builtin; refine wpList_append_rec sK _ rfl _ _ 22 9 rfl _ 16 Tryd.underlying22 Tryd.infoStr3 rfl wr.heap.size (.slice (some ⟨wr.heap.size, 0, none⟩) 0 0) [] N a N.length c rfl o1 rfl rfl (h.below B1 (Nat.le_refl _)) b1.size (by simp; omega) (by simp; omega) ?_; intro v2 w2 o2 g2; have b2 := own_grown b1 o1 g2 b1.size; rw [List.nil_append] at o2; clear g2 o1; obtain ⟨na, nc, rfl, h2, _⟩ := own_row (D := sK) o2 few)
      have B2 : Below w.heap.size w w2 := hbel.trans (b2.mono hbel.size)
      clear b1 b2 B1
      go_ret2
      have b3 := below_alloc w2 (.cells #[.int .i64 seed, .slice na N.length nc, .slice none 0 0] 50)
      refine ⟨.inr ⟨HM.out, w2.heap.size, na, nc, rfl, ⟨heap_alloc_new w2 _, h2.safe (Safe.below b3), ⟨rfl, .inl ⟨rfl, rfl⟩⟩, B2.size, hb, s0, s1⟩⟩, Below.then B2 b3⟩
end Go.Proofs.YtfpdiafedoppnaaDoor
