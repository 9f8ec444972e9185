/-
  The walk of RingLent: names that are told, and those a ring was made of, are its own: changed, they change nothing.
-/
import Derived.Test.YtfpdiafedoppnaaDoorTx6
import Derived.Test.YtfpdiafedoppnaaDoorRq
namespace Go.Proofs.YtfpdiafedoppnaaDoor
open Go.RowKit

/-- a row of texts that may be written over -/
def Spoil (w : World) (ga n : Nat) : Prop := ∃ C : Array Value, w.heap[ga]? = some (.cells C 9) ∧ n ≤ C.size
theorem Spoil.below {w w' : World} {ga n : Nat} (h : Spoil w ga n) (b : Below w.heap.size w w') : Spoil w' ga n := by
  obtain ⟨C, h1, h2⟩ := h
  exact ⟨C, below_heap b h1, h2⟩
theorem spoil_of {w : World} {base : Nat} {v : Value} {N : List (List UInt8)} (h : w.ownsRow base 9 sK.k v N.length (N.flatMap sK.enc)) (h0 : 0 < N.length) (hm : N.length ≤ 9000000000000) : ∃ ga c, v = .slice (some ⟨ga, 0, none⟩) N.length c ∧ Row sK w (some ⟨ga, 0, none⟩) c N ∧ Spoil w ga N.length ∧ base ≤ ga := by
  obtain ⟨a, c, hv, hrow, hb⟩ := own_row (D := sK) h hm
  rcases h.2 with ⟨_, h1⟩ | ⟨g, cap, cur, hv', hbg, hg, hnc, hcm, hcs, _⟩
  · omega
  · rw [hv'] at hv
    cases hv
    exact ⟨g, _, hv', hrow.row, ⟨cur, hg, by rw [show sK.k = 1 from rfl] at hcs; omega⟩, hbg⟩
theorem RingAt.spoiled {w w' : World} {rb g cap bm ga : Nat} {seed : Int} {N : List (List UInt8)} {L : List P3} (r : RingAt w rb g cap bm seed N L) {C : Array Value} (hC : w.heap[ga]? = some (.cells C 9)) (x : But ga w w') : RingAt w' rb g cap bm seed N L :=
  r.stays ⟨Safe.but x hC (by decide), Safe.but x hC (by decide), x.block _ r.book.lt (fun e => by
    obtain ⟨es, clock, hb⟩ := r.book.map
    rw [e, hC] at hb; cases hb)⟩
theorem own_new_str (w : World) : (w.alloc (.cells #[] 9)).ownsRow w.heap.size 9 sK.k (.slice (some ⟨w.heap.size, 0, none⟩) 0 0) ([] : List (List UInt8)).length (([] : List (List UInt8)).flatMap sK.enc) :=
  ⟨rfl, .inr ⟨w.heap.size, 0, #[], rfl, Nat.le_refl _, heap_alloc_new w _, Nat.le_refl _, Nat.zero_le _, rfl, rfl⟩⟩

set_option maxRecDepth 100000 in
set_option maxHeartbeats 3200000 in
theorem ringLent_walk (a : Option Addr) (c : Nat) (N : List (List UInt8)) (w : World) (hL : Laid w) (h : Row sK w a c N) (hR : N.length * 16 ≤ reachBytes) :
    Calls Tryd.prog 6 #[.slice a N.length c] w fun e w' => e = .returned (.bool true) ∧ Below w.heap.size w w' := by
  have hR' : N.length * 16 ≤ 140737488351232 := by simpa [reachBytes] using hR
  clear hR
  have few := h.few
  go_enter Tryd.func6, Tryd.ntmps6
  have B0 := below_alloc w (.cells #[] 9)
  have o0 := own_new_str w
  go_wp2_with (at_builtin; refine wpList_append_rec sK _ rfl _ _ 22 9 rfl _ 16 Tryd.underlying22 Tryd.infoStr3 rfl w.heap.size (.slice (some ⟨w.heap.size, 0, none⟩) 0 0) [] N a N.length c rfl o0 rfl rfl (h.below B0 (Nat.le_refl _)) B0.size (by simp; omega) (by simp; omega) ?_; intro v1 w1 o1 g1; have B1 := own_grown B0 o0 g1 B0.size; rw [List.nil_append] at o1; clear g1 o0 B0)
  obtain ⟨a1, c1, rfl, h1, _⟩ := own_row (D := sK) o1 few
  have H1 := h1.row
  by_cases hb : N.length ≤ 6
  rotate_left
  · refine (new6_big w1 a1 c1 3 N hb).mono ?_
    rintro _ w2 ⟨rfl, rfl⟩
    go_wp2_with fail
    refine (live6 w1 (hL.below B1)).mono ?_
    rintro _ w9 ⟨rfl, b9⟩
    go_wp2_with fail
    go_ret
    exact ⟨rfl, Below.then B1 b9⟩
  by_cases hm : may N
  rotate_left
  · refine (new6_arg w1 a1 c1 3 N H1 hb hm).mono ?_
    rintro _ w2 ⟨rfl, rfl⟩
    go_wp2_with fail
    refine (live6 w1 (hL.below B1)).mono ?_
    rintro _ w9 ⟨rfl, b9⟩
    go_wp2_with fail
    go_ret
    exact ⟨rfl, Below.then B1 b9⟩
  have hpos := hm.1
  obtain ⟨ga, c1', e1, _, sp1, hga⟩ := spoil_of o1 hpos few
  cases e1
  refine (new6_ok w1 (some ⟨ga, 0, none⟩) c1 3 N H1 (hL.below B1) hb hm (by decide) (by decide)).mono ?_
  rintro _ w2 ⟨rb, rfl, ⟨g, cap, bm, r2, _⟩, b2⟩
  have B2 := Below.then B1 b2
  have S2 := sp1.below b2
  clear H1 h1 o1 sp1 B1 b2
  go_wp2_with fail
  go_loopw [6] (fun v wr => ∃ k : Nat, v = .int .i64 (k : Int) ∧ k ≤ N.length ∧ RingAt wr rb g cap bm 3 N [] ∧ Spoil wr ga N.length ∧ Below w.heap.size w wr) (fun v _ => N.length - (intOf v).toNat)
  case atStart => exact ⟨0, rfl, by omega, r2, S2, B2⟩
  case round =>
    obtain ⟨k, rfl, hk, hr, ⟨C, hC, hCs⟩, hbel⟩ := hrel
    clear r2 S2 B2
    by_cases hlt : k < N.length
    · have q0 : (k : Int) < (N.length : Int) := by omega
      go_wp2_with (refine wpList_store_cel rfl 9 _ _ rfl ga k C.size 9 (str [122, 122]) (C.setIfInBounds k (str [122, 122])) rfl rfl hC rfl (by omega) (by kernel_rfl) rfl rfl ?_; intro w3 h3 x3)
      have r3 := hr.spoiled hC x3
      have B3 := hbel.trans (x3.lower hga hbel.size)
      exact ⟨⟨k + 1, rfl, hlt, r3, ⟨_, h3, by simpa using hCs⟩, B3⟩, by simp [intOf]; omega⟩
    · have q0 : ¬ (k : Int) < (N.length : Int) := by omega
      clear hC hCs
      go_wp2_with fail
      refine (names6 wr rb g cap bm 3 N [] hr).mono ?_
      rintro _ w3 ⟨v3, rfl, o3, b3⟩
      obtain ⟨gl, cl, rfl, _, S3, hgl⟩ := spoil_of o3 hpos few
      have B3 := Below.then hbel b3
      have r3 := hr.below b3
      have F3 := Nat.le_trans hbel.size hgl
      clear o3 b3 hr hbel
      go_wp2_with fail
      go_loopw [8] (fun v wr => ∃ k : Nat, v = .int .i64 (k : Int) ∧ k ≤ N.length ∧ RingAt wr rb g cap bm 3 N [] ∧ Spoil wr gl N.length ∧ Below w.heap.size w wr) (fun v _ => N.length - (intOf v).toNat)
      case atStart => exact ⟨0, rfl, by omega, r3, S3, B3⟩
      case round =>
        obtain ⟨k, rfl, hk, hr, ⟨C, hC, hCs⟩, hbel⟩ := hrel
        clear r3 S3 B3
        by_cases hlt : k < N.length
        · have q0 : (k : Int) < (N.length : Int) := by omega
          go_wp2_with (refine wpList_store_cel rfl 9 _ _ rfl gl k C.size 9 (str [121, 121]) (C.setIfInBounds k (str [121, 121])) rfl rfl hC rfl (by omega) (by kernel_rfl) rfl rfl ?_; intro w4 h4 x4)
          have r4 := hr.spoiled hC x4
          have B4 := hbel.trans (x4.lower F3 hbel.size)
          exact ⟨⟨k + 1, rfl, hlt, r4, ⟨_, h4, by simpa using hCs⟩, B4⟩, by simp [intOf]; omega⟩
        · have q0 : ¬ (k : Int) < (N.length : Int) := by omega
          clear hC hCs
          go_wp2_with fail
          refine (names6 _ rb g cap bm 3 N [] hr).mono ?_
          rintro _ w5 ⟨v5, rfl, o5, b5⟩
          obtain ⟨g5, c5, rfl, H5, _, _⟩ := spoil_of o5 hpos few
          have B5 := Below.then hbel b5
          clear o5 b5 hr hbel
          go_wp2_with fail
          refine (texts6 w5 (some ⟨g5, 0, none⟩) a c5 c N H5 (h.below B5 (Nat.le_refl _))).mono ?_
          rintro _ w6 ⟨rfl, b6⟩
          have B6 := Below.then B5 b6
          go_wp2_with fail
          refine (live6 w6 (hL.below B6)).mono ?_
          rintro _ w7 ⟨rfl, b7⟩
          go_wp2_with fail
          go_ret
          exact ⟨rfl, Below.then B6 b7⟩
end Go.Proofs.YtfpdiafedoppnaaDoor
