/-
  next: of the literals that were not taken the first one that none has more known terms than.
-/
import Derived.Test.YtcncmpgababfjaaDoorQJf14
import Derived.WalkMore
namespace Go.Proofs.YtcncmpgababfjaaDoor
open Go.RowKit Go.Lib Go.Shelf

/-- what is picked, as a number -/
def pkv : Option Nat → Int
  | none => -1
  | some b => (b : Int)
theorem Pn.pick_lt {c : Nat → Nat} {o : List Nat} {n b : Nat} (h : Pn.pick c o n = some b) : b < n := (Pn.pick_some h).lt
theorem Pn.pick_in {c : Nat → Nat} {o : List Nat} {n : Nat} (h : n ∈ o) : Pn.pick c o (n + 1) = Pn.pick c o n := by
  rw [Pn.pick]
  cases Pn.pick c o n with
  | none => simp [h]
  | some b => simp [h]
theorem Pn.pick_first {c : Nat → Nat} {o : List Nat} {n : Nat} (h : n ∉ o) (hp : Pn.pick c o n = none) : Pn.pick c o (n + 1) = some n := by
  rw [Pn.pick, hp]; simp [h]
theorem Pn.pick_more {c : Nat → Nat} {o : List Nat} {n b : Nat} (h : n ∉ o) (hp : Pn.pick c o n = some b) : Pn.pick c o (n + 1) = if c b < c n then some n else some b := by
  rw [Pn.pick, hp]
  by_cases h2 : c b < c n
  · simp [h, h2]
  · simp [h2]
/-- known terms by a literal's number -/
def kof (K : List Nat) (k : Nat) : Nat := K[k]?.getD 0
theorem kof_get {K : List Nat} {k : Nat} (h : k < K.length) : kof K k = K[k] := by unfold kof; rw [List.getElem?_eq_getElem h]; rfl

set_option maxRecDepth 100000 in
set_option maxHeartbeats 2000000 in
theorem next_at (v0 v1 v4 : Value) (w : World) (ob tb kb n : Nat) (K p : List Nat) (hn : K.length = n) (hn2 : n ≤ 1000000) (hK : ∀ k (h : k < K.length), K[k] ≤ 1000000)
    (H : w.heap[ob]? = some (.cells #[v0, v1, .slice (some ⟨tb, 0, none⟩) n n, .slice (some ⟨kb, 0, none⟩) n n, v4] 48)) (HT : w.heap[tb]? = some (.cells (bvs n p) 4)) (HK : w.heap[kb]? = some (.cells (nvs K) 3)) :
    Calls Tryd.prog 13 #[ptr ob] w fun e w' => e = .returned (.int .i64 (pkv (Pn.pick (kof K) p n))) ∧ Below w.heap.size w w' := by
  have c2 : w.cell? ⟨ob, 2, none⟩ = some (.slice (some ⟨tb, 0, none⟩) n n) := by rw [heap_cell H]; rfl
  have c3 : w.cell? ⟨ob, 3, none⟩ = some (.slice (some ⟨kb, 0, none⟩) n n) := by rw [heap_cell H]; rfl
  have HKc := hideP (fun k (h : k < n) => (show w.cell? ⟨kb, k, none⟩ = some (.int .i64 (kof K k : Int)) by rw [heap_cell HK, nvs_get K k (by omega), kof_get (by omega)]))
  have HTc := hideP (fun k (h : k < n) => (show w.cell? ⟨tb, k, none⟩ = some (.bool (decide (k ∈ p))) by rw [heap_cell HT, bvs_get p h]))
  have HB := hideP (fun k (h : k < n) => (show kof K k ≤ 1000000 by rw [kof_get (by omega)]; exact hK k (by omega)))
  clear H HT HK hK
  go_enter Tryd.func13, Tryd.ntmps13
  go_wp2_with fail
  go_step3
  go_wp2_with fail
  go_step3
  go_wp2_with fail
  go_loopw [3, 11] (fun v3 v wr => ∃ k : Nat, v = .int .i64 (k : Int) ∧ k ≤ n ∧ v3 = .int .i64 (pkv (Pn.pick (kof K) p k)) ∧ w = wr) (fun _ v _ => n - (RowKit.intOf v).toNat)
  case atStart => exact ⟨0, rfl, Nat.zero_le _, rfl, rfl⟩
  case round =>
    obtain ⟨k, rfl, hk, rfl, rfl⟩ := hrel
    by_cases hlt : k < n
    · have hq : (k : Int) < (n : Int) := by omega
      have kc := HKc.out k hlt
      have tc := HTc.out k hlt
      have kle := HB.out k hlt
      by_cases hin : k ∈ p
      · rw [decide_eq_true hin] at tc
        have E := hideP (Pn.pick_in (c := kof K) hin)
        generalize hz : pkv (Pn.pick (kof K) p k) = z at *
        have hzz := hideP hz
        clear hz
        go_wp2_with fail
        go_roundw
        case rel => exact ⟨k + 1, rfl, hlt, by rw [E.out, hzz.out], by first | rfl | trivial⟩
        case measure => simp [RowKit.intOf]; omega
      · rw [decide_eq_false hin] at tc
        cases hp : Pn.pick (kof K) p k with
        | none =>
          have E := hideP (Pn.pick_first hin hp)
          go_wp2_with fail
          go_roundw
          case rel => exact ⟨k + 1, rfl, hlt, by rw [E.out]; rfl, by first | rfl | trivial⟩
          case measure => simp [RowKit.intOf]; omega
        | some b =>
          have E := hideP (Pn.pick_more hin hp)
          have blt := Pn.pick_lt hp
          have bc := HKc.out b (by omega)
          have ble := HB.out b (by omega)
          have qb : (b : Int) < (n : Int) := by omega
          have pv : pkv (some b) = (b : Int) := rfl
          rw [pv]
          clear pv
          generalize kof K b = y1 at *
          generalize kof K k = y2 at *
          by_cases h12 : y1 < y2
          · have q12 : (y1 : Int) < (y2 : Int) := by omega
            rw [if_pos h12] at E
            go_wp2_with fail
            go_roundw
            case rel => exact ⟨k + 1, rfl, hlt, by rw [E.out]; rfl, by first | rfl | trivial⟩
            case measure => simp [RowKit.intOf]; omega
          · have q12 : ¬ (y1 : Int) < (y2 : Int) := by omega
            rw [if_neg h12] at E
            go_wp2_with fail
            go_roundw
            case rel => exact ⟨k + 1, rfl, hlt, by rw [E.out]; rfl, by first | rfl | trivial⟩
            case measure => simp [RowKit.intOf]; omega
    · have hq : ¬ (k : Int) < (n : Int) := by omega
      obtain rfl : k = n := by omega
      go_wp2_with fail
      try rw [Exit.noGoto_ret]
      go_ret
      exact ⟨rfl, Below.refl _ _⟩
end Go.Proofs.YtcncmpgababfjaaDoor
