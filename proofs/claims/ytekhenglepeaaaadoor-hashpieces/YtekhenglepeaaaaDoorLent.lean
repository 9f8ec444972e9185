/-
  The walk of HashLent: what is added is not kept as it is.
-/
import Derived.Test.YtekhenglepeaaaaDoorLive
import Derived.Test.YtekhenglepeaaaaDoorOwn2
namespace Go.Proofs.YtekhenglepeaaaaDoor
open Go.RowKit

set_option maxRecDepth 100000 in
set_option maxHeartbeats 1600000 in
theorem hashLent_walk (a : Option Addr) (c : Nat) (l : List UInt8) (b : Option Addr) (d : Nat) (m : List UInt8) (w : World) (hL : Laid w) (ha : Holds w a c l) (ra : l.length ≤ 140737488351232) (hb : Holds w b d m) (rb : m.length ≤ 140737488351232) :
    Calls Tryd.prog 6 #[.slice a l.length c, .slice b m.length d] w fun e w' => e = .returned (.bool true) ∧ Below w.heap.size w w' := by
  have sz := hL.size
  have k1 : (l.length : Int) ≤ 140737488351232 := by omega
  have k2 : (m.length : Int) ≤ 140737488351232 := by omega
  by_cases h0 : 3000 < l.length + m.length
  · have k0 : (3000 : Int) < (l.length : Int) + (m.length : Int) := by omega
    go_enter Tryd.func6, Tryd.ntmps6
    go_wp2_with (go_at_call 8; refine (live_any w hL).mono ?_; rintro e w2 ⟨rfl, hb2⟩)
    go_ret
    exact ⟨rfl, hb2⟩
  · have k0 : ¬ (3000 : Int) < (l.length : Int) + (m.length : Int) := by omega
    have ho0 : Own (w.alloc (.cells #[] 5)) w.heap.size w.heap.size 0 0 [] := own_new w [] _ rfl (by unfold maxLen; simp)
    have hb0 := below_alloc w (.cells #[] 5)
    go_enter Tryd.func6, Tryd.ntmps6
    go_wp2_with (at_builtin; refine wpList_append_bytes _ rfl _ _ rfl w.heap.size w.heap.size 0 0 [] l a l.length c rfl ho0 rfl rfl (ha.below hb0) ?b1 ?ap)
    case b1 => omega
    case ap =>
      intro g1 c1 w1 ho1 hb1
      have B1 := hb0.trans hb1
      clear ho0 hb0 hb1
      go_wp2_with fail
      have G1 := ho1.parts
      refine (new_any w1 (hL.below B1)).mono ?_
      rintro e2 w2 ⟨rfl, r2, hb2⟩
      have B2 := Below.then B1 hb2
      have ho2 := ho1.after hb2
      go_wp2_with fail
      refine (add_at w1.heap.size [] l (some ⟨g1, 0, none⟩) c1 l.length w2 rfl r2 ho2.holds (fun ad h _ => by cases h; show g1 ≠ w1.heap.size; omega) (hL.below B2) (by have := B1.size; omega) (by simp; omega)).mono ?_
      rintro e3 w3 ⟨rfl, r3, hb3⟩
      rw [List.nil_append] at r3
      have B3 : Below w.heap.size w w3 := B2.trans (hb3.lower (by have := B1.size; omega) B2.size)
      have ho3 := ho2.but hb3 (by omega)
      have z1 := B1.size
      have hgne : g1 ≠ w1.heap.size := by omega
      have hgb : w.heap.size ≤ g1 := G1.1
      have R3 := ho3.range
      generalize w1.heap.size = h at *
      clear ho1 r2 hb2 B2 ho2 hb3 B1 G1 ho3
      go_wp2_with fail
      go_loopw [7] (fun v wr => ∃ (i : Nat) (x : List UInt8), v = .int .i64 (i : Int) ∧ i ≤ l.length ∧ x.length = l.length ∧ wr.rangeAt g1 0 (cs x) ∧ wr.there g1 0 l.length ∧ But g1 w3 wr) (fun v _ => l.length - (intOf v).toNat)
      case atStart => exact ⟨0, l, rfl, by omega, rfl, R3.1, R3.2, But.refl _ _⟩
      case round =>
        obtain ⟨i, x, rfl, hi, hx, hr, ht, hbut⟩ := hrel
        by_cases hlt : i < l.length
        · have q1 : (i : Int) < (l.length : Int) := by omega
          have hc := by_cell hr i (by omega)
          obtain ⟨_, hs2⟩ := ht i hlt
          rw [Nat.zero_add] at hs2
          have q2 := (Sm.by' x i).toNat_lt
          have q3 : ((Sm.by' x i).toNat : Int) ≤ 255 := by omega
          go_wp2_with fail
          have e : (.int .u8 ((((Sm.by' x i).toNat : Int) + 1) % 256) : Value) = .int .u8 ((UInt8.ofNat ((Sm.by' x i).toNat + 1)).toNat : Int) := by
            rw [UInt8.toNat_ofNat']; simp
          refine ⟨⟨i + 1, x.set i (UInt8.ofNat ((Sm.by' x i).toNat + 1)), by simp, by omega, by rw [List.length_set]; exact hx, ?_, there_set ht _ _ _, hbut.set i _⟩, by simp [intOf]; omega⟩
          rw [e, ← cs_set]
          exact rangeAt_set hr i _
        · have q1 : ¬ (i : Int) < (l.length : Int) := by omega
          have B4 : Below w.heap.size w wr := B3.trans (hbut.lower hgb B3.size)
          have r4 := hbut.rep (Ne.symm hgne) r3
          clear r3 hr ht hbut R3 hi hlt
          go_wp2_with fail
          refine (add_at h l m b d m.length wr rfl r4 (hb.below B4) (fun ad hh h0 => by have := hb.block hh h0; omega) (hL.below B4) (by omega) (by omega)).mono ?_
          rintro e5 w5 ⟨rfl, r5, hb5⟩
          have B5 : Below w.heap.size w w5 := B4.trans (hb5.lower (by omega) B4.size)
          clear r4 hb5 B4 B3
          go_wp2_with fail
          refine (sum_any w5 h (l ++ m) r5 (hL.below B5) (by rw [List.length_append]; omega)).mono ?_
          rintro e6 w6 ⟨rfl, hb6⟩
          have B6 := Below.then B5 hb6
          clear r5 B5 hb6
          have ho6 : Own (w6.alloc (.cells #[] 5)) w6.heap.size w6.heap.size 0 0 [] := own_new w6 [] _ rfl (by unfold maxLen; simp)
          have hb6 := below_alloc w6 (.cells #[] 5)
          have ha6 := (ha.below B6).below hb6
          go_wp2_with (at_builtin; refine wpList_append_bytes _ rfl _ _ rfl w6.heap.size w6.heap.size 0 0 [] l a l.length c rfl ho6 rfl rfl ha6 ?b2 ?ap2)
          case b2 => omega
          case ap2 =>
            intro g7 c7 w7 ho7 hb7
            have B7 := Below.trans hb6 hb7
            have hb7' := (hb.below B6).below B7
            clear ho6 hb6 hb7
            go_wp2_with (at_builtin; refine wpList_append_bytes _ rfl _ _ rfl w6.heap.size g7 l.length c7 l m b m.length d rfl ho7 rfl rfl hb7' ?b3 ?ap3)
            case b3 => omega
            case ap3 =>
              intro g8 c8 w8 ho8 hb8
              have B8 := B7.trans hb8
              have BA := Below.then B6 B8
              clear B7 hb8 hb7' ho7 ha6
              go_wp2_with fail
              refine (hsum_at (some ⟨g8, 0, none⟩) c8 (l.length + m.length) (l ++ m) w8 (by rw [List.length_append]) ho8.holds (hL.below BA) (by omega)).mono ?_
              rintro e9 w9 ⟨rfl, hb9⟩
              have B9 := Below.then BA hb9
              have hE := equalIn32 (Sm.sum (l ++ m)) (Sm.sum (l ++ m)) (Sm.sum_length _) (Sm.sum_length _)
              rw [beq_self_eq_true] at hE
              clear hb9 BA ho8 B8
              go_wp2_with (go_at_call 8; refine (live_any w9 (hL.below B9)).mono ?_; rintro e w10 ⟨rfl, hb10⟩)
              go_ret
              exact ⟨rfl, Below.then B9 hb10⟩
end Go.Proofs.YtekhenglepeaaaaDoor
