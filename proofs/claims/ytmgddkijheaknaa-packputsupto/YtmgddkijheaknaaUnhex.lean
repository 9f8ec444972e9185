/-
  The contract of Unhex: the bytes that the reading function Pm.uh gives, in memory of the call's own, or the error; nothing that was there turns.
-/
import Derived.Test.YtmgddkijheaknaaLeaf
import Derived.Test.YtmgddkijheaknaaMath2
import Derived.Test.YtmgddkijheaknaaLive
import Derived.Laws.StandIn
namespace Go.Proofs.Ytmgddkijheaknaa
open Go.RowKit Go.Lib

theorem hideH {p : Prop} (h : p) : Hid p := h

theorem bytealg_any (s : ByteArray) (c : Int) (w : World) : (callFunc 35 #[.string s, .int .u8 c]).run Try.prog w = .ok (.value (.int .i64 (indexByte s.data.toList c.toNat.toUInt8))) w := by
  rw [run_callFunc_indexByte Try.func35 (by kernel_rfl) (by kernel_rfl) (by kernel_rfl) (by kernel_rfl), run_indexByteString]
  rfl

set_option maxHeartbeats 400000 in
theorem lite_any (s : ByteArray) (c : Int) (w : World) : Calls Try.prog 34 #[.string s, .int .u8 c] w fun e w' => e = .returned (.int .i64 (indexByte s.data.toList c.toNat.toUInt8)) ∧ w = w' := by
  have h := bytealg_any s c
  go_enter Try.func34, Try.ntmps34
  go_wp2
  go_ret
  exact ⟨rfl, rfl⟩

set_option maxHeartbeats 400000 in
theorem index_any (s : ByteArray) (c : Int) (w : World) : Calls Try.prog 31 #[.string s, .int .u8 c] w fun e w' => e = .returned (.int .i64 (indexByte s.data.toList c.toNat.toUInt8)) ∧ w = w' := by
  go_enter Try.func31, Try.ntmps31
  go_wp2_with fail
  refine (lite_any s c w).mono ?_
  rintro e w1 ⟨rfl, rfl⟩
  go_wp2
  go_ret
  exact ⟨rfl, rfl⟩

theorem digit_any (c : UInt8) (w : World) : Calls Try.prog 31 #[.string ⟨#[48, 49, 50, 51, 52, 53, 54, 55, 56, 57, 97, 98, 99, 100, 101, 102]⟩, .int .u8 (c.toNat : Int)] w fun e w' => e = .returned (.int .i64 (Pm.hv c)) ∧ w = w' := by
  refine (index_any _ _ _).mono ?_
  rintro e w1 ⟨rfl, rfl⟩
  refine ⟨?_, rfl⟩
  have e : ((c.toNat : Int).toNat.toUInt8) = c := by simp
  rw [e]
  rfl

set_option maxRecDepth 100000 in
set_option maxHeartbeats 800000 in
theorem unhex_walk (s : List UInt8) (w : World) (hr : s.length ≤ 140737488351232) (heven : s.length % 2 = 0) :
    Calls Try.prog 23 #[str s] w fun e w' =>
      (Pm.uh s = none ∧ e = .returned (.tuple #[.slice none 0 0, .int .i64 11]) ∧ Below w.heap.size w w') ∨
      ∃ l, Pm.uh s = some l ∧ ∃ g cap, e = .returned (.tuple #[.slice (some ⟨g, 0, none⟩) l.length cap, .int .i64 0]) ∧ Own w' w.heap.size g l.length cap l ∧ Below w.heap.size w w' := by
  obtain ⟨i0, hi, hz0, hz1, hz2⟩ := info_parts Try.infoU8
  have one : ∀ (x : Int), ∀ u ∈ [Value.int .u8 x], u.oneCell' = true := fun x u hu => by simp at hu; subst hu; rfl
  obtain ⟨N, hN⟩ : ∃ N, s.length = 2 * N := ⟨s.length / 2, by omega⟩
  have HN : Hid (s.length = 2 * N) := hN
  have hsz : (⟨s.toArray⟩ : ByteArray).size = s.length := by simp [ByteArray.size]
  have hNb : 2 * (N : Int) ≤ 140737488351232 := by omega
  go_enter Try.func23, Try.ntmps23
  go_wp2_with (first | (at_make; refine wpList_make_own _ rfl _ _ 22 rfl w.heap.size 5 i0 (.int .u8 0) 1 Try.underlying22 hi hz0 hz1 _ _ _ N rfl rfl ?mk1 ?mk2 ?mk3 (Nat.le_refl _) ?mk))
  case mk1 => rfl
  case mk2 => rw [hz2]; omega
  case mk3 => unfold maxLen; omega
  case mk =>
    intro w1 ho1 hg1
    have hb1 : Below w.heap.size w w1 := (Below.refl _ _).grown hg1 (Nat.le_refl _) (fun k h => by cases h)
    go_wp2
    go_loopw [4, 19] (fun b i wr => ∃ (k : Nat) (L : List UInt8), k ≤ N ∧ i = .int .i64 (k : Int) ∧ b = .slice (some ⟨w.heap.size, 0, none⟩) k N ∧ Own wr w.heap.size w.heap.size k N L ∧ Below w.heap.size w wr ∧ Pm.uh s = (Pm.uh (s.drop (2 * k))).map fun r => L ++ r) (fun _ i _ => N - (intOf i).toNat)
    case atStart => exact ⟨0, [], by omega, rfl, rfl, ho1, hb1, by simp⟩
    case round =>
      obtain ⟨k, L, hk, rfl, rfl, hown, hbel, huh⟩ := hrel
      have HU := hideH huh
      clear huh
      by_cases hlt : k < N
      · have hlt' : (k : Int) < (N : Int) := by omega
        have q1 : 2 * (k : Int) + 1 < 2 * (N : Int) := by omega
        have q2 : 2 * (k : Int) < 2 * (N : Int) := by omega
        have hd : s.drop (2 * k) = s[2 * k] :: s[2 * k + 1] :: s.drop (2 * (k + 1)) := by
          rw [List.drop_eq_getElem_cons (by omega), List.drop_eq_getElem_cons (by omega)]; rfl
        have hun : Pm.uh (s.drop (2 * k)) = if Pm.hv s[2 * k] < 0 ∨ Pm.hv s[2 * k + 1] < 0 then none else (Pm.uh (s.drop (2 * (k + 1)))).map fun l => UInt8.ofNat (16 * Pm.hv s[2 * k] + Pm.hv s[2 * k + 1]).toNat :: l := by
          rw [hd, Pm.uh]
        have b1 := Pm.hv_spec s[2 * k]
        have b2 := Pm.hv_spec s[2 * k + 1]
        have D1 := digit_any s[2 * k]
        have D2 := digit_any s[2 * k + 1]
        generalize Pm.hv s[2 * k] = y1 at *
        generalize Pm.hv s[2 * k + 1] = y2 at *
        obtain ⟨b1a, b1b, _⟩ := b1
        obtain ⟨b2a, b2b, _⟩ := b2
        have HN1 := hideH hun
        have HD1 := hideH D1
        have HD2 := hideH D2
        clear hun hd D1 D2
        go_wp2_with fail
        refine (HD1.out wr).mono ?_
        rintro e w2 ⟨rfl, rfl⟩
        go_wp2_with fail
        refine (HD2.out wr).mono ?_
        rintro e w2 ⟨rfl, rfl⟩
        by_cases n1 : y1 < 0
        · go_wp2
          go_ret2
          refine Or.inl ⟨?_, rfl, hbel⟩
          rw [HU.out, HN1.out, if_pos (Or.inl n1)]
          rfl
        · by_cases n2 : y2 < 0
          · go_wp2
            go_ret2
            refine Or.inl ⟨?_, rfl, hbel⟩
            rw [HU.out, HN1.out, if_pos (Or.inr n2)]
            rfl
          · obtain ⟨z1, rfl⟩ := Int.eq_ofNat_of_zero_le (show 0 ≤ y1 by omega)
            obtain ⟨z2, rfl⟩ := Int.eq_ofNat_of_zero_le (show 0 ≤ y2 by omega)
            go_wp2_with (at_builtin; refine wpList_append_fits _ rfl _ _ 22 rfl w.heap.size 5 i0 1 Try.underlying22 hi hz1 w.heap.size k N (cs L) rfl (hown.alloc _) ⟨wr.heap.size, 0, none⟩ 1 1 [.int .u8 (16 * (z1 : Int) + (z2 : Int))] rfl rfl (cell_one_new _ _ _) (one _) ?a3 ?ap)
            case a3 => omega
            case ap =>
              intro w2 ho2 hg2
              go_wp2
              have e : cs (L ++ [UInt8.ofNat (16 * z1 + z2)]) = cs L ++ [.int .u8 (16 * (z1 : Int) + (z2 : Int))] := by
                rw [cs_append]
                simp [cs]
                omega
              refine ⟨⟨k + 1, L ++ [UInt8.ofNat (16 * z1 + z2)], by omega, by go_num, rfl, ?_, Below.grown (hbel.alloc hbel.size _) hg2 (by have := hbel.size; simp; omega) (fun k h => by cases h; exact Nat.le_refl _), ?_⟩, by simp [intOf]; omega⟩
              · unfold Own
                rw [e]
                exact ho2
              · rw [HU.out, HN1.out, if_neg (by omega), Option.map_map]
                rw [show (16 * (z1 : Int) + (z2 : Int)).toNat = 16 * z1 + z2 by omega]
                congr 1
                funext r
                simp
      · have hk' : ¬ (k : Int) < (N : Int) := by omega
        go_wp2
        go_ret2
        refine Or.inr ⟨L, ?_, w.heap.size, N, ?_, ?_, hbel⟩
        · rw [HU.out, List.drop_of_length_le (by omega)]
          simp [Pm.uh]
        · rw [hown.len]; rfl
        · rw [hown.len]; exact hown

set_option maxHeartbeats 400000 in
theorem unhex_odd (s : List UInt8) (w : World) (hr : s.length ≤ 140737488351232) (hodd : s.length % 2 = 1) :
    Calls Try.prog 23 #[str s] w fun e w' => e = .returned (.tuple #[.slice none 0 0, .int .i64 11]) ∧ w = w' := by
  obtain ⟨N, hN⟩ : ∃ N, s.length = 2 * N + 1 := ⟨s.length / 2, by omega⟩
  have hsz : (⟨s.toArray⟩ : ByteArray).size = s.length := by simp [ByteArray.size]
  have hNb : 2 * (N : Int) ≤ 140737488351232 := by omega
  go_enter Try.func23, Try.ntmps23
  go_wp2
  all_goals first | (go_ret2; exact ⟨rfl, rfl⟩) | (exfalso; simp at *; omega)

theorem unhex_any (s : List UInt8) (w : World) (hr : s.length ≤ 140737488351232) :
    Calls Try.prog 23 #[str s] w fun e w' =>
      (Pm.uh s = none ∧ e = .returned (.tuple #[.slice none 0 0, .int .i64 11]) ∧ Below w.heap.size w w') ∨
      ∃ l, Pm.uh s = some l ∧ ∃ g cap, e = .returned (.tuple #[.slice (some ⟨g, 0, none⟩) l.length cap, .int .i64 0]) ∧ Own w' w.heap.size g l.length cap l ∧ Below w.heap.size w w' := by
  by_cases h : s.length % 2 = 0
  · exact unhex_walk s w hr h
  · exact (unhex_odd s w hr (by omega)).mono fun e w' ⟨he, hw⟩ => .inl ⟨Pm.uh_odd s (by omega), he, by subst hw; exact Below.refl _ _⟩
end Go.Proofs.Ytmgddkijheaknaa
