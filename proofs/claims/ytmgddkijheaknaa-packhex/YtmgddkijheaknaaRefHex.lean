/-
  The contracts of the reference's digits: Hex, digit and Unhex answer as Pm.hexOf and Pm.uh do.
-/
import Derived.Test.YtmgddkijheaknaaUnhex
import Derived.Test.YtmgddkijheaknaaHex
import Derived.BigQuiet
import Derived.Deep.QuietTactic
namespace Go.Proofs.Ytmgddkijheaknaa
open Go.RowKit Go.Lib

/-- the reference's digit, as a number -/
def rdig (c : UInt8) : Nat := if 48 ≤ c.toNat ∧ c.toNat ≤ 57 then c.toNat - 48 else if 97 ≤ c.toNat ∧ c.toNat ≤ 102 then c.toNat - 87 else 16
theorem rdig_all : ∀ n : Fin 256, (Pm.hv (UInt8.ofNat n.val) < 0 → rdig (UInt8.ofNat n.val) = 16) ∧ (0 ≤ Pm.hv (UInt8.ofNat n.val) → (rdig (UInt8.ofNat n.val) : Int) = Pm.hv (UInt8.ofNat n.val) ∧ rdig (UInt8.ofNat n.val) < 16) := by decide +kernel
theorem rdig_spec (c : UInt8) : (Pm.hv c < 0 → rdig c = 16) ∧ (0 ≤ Pm.hv c → (rdig c : Int) = Pm.hv c ∧ rdig c < 16) := by
  have h := rdig_all ⟨c.toNat, c.toNat_lt⟩
  simpa using h

theorem rdig_eq (c : UInt8) : (rdig c : Int) = if 48 ≤ (c.toNat : Int) ∧ (c.toNat : Int) ≤ 57 then (c.toNat : Int) - 48 else if 97 ≤ (c.toNat : Int) ∧ (c.toNat : Int) ≤ 102 then (c.toNat : Int) - 97 + 10 else 16 := by
  unfold rdig
  by_cases h1 : 48 ≤ c.toNat ∧ c.toNat ≤ 57
  · rw [if_pos h1, if_pos (by omega)]; omega
  · rw [if_neg h1, if_neg (show ¬ (48 ≤ (c.toNat : Int) ∧ (c.toNat : Int) ≤ 57) by omega)]
    by_cases h2 : 97 ≤ c.toNat ∧ c.toNat ≤ 102
    · rw [if_pos h2, if_pos (by omega)]; omega
    · rw [if_neg h2, if_neg (by omega)]; rfl

set_option maxHeartbeats 400000 in
theorem rdigit_any (c : UInt8) (w : World) : Calls Try.prog 32 #[.int .u8 (c.toNat : Int)] w fun e w' => e = .returned (.int .u8 (rdig c : Int)) ∧ w = w' := by
  rw [rdig_eq]
  have hc : (c.toNat : Int) ≤ 255 := by have := c.toNat_lt; omega
  generalize c.toNat = n at *
  by_cases h1 : 48 ≤ n
  · by_cases h2 : n ≤ 57
    · go_enter Try.func32, Try.ntmps32
      go_wp2
      all_goals (go_ret; refine ⟨ret_int ?_, rfl⟩; go_light; first | rfl | omega)
    · by_cases h3 : 97 ≤ n
      · by_cases h4 : n ≤ 102
        · go_enter Try.func32, Try.ntmps32
          go_wp2
          all_goals (go_ret; refine ⟨ret_int ?_, rfl⟩; go_light; first | rfl | omega)
        · go_enter Try.func32, Try.ntmps32
          go_wp2
          all_goals (go_ret; refine ⟨ret_int ?_, rfl⟩; go_light; first | rfl | omega)
      · go_enter Try.func32, Try.ntmps32
        go_wp2
        all_goals (go_ret; refine ⟨ret_int ?_, rfl⟩; go_light; first | rfl | omega)
  · go_enter Try.func32, Try.ntmps32
    go_wp2
    all_goals (go_ret; refine ⟨ret_int ?_, rfl⟩; go_light; first | rfl | omega)

theorem slice_dg (x : Nat) (hx : x < 16) (w : World) :
    (Instr.slice 9 (.string ⟨#[48, 49, 50, 51, 52, 53, 54, 55, 56, 57, 97, 98, 99, 100, 101, 102]⟩) (some (.int .u8 (x : Int))) (some (.int .u8 ((x : Int) + 1))) none).run Try.prog w = .ok (str [Pm.hd x]) w := by
  have h : x = 0 ∨ x = 1 ∨ x = 2 ∨ x = 3 ∨ x = 4 ∨ x = 5 ∨ x = 6 ∨ x = 7 ∨ x = 8 ∨ x = 9 ∨ x = 10 ∨ x = 11 ∨ x = 12 ∨ x = 13 ∨ x = 14 ∨ x = 15 := by omega
  rcases h with rfl | rfl | rfl | rfl | rfl | rfl | rfl | rfl | rfl | rfl | rfl | rfl | rfl | rfl | rfl | rfl
  all_goals (show _ = _; kernel_rfl)

theorem add_str (a b : List UInt8) (w : World) (h : a.length + b.length ≤ 9223372036854775807) : (Op.stringOp .add ⟨a.toArray⟩ ⟨b.toArray⟩).run Try.prog w = .ok (str (a ++ b)) w := by
  rw [run_string_add_sum _ _ _ (by simpa [ByteArray.size] using h)]
  have e : (⟨a.toArray⟩ : ByteArray) ++ (⟨b.toArray⟩ : ByteArray) = ⟨(a ++ b).toArray⟩ := by
    apply ByteArray.ext
    simp
  rw [e]

set_option maxRecDepth 100000 in
set_option maxHeartbeats 800000 in
theorem rhex_any (a : Option Addr) (c : Nat) (l : List UInt8) (w : World) (ha : Holds w a c l) (hr : l.length ≤ 140737488351232) :
    Calls Try.prog 26 #[.slice a l.length c] w fun e w' => e = .returned (str (Pm.hexOf l)) ∧ Below w.heap.size w w' := by
  have b1 : (l.length : Int) ≤ 140737488351232 := by omega
  go_enter Try.func26, Try.ntmps26
  go_wp2
  go_loopw [3, 4] (fun s i wr => ∃ k : Nat, k ≤ l.length ∧ i = .int .i64 (k : Int) ∧ s = str (Pm.hexOf (l.take k)) ∧ Below w.heap.size w wr) (fun _ i _ => l.length - (intOf i).toNat)
  case atStart => exact ⟨0, by omega, rfl, rfl, Below.refl _ _⟩
  case round =>
    obtain ⟨k, hk, rfl, rfl, hbel⟩ := hrel
    by_cases hlt : k < l.length
    · obtain ⟨b, o, rfl⟩ := ha.addr (by omega)
      have hcell := (ha.below hbel).cell k hlt
      have hlt' : (k : Int) < (l.length : Int) := by omega
      have hx := Pm.hexOf_take l k hlt
      have hxl := Pm.hexOf_length (l.take k)
      rw [List.length_take] at hxl
      generalize hcc : l[k] = cc at *
      have hc256 : cc.toNat < 256 := cc.toNat_lt
      have hc2 : (cc.toNat : Int) ≤ 255 := by omega
      have d1 := slice_dg (cc.toNat / 16) (by omega)
      have d2 := slice_dg (cc.toNat % 16) (by omega)
      have e1 : ((cc.toNat / 16 : Nat) : Int) = (cc.toNat : Int) / 16 := by omega
      have e2 : ((cc.toNat % 16 : Nat) : Int) = (cc.toNat : Int) % 16 := by omega
      rw [e1] at d1
      rw [e2] at d2
      have a1 := fun w => add_str [Pm.hd (cc.toNat / 16)] [Pm.hd (cc.toNat % 16)] w (by simp)
      have a2 := fun w => add_str (Pm.hexOf (l.take k)) [Pm.hd (cc.toNat / 16), Pm.hd (cc.toNat % 16)] w (by simp only [List.length_cons, List.length_nil]; omega)
      rw [← hx] at a2
      simp only [List.cons_append, List.nil_append] at a1
      clear e1 e2 hx hxl hcc
      generalize Pm.hexOf (l.take k) = S at *
      go_wp2_with fail
      go_quiet (fail)
      go_wp2
      go_roundw
      case rel => exact ⟨k + 1, by omega, by go_num, rfl, hbel.trans ⟨rfl, rfl, rfl, Nat.le_refl _, fun _ _ => rfl⟩⟩
      case measure => simp [intOf]; omega
    · have hlt' : ¬ (k : Int) < (l.length : Int) := by omega
      have e : l.take k = l := List.take_of_length_le (by omega)
      rw [e]
      clear e
      go_wp2
      go_ret
      exact ⟨rfl, hbel⟩

theorem owned_form {w : World} {base n : Nat} {v : Value} {l : List UInt8} (h : w.ownsRow base 5 1 v n (cs l)) : ∃ a cap, v = .slice a l.length cap ∧ Holds w a cap l := by
  have hl : l.length = n := by have := h.1; rw [cs_length] at this; omega
  rcases h.2 with ⟨hv, h0⟩ | ⟨g, cap, cur, hv, _⟩
  · subst h0 hv
    have : l = [] := List.eq_nil_of_length_eq_zero hl
    subst this
    exact ⟨none, 0, rfl, Holds.nil w⟩
  · subst hv
    subst hl
    exact ⟨_, cap, rfl, Own.holds h⟩

theorem own_block_ge {w : World} {base n k : Nat} {v : Value} {xs : List Value} (h : w.ownsRow base 5 1 v n xs) (hk : v.ownBlock = some k) : base ≤ k := by
  rcases h.2 with ⟨hv, _⟩ | ⟨g, cap, cur, hv, hg, _⟩
  · subst hv; cases hk
  · subst hv; cases hk; exact hg

set_option maxRecDepth 100000 in
set_option maxHeartbeats 800000 in
theorem runhex_walk (s : List UInt8) (w : World) (hr : s.length ≤ 140737488351232) (heven : s.length % 2 = 0) :
    Calls Try.prog 24 #[str s] w fun e w' =>
      (Pm.uh s = none ∧ e = .returned (.tuple #[.slice none 0 0, .int .i64 11]) ∧ Below w.heap.size w w') ∨
      ∃ l, Pm.uh s = some l ∧ ∃ v, e = .returned (.tuple #[v, .int .i64 0]) ∧ w'.ownsRow w.heap.size 5 1 v l.length (cs l) ∧ Below w.heap.size w w' := by
  obtain ⟨i0, hi, hz0, hz1, hz2⟩ := info_parts Try.infoU8
  have one : ∀ (x : Int), ∀ u ∈ [Value.int .u8 x], u.oneCell' = true := fun x u hu => by simp at hu; subst hu; rfl
  obtain ⟨N, hN⟩ : ∃ N, s.length = 2 * N := ⟨s.length / 2, by omega⟩
  have hsz : (⟨s.toArray⟩ : ByteArray).size = s.length := by simp [ByteArray.size]
  have hNb : 2 * (N : Int) ≤ 140737488351232 := by omega
  go_enter Try.func24, Try.ntmps24
  go_wp2
  go_loopw [4, 5] (fun b i wr => ∃ (k : Nat) (L : List UInt8), k ≤ N ∧ i = .int .i64 (2 * (k : Int)) ∧ L.length = k ∧ wr.ownsRow w.heap.size 5 1 b k (cs L) ∧ Below w.heap.size w wr ∧ Pm.uh s = (Pm.uh (s.drop (2 * k))).map fun r => L ++ r) (fun _ i _ => 2 * N - (intOf i).toNat)
  case atStart => exact ⟨0, [], by omega, rfl, rfl, ⟨rfl, .inl ⟨rfl, rfl⟩⟩, Below.refl _ _, by simp⟩
  case round =>
    obtain ⟨k, L, hk, rfl, hL, hown, hbel, huh⟩ := hrel
    have HU := hideH huh
    have HL := hideH hL
    clear huh hL
    by_cases hlt : k < N
    · have q1 : 2 * (k : Int) + 1 < 2 * (N : Int) := by omega
      have q2 : 2 * (k : Int) < 2 * (N : Int) := by omega
      have hd : s.drop (2 * k) = s[2 * k] :: s[2 * k + 1] :: s.drop (2 * (k + 1)) := by
        rw [List.drop_eq_getElem_cons (by omega), List.drop_eq_getElem_cons (by omega)]; rfl
      have hun : Pm.uh (s.drop (2 * k)) = if Pm.hv s[2 * k] < 0 ∨ Pm.hv s[2 * k + 1] < 0 then none else (Pm.uh (s.drop (2 * (k + 1)))).map fun l => UInt8.ofNat (16 * Pm.hv s[2 * k] + Pm.hv s[2 * k + 1]).toNat :: l := by
        rw [hd, Pm.uh]
      have r1 := rdig_spec s[2 * k]
      have r2 := rdig_spec s[2 * k + 1]
      have D1 := rdigit_any s[2 * k]
      have D2 := rdigit_any s[2 * k + 1]
      generalize Pm.hv s[2 * k] = y1 at *
      generalize Pm.hv s[2 * k + 1] = y2 at *
      generalize rdig s[2 * k] = z1 at *
      generalize rdig s[2 * k + 1] = z2 at *
      have HN1 := hideH hun
      have HD1 := hideH D1
      have HD2 := hideH D2
      clear hun hd D1 D2
      have hbase : w.heap.size ≤ wr.heap.size := hbel.size
      by_cases n1 : y1 < 0
      · have t1 : ((z1 : Int) == 16) = true := by rw [r1.1 n1]; rfl
        clear r1 r2
        go_wp2_with fail
        refine (HD1.out wr).mono ?_
        rintro e w2 ⟨rfl, rfl⟩
        go_wp2_with fail
        refine (HD2.out wr).mono ?_
        rintro e w2 ⟨rfl, rfl⟩
        go_wp2
        go_ret2
        refine Or.inl ⟨?_, rfl, hbel⟩
        rw [HU.out, HN1.out, if_pos (Or.inl n1)]
        rfl
      · obtain ⟨s1, s2⟩ := r1.2 (by omega)
        have t1 : ((z1 : Int) == 16) = false := by rw [beq_eq_false_iff_ne]; omega
        by_cases n2 : y2 < 0
        · have t2 : ((z2 : Int) == 16) = true := by rw [r2.1 n2]; rfl
          clear r1 r2
          go_wp2_with fail
          refine (HD1.out wr).mono ?_
          rintro e w2 ⟨rfl, rfl⟩
          go_wp2_with fail
          refine (HD2.out wr).mono ?_
          rintro e w2 ⟨rfl, rfl⟩
          go_wp2
          go_ret2
          refine Or.inl ⟨?_, rfl, hbel⟩
          rw [HU.out, HN1.out, if_pos (Or.inr n2)]
          rfl
        · obtain ⟨s3, s4⟩ := r2.2 (by omega)
          have t2 : ((z2 : Int) == 16) = false := by rw [beq_eq_false_iff_ne]; omega
          have hyz : (16 * y1 + y2).toNat = 16 * z1 + z2 := by omega
          have HY := hideH hyz
          clear hyz r1 r2 s1 s3
          have m1 : (z1 : Int) ≤ 15 := by omega
          have m2 : (z2 : Int) ≤ 15 := by omega
          go_wp2_with fail
          refine (HD1.out wr).mono ?_
          rintro e w2 ⟨rfl, rfl⟩
          go_wp2_with fail
          refine (HD2.out wr).mono ?_
          rintro e w2 ⟨rfl, rfl⟩
          go_wp2_with (at_builtin; refine wpList_append_own _ rfl _ _ 22 rfl w.heap.size 5 i0 (.int .u8 0) 1 1 Try.underlying22 hi hz0 hz1 hz2 rfl (by decide) _ k (cs L) rfl (hown.alloc _) ⟨wr.heap.size, 0, none⟩ 1 1 [.int .u8 (16 * (z1 : Int) + (z2 : Int))] rfl rfl (cell_one_new _ _ _) (one _) ?h63 ?hby ?hba ?ap)
          case h63 => unfold maxLen; omega
          case hby => omega
          case hba => simp; omega
          case ap =>
            intro v2 w2 ho2 hg2 _
            have e : cs (L ++ [UInt8.ofNat (16 * z1 + z2)]) = cs L ++ [.int .u8 (16 * (z1 : Int) + (z2 : Int))] := by
              rw [cs_append]
              simp [cs]
              omega
            go_wp2
            refine ⟨⟨k + 1, L ++ [UInt8.ofNat (16 * z1 + z2)], by omega, by rw [show (2 * ((k + 1 : Nat) : Int)) = 2 * (k : Int) + 2 by omega], by simp [HL.out], by rw [e]; exact ho2, Below.grown (hbel.alloc hbel.size _) hg2 (by simp; omega) (fun k h => own_block_ge hown h), ?_⟩, by simp [intOf]; omega⟩
            rw [HU.out, HN1.out, if_neg (by omega), Option.map_map, HY.out]
            congr 1
            funext r
            simp
    · have hk' : ¬ 2 * (k : Int) < 2 * (N : Int) := by omega
      go_wp2
      go_ret2
      refine Or.inr ⟨L, ?_, _, rfl, ?_, hbel⟩
      · rw [HU.out, List.drop_of_length_le (by omega)]
        simp [Pm.uh]
      · rw [HL.out]; exact hown

set_option maxHeartbeats 400000 in
theorem runhex_odd (s : List UInt8) (w : World) (hr : s.length ≤ 140737488351232) (hodd : s.length % 2 = 1) :
    Calls Try.prog 24 #[str s] w fun e w' => e = .returned (.tuple #[.slice none 0 0, .int .i64 11]) ∧ w = w' := by
  obtain ⟨N, hN⟩ : ∃ N, s.length = 2 * N + 1 := ⟨s.length / 2, by omega⟩
  have hsz : (⟨s.toArray⟩ : ByteArray).size = s.length := by simp [ByteArray.size]
  have hNb : 2 * (N : Int) ≤ 140737488351232 := by omega
  go_enter Try.func24, Try.ntmps24
  go_wp2
  all_goals first | (go_ret2; exact ⟨rfl, rfl⟩) | (exfalso; simp at *; omega)

theorem runhex_any (s : List UInt8) (w : World) (hr : s.length ≤ 140737488351232) :
    Calls Try.prog 24 #[str s] w fun e w' =>
      (Pm.uh s = none ∧ e = .returned (.tuple #[.slice none 0 0, .int .i64 11]) ∧ Below w.heap.size w w') ∨
      ∃ l, Pm.uh s = some l ∧ ∃ a cap, e = .returned (.tuple #[.slice a l.length cap, .int .i64 0]) ∧ Holds w' a cap l ∧ Below w.heap.size w w' := by
  by_cases h : s.length % 2 = 0
  · refine (runhex_walk s w hr h).mono fun e w' hh => ?_
    rcases hh with hh | ⟨l, hl, v, he, ho, hb⟩
    · exact .inl hh
    · obtain ⟨a, cap, rfl, hH⟩ := owned_form ho
      exact .inr ⟨l, hl, a, cap, he, hH, hb⟩
  · exact (runhex_odd s w hr (by omega)).mono fun e w' ⟨he, hw⟩ => .inl ⟨Pm.uh_odd s (by omega), he, by subst hw; exact Below.refl _ _⟩
end Go.Proofs.Ytmgddkijheaknaa
