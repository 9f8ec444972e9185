/-
  The contract of Hex: two digits a byte; nothing that was there turns.
-/
import Derived.Test.YtmgddkijheaknaaLeaf
import Derived.Deep.RegionLaw
import Derived.BigRegion
namespace Go.Proofs.Ytmgddkijheaknaa
open Go.RowKit

/-- append within the room of a row of the call's own, as one step of a region that draws. -/
theorem step_append_spare {ops : Array Oper} {o : Oper} {a : Act} {w : World} {K : Act → World → Prop} {Q : Exit → Act → World → Prop} {E : Prop}
    (hgd : o.guard = none) (s x : Operand) (t : TypeId) (ho : o.op = .call { callee := .builtin .append, args := #[s, x], argTypes := #[t, t] })
    (base : Nat) (e : TypeId) (i : TypeInfo) (size : Nat) (ht : Try.prog.underlying t = some (.slice e)) (hi : Try.prog.info? e = some i) (hsize : i.size = size)
    (g n cap : Nat) (xs : List Value) (hs : a.eval s = .slice (some ⟨g, 0, none⟩) n cap) (hown : w.ownsRow base e size (.slice (some ⟨g, 0, none⟩) n cap) n xs)
    (ad : Addr) (m c : Nat) (news : List Value) (hx : a.eval x = .slice (some ad) m c) (hl : news.length = m * size) (hnews : ∀ j u, news[j]? = some u → w.cell? (ad.add j) = some u) (h1 : ∀ u ∈ news, u.oneCell' = true)
    (hroom : n + m ≤ cap)
    (h : ∀ w', w'.ownsRow base e size (.slice (some ⟨g, 0, none⟩) (n + m) cap) (n + m) (xs ++ news) → w.grownBy w' (some g) → K (a.put o.dst (.slice (some ⟨g, 0, none⟩) (n + m) cap)) w') :
    if Region.wanted o (yielded ops a.tmps) = true then Oper.wp Try.prog o a w K Q else E := by
  have hw : Region.wanted o (yielded ops a.tmps) = true := by simp [Region.wanted, hgd]
  rw [if_pos hw]
  exact wp_append_own_spare w s x t ho base e i size ht hi hsize g n cap xs hs hown ad m c news hx hl hnews h1 hroom h

theorem cell_two_of (w : World) (x y : Value) (t : TypeId) : ∀ j u, [x, y][j]? = some u → (w.alloc (.cells #[x, y] t)).cell? ((⟨w.heap.size, 0, none⟩ : Addr).add j) = some u := by
  intro j u hj
  match j, hj with
  | 0, hj => simp at hj; subst hj; simp [Addr.add]
  | 1, hj => simp at hj; subst hj; simp [Addr.add]

theorem index_dg (x : Nat) (hx : x < 16) (w : World) :
    (Instr.index 9 (.string ⟨#[48, 49, 50, 51, 52, 53, 54, 55, 56, 57, 97, 98, 99, 100, 101, 102]⟩) (.int .u8 (x : Int))).run Try.prog w = .ok (.int .u8 ((Pm.hd x).toNat : Int)) w := by
  have h : x = 0 ∨ x = 1 ∨ x = 2 ∨ x = 3 ∨ x = 4 ∨ x = 5 ∨ x = 6 ∨ x = 7 ∨ x = 8 ∨ x = 9 ∨ x = 10 ∨ x = 11 ∨ x = 12 ∨ x = 13 ∨ x = 14 ∨ x = 15 := by omega
  rcases h with rfl | rfl | rfl | rfl | rfl | rfl | rfl | rfl | rfl | rfl | rfl | rfl | rfl | rfl | rfl | rfl
  all_goals (show _ = _; kernel_rfl)

set_option maxRecDepth 100000 in
set_option maxHeartbeats 800000 in
theorem hex_any (a : Option Addr) (c : Nat) (l : List UInt8) (w : World) (ha : Holds w a c l) (hr : 2 * l.length ≤ 281474976710656) :
    Calls Try.prog 25 #[.slice a l.length c] w fun e w' => e = .returned (str (Pm.hexOf l)) ∧ Below w.heap.size w w' := by
  obtain ⟨i0, hi, hz0, hz1, hz2⟩ := info_parts Try.infoU8
  have b1 : 2 * (l.length : Int) ≤ 281474976710656 := by omega
  go_enter Try.func25, Try.ntmps25
  go_wp2_with (first | (at_make; refine wpList_make_own _ rfl _ _ 22 rfl w.heap.size 5 i0 (.int .u8 0) 1 Try.underlying22 hi hz0 hz1 _ _ _ (2 * l.length) rfl rfl ?mk1 ?mk2 ?mk3 (Nat.le_refl _) ?mk))
  case mk1 => simp
  case mk2 => rw [hz2]; omega
  case mk3 => unfold maxLen; omega
  case mk =>
    intro w1 ho1 hg1
    have hb1 : Below w.heap.size w w1 := (Below.refl _ _).grown hg1 (Nat.le_refl _) (fun k h => by cases h)
    go_wp2
    go_loopw [3, 12] (fun b i wr => ∃ k : Nat, k ≤ l.length ∧ i = .int .i64 (k : Int) ∧ b = .slice (some ⟨w.heap.size, 0, none⟩) (2 * k) (2 * l.length) ∧ Own wr w.heap.size w.heap.size (2 * k) (2 * l.length) (Pm.hexOf (l.take k)) ∧ Below w.heap.size w wr) (fun _ i _ => l.length - (intOf i).toNat)
    case atStart => exact ⟨0, by omega, rfl, rfl, ho1, hb1⟩
    case round =>
      obtain ⟨k, hk, rfl, rfl, hown, hbel⟩ := hrel
      by_cases hlt : k < l.length
      · obtain ⟨b, o, rfl⟩ := ha.addr (by omega)
        have hcell := (ha.below hbel).cell k hlt
        have hlt' : (k : Int) < (l.length : Int) := by omega
        generalize hcc : l[k] = cc at *
        have hc256 : cc.toNat < 256 := cc.toNat_lt
        have hm1 := Pm.u8_and15 cc.toNat hc256
        have d1 := index_dg (cc.toNat / 16) (by omega)
        have d2 := index_dg (cc.toNat % 16) (by omega)
        have e1 : ((cc.toNat / 16 : Nat) : Int) = (cc.toNat : Int) / 16 := by omega
        have e2 : ((cc.toNat % 16 : Nat) : Int) = (cc.toNat : Int) % 16 := by omega
        rw [e1] at d1
        rw [e2] at d2
        clear e1 e2
        go_wp2_with fail
        go_region_law (refine step_append_spare rfl (.tmp 16) (.tmp 23) 22 rfl w.heap.size 5 i0 1 Try.underlying22 hi hz1 w.heap.size (2 * k) (2 * l.length) (cs (Pm.hexOf (l.take k))) (by simp [Act.eval]) (by first | exact hown.alloc _ | exact hown.drew.alloc _ | exact (hown.alloc _).drew) ⟨wr.heap.size, 0, none⟩ 2 2 [.int .u8 ((Pm.hd (cc.toNat / 16)).toNat : Int), .int .u8 ((Pm.hd (cc.toNat % 16)).toNat : Int)] (by simp [Act.eval]) rfl (cell_two_of _ _ _ _) (cs_one [Pm.hd (cc.toNat / 16), Pm.hd (cc.toNat % 16)]) (by omega) ?_; intro w2 ho2 hg2)
        all_goals
          go_wp2
          go_roundw
          case rel =>
            have e : cs (Pm.hexOf (l.take (k + 1))) = cs (Pm.hexOf (l.take k)) ++ [.int .u8 ((Pm.hd (cc.toNat / 16)).toNat : Int), .int .u8 ((Pm.hd (cc.toNat % 16)).toNat : Int)] := by
              rw [Pm.hexOf_take l k hlt, hcc, cs_append]; rfl
            refine ⟨k + 1, by omega, by go_num, by rw [show 2 * (k + 1) = 2 * k + 2 by omega], ?_, Below.grown (by first | exact hbel.alloc hbel.size _ | exact (hbel.alloc hbel.size _).drew | exact hbel.drew.alloc hbel.size _) hg2 (by have := hbel.size; simp; omega) (fun k h => by cases h; exact Nat.le_refl _)⟩
            unfold Own
            rw [e, show 2 * (k + 1) = 2 * k + 2 by omega]
            exact ho2
          case measure => simp [intOf]; omega
      · have hk' : k = l.length := by omega
        have HK : Hid (k = l.length) := hk'
        have hcv := conv hown.holds
        rw [hown.len] at hcv
        clear hk'
        have hlt' : ¬ (k : Int) < (l.length : Int) := by omega
        go_wp2
        go_ret
        refine ⟨?_, hbel⟩
        have e : l.take k = l := by rw [HK.out]; exact List.take_length
        rw [e]
        rfl
end Go.Proofs.Ytmgddkijheaknaa
