/-
  append of bytes to a row of the call's own, at a step of a region that draws its order, guarded or not.
-/
import Derived.RegionTactic
import Derived.Lib.AppendStr
import Derived.Lib.LaidTab
import Derived.Lib.ItoaMem
import Derived.Lib.ItoaLen
import Derived.Deep.RegionHeld3
import Derived.Test.YtdehimbfcilhpaaGreatDoorQOw
import Derived.Test.YtdehimbfcilhpaaGreatDoorQCs
import Derived.Test.YtdehimbfcilhpaaGreatDoorQShelfB
import Derived.Test.YtdehimbfcilhpaaGreatDoorQNk
namespace Go.Proofs.YtdehimbfcilhpaaGreatDoor
open Go.RowKit

theorem alloc_le (w : World) (o : Obj) : w.heap.size ≤ (w.alloc o).heap.size := by simp
theorem grown_refl (w : World) (row : Option Nat) : w.grownBy w row := ⟨rfl, rfl, rfl, Nat.le_refl _, fun _ _ _ => rfl⟩
theorem grown_below {w w' : World} {g base : Nat} (hg : w.grownBy w' (some g)) (hb : base ≤ g) (hw : base ≤ w.heap.size) : Below base w w' :=
  (Below.refl _ _).grown hg hw fun k hk => by cases hk; exact hb
theorem grown_holds {w w' : World} {g : Nat} {b o c : Nat} {l : List UInt8} (hg : w.grownBy w' (some g)) (h : Holds w (some ⟨b, o, none⟩) c l) (hne : b ≠ g) : Holds w' (some ⟨b, o, none⟩) c l :=
  ⟨h.1, h.2.1, fun ad had j u hu => by
    have hc := h.2.2 ad had j u hu
    cases had
    have hk : ((⟨b, o, none⟩ : Addr).add j).block = b := by rw [Addr.add_lit]
    have hs := cell_block hc
    rw [hk] at hs
    rw [World.cell?_of_block (w := w) (by rw [hk]; exact hg.block b hs (by simp [hne]))]
    exact hc⟩

theorem step_append_bytes {w : World} {ops : Array Oper} {o : Oper} {a : Act} {K : Act → World → Prop} {Q : Exit → Act → World → Prop} {E : Prop} (hgw : Region.wanted o (yielded ops a.tmps) = true) (s x : Operand)
    (ho : o.op = .call { callee := .builtin .append, args := #[s, x], argTypes := #[215, 215] })
    (base g n cap : Nat) (xs l : List UInt8) (ao : Option Addr) (m c k : Nat) (T : List UInt8) (hs : a.eval s = .slice (some ⟨g, 0, none⟩) n cap) (hown : Own w base g n cap xs) (hx : a.eval x = .slice ao m c) (hm : l.length = m) (hl : Holds w ao c l)
    (hk : n + m = k) (hT : xs ++ l = T) (hb : k ≤ 140737488355328)
    (h : ∀ g' cap' w', Own w' base g' k cap' T → w.grownBy w' (some g) → K (a.put o.dst (.slice (some ⟨g', 0, none⟩) k cap')) w') :
    if Region.wanted o (yielded ops a.tmps) = true then Oper.wp Tryz.prog o a w K Q else E := by
  rw [if_pos hgw]
  obtain ⟨i0, hi, hz0, hz1, hz2⟩ := info_parts Tryz.infoU8
  subst hm hk hT
  cases ao with
  | none =>
    obtain ⟨rfl, rfl⟩ := hl.2.1 rfl
    have hrun := run_append_owned_none (P := Tryz.prog) (w := w) base 215 o.type 5 i0 1 Tryz.underlying215 hi _ n (cs xs) hown
    unfold Oper.wp
    simp [execOp, ho, resolve, invoke, builtin, hs, hx, hrun, Result.andThen]
    exact h g cap w (by simpa using hown) (grown_refl _ _)
  | some ad =>
    refine wp_append_own w s x 215 ho base 5 i0 (.int .u8 0) 1 1 Tryz.underlying215 hi hz0 hz1 hz2 rfl (by decide) _ n (cs xs) hs hown ad l.length c (cs l) hx (by rw [cs_length]; omega) (hl.2.2 ad rfl) (cs_one l) (by unfold maxLen; omega) (by omega) hown.base_le ?_
    intro v' w' ho' hg' hn'
    rcases ho'.2 with ⟨h0, _⟩ | ⟨g', cap', cur, hv, _⟩
    · have := (hn'.1 h0).1; cases this
    · subst hv
      exact h g' cap' w' (by unfold Own; rw [cs_append]; exact ho') hg'
end Go.Proofs.YtdehimbfcilhpaaGreatDoor

/-
  key: a text of its own for each literal and each list of values.
-/
namespace Go.Proofs.YtdehimbfcilhpaaGreatDoor
open Go.RowKit Go.Lib Go.Shelf

theorem cs_byteCells (l : List UInt8) : cs l = Lib.byteCells l := rfl
/-- the table of powers lies below B -/
def TabB (B : Nat) (w : World) : Prop := Lib.TabBelow Tryz.prog B w "internal/strconv.uint64pow10" .u64 Lib.pow10Tab
theorem TabB.on {B : Nat} {w w' : World} (h : TabB B w) (hb : Below B w w') : TabB B w' := Lib.TabBelow.on h hb
theorem own_some {w : World} {base n : Nat} {v : Value} {l : List UInt8} (h : w.ownsRow base 5 1 v n (cs l)) (hn : 0 < n) : ∃ g cap, v = .slice (some ⟨g, 0, none⟩) n cap := by
  rcases h.2 with ⟨_, h0⟩ | ⟨g, cap, cur, hv, _⟩
  · omega
  · exact ⟨g, cap, hv⟩
/-- blocks that hold no bytes stand -/
def NoU (w w' : World) : Prop := ∀ ty : TypeId, ty ≠ 5 → Safe ty w w'
theorem NoU.trans {a b c : World} (x : NoU a b) (y : NoU b c) : NoU a c := fun ty h => (x ty h).trans (y ty h)
theorem NoU.below {w w' : World} (h : Below w.heap.size w w') : NoU w w' := fun _ _ => Safe.below h
theorem appInt_at (base n : Nat) (v : Value) (l : List UInt8) (i : Int) (w : World) (h0 : -9223372036854775808 ≤ i) (h1 : i ≤ 9223372036854775807) (ho : w.ownsRow base 5 1 v n (cs l)) (hb : base ≤ w.heap.size) (hl : n + 21 ≤ 140737488355328) (ht : TabB base w) :
    Calls Tryz.prog 168 #[v, .int .i64 i, .int .i64 10] w fun e w' => ∃ v', e = .returned v' ∧ w'.ownsRow base 5 1 v' (n + (Lib.itoa i).length) (cs (l ++ Lib.itoa i)) ∧ Below base w w' ∧ NoU w w' := by
  refine (Any.strconv_AppendInt_10 Tryz.appIntLays base n i h0 h1 v (cs l) w ho hb hl ht).mono ?_
  rintro e w' ⟨v', rfl, o, b, k⟩
  exact ⟨v', rfl, by rw [cs_append]; exact o, b, fun ty hn k' cur hk => k k' _ hk (by simp) fun c fz e => by cases e; exact hn rfl⟩
theorem appBoolI_at (base g n cap : Nat) (l : List UInt8) (b : Bool) (w : World) (ho : Own w base g n cap l) (hl : n + 21 ≤ 140737488355328) :
    Calls Tryz.prog 186 #[.slice (some ⟨g, 0, none⟩) n cap, .bool b] w fun e w' => ∃ v', e = .returned v' ∧ w'.ownsRow base 5 1 v' (n + (Ml.bTx b).length) (cs (l ++ Ml.bTx b)) ∧ w.grownBy w' (some g) := by
  obtain ⟨i0, hi, hz0, hz1, hz2⟩ := info_parts Tryz.infoU8
  have hb := ho.base_le
  cases b with
  | true =>
    go_enter Tryz.func186, Tryz.ntmps186
    go_wp2_with (at_builtin; refine Lib.wpList_append_own_string _ rfl _ _ 215 9 rfl base 5 i0 Tryz.underlying215 Tryz.underlying9 hi hz0 hz1 hz2 _ _ _ rfl ho ⟨#[116, 114, 117, 101]⟩ rfl (show n + 4 ≤ maxLen by unfold maxLen; omega) (show n + 4 ≤ 140737488355328 by omega) hb ?_; intro v' w2 o2 g2 _)
    go_ret
    exact ⟨v', rfl, by rw [cs_append]; exact o2, g2⟩
  | false =>
    go_enter Tryz.func186, Tryz.ntmps186
    go_wp2_with (at_builtin; refine Lib.wpList_append_own_string _ rfl _ _ 215 9 rfl base 5 i0 Tryz.underlying215 Tryz.underlying9 hi hz0 hz1 hz2 _ _ _ rfl ho ⟨#[102, 97, 108, 115, 101]⟩ rfl (show n + 5 ≤ maxLen by unfold maxLen; omega) (show n + 5 ≤ 140737488355328 by omega) hb ?_; intro v' w2 o2 g2 _)
    go_ret
    exact ⟨v', rfl, by rw [cs_append]; exact o2, g2⟩
theorem grown_noU {w w' : World} {base g n cap : Nat} {l : List UInt8} (ho : Own w base g n cap l) (hg : w.grownBy w' (some g)) : NoU w w' := fun _ hn => Safe.grown (v := .slice (some ⟨g, 0, none⟩) n cap) ho hg hn
theorem appBool_at (base g n cap : Nat) (l : List UInt8) (b : Bool) (w : World) (ho : Own w base g n cap l) (hl : n + 21 ≤ 140737488355328) :
    Calls Tryz.prog 169 #[.slice (some ⟨g, 0, none⟩) n cap, .bool b] w fun e w' => ∃ v', e = .returned v' ∧ w'.ownsRow base 5 1 v' (n + (Ml.bTx b).length) (cs (l ++ Ml.bTx b)) ∧ Below base w w' ∧ NoU w w' := by
  have T := hideP (appBoolI_at base g n cap l b w ho hl)
  go_enter Tryz.func169, Tryz.ntmps169
  go_wp2_with fail
  refine T.out.mono ?_
  rintro e w' ⟨v', rfl, o, hg⟩
  go_wp2_with fail
  go_ret
  exact ⟨v', rfl, o, grown_below hg ho.parts.1 ho.base_le, grown_noU ho hg⟩
end Go.Proofs.YtdehimbfcilhpaaGreatDoor

/-
  Numbers in digits: no blanks, and numbers are told apart. No program in this text.
-/
namespace Go.Proofs.YtdehimbfcilhpaaGreatDoor
namespace Ml
open Lib (itoa decDigits)
def dig (n : Nat) : UInt8 := UInt8.ofNat (48 + n)
theorem decD_rec (u : Nat) (h : 10 ≤ u) : decDigits u = decDigits (u / 10) ++ [UInt8.ofNat (48 + u % 10)] := by
  rw [decDigits, dif_neg (by omega)]
theorem decD_small (u : Nat) (h : u < 10) : decDigits u = [UInt8.ofNat (48 + u)] := by
  rw [decDigits, dif_pos h]
theorem dig_val {n : Nat} (h : n < 10) : (UInt8.ofNat (48 + n)).toNat = 48 + n := by
  simp; omega
theorem decD_digits (u : Nat) : ∀ c ∈ decDigits u, 48 ≤ c.toNat ∧ c.toNat ≤ 57 := by
  induction u using Nat.strongRecOn with
  | _ u ih =>
    by_cases h : u < 10
    · rw [decD_small u h]
      intro c hc
      rw [List.mem_singleton] at hc; subst hc
      rw [dig_val h]; omega
    · rw [decD_rec u (by omega)]
      intro c hc
      rcases List.mem_append.1 hc with hc | hc
      · exact ih (u / 10) (by omega) c hc
      · rw [List.mem_singleton] at hc; subst hc
        rw [dig_val (Nat.mod_lt _ (by decide))]; omega
theorem decD_ne (u : Nat) : decDigits u ≠ [] := by
  by_cases h : u < 10
  · rw [decD_small u h]; simp
  · rw [decD_rec u (by omega)]; simp
theorem decD_inj (u : Nat) : ∀ v, decDigits u = decDigits v → u = v := by
  induction u using Nat.strongRecOn with
  | _ u ih =>
    intro v he
    by_cases hu : u < 10
    · rw [decD_small u hu] at he
      by_cases hv : v < 10
      · rw [decD_small v hv] at he
        have := congrArg (fun l : List UInt8 => (l.headD 0).toNat) he
        simp only [List.headD_cons, dig_val hu, dig_val hv] at this
        omega
      · rw [decD_rec v (by omega)] at he
        have := congrArg List.length he
        have h2 : 0 < (decDigits (v / 10)).length := List.length_pos_iff.2 (decD_ne _)
        simp only [List.length_append, List.length_cons, List.length_nil] at this
        omega
    · rw [decD_rec u (by omega)] at he
      by_cases hv : v < 10
      · rw [decD_small v hv] at he
        have := congrArg List.length he
        have h2 : 0 < (decDigits (u / 10)).length := List.length_pos_iff.2 (decD_ne _)
        simp only [List.length_append, List.length_cons, List.length_nil] at this
        omega
      · rw [decD_rec v (by omega)] at he
        obtain ⟨h1, h2⟩ := List.append_inj' he rfl
        have h3 := ih (u / 10) (by omega) _ h1
        simp only [List.cons.injEq, and_true] at h2
        have h4 := congrArg UInt8.toNat h2
        rw [dig_val (Nat.mod_lt _ (by decide)), dig_val (Nat.mod_lt _ (by decide))] at h4
        omega
theorem dec_itoa : Dec itoa := by
  refine ⟨fun n h => ?_, fun m n h => ?_⟩
  · have h32 : (32 : UInt8).toNat = 32 := rfl
    unfold itoa at h
    split at h
    · rcases List.mem_cons.1 h with h | h
      · cases h
      · have := decD_digits _ _ h; omega
    · have := decD_digits _ _ h; omega
  · have h45 : (45 : UInt8).toNat = 45 := rfl
    have no : ∀ (x : Nat) (l : List UInt8), decDigits x ≠ 45 :: l := fun x l he => by
      have := decD_digits x 45 (by rw [he]; exact List.mem_cons_self ..)
      omega
    unfold itoa at h
    split at h
    · split at h
      · simp only [List.cons.injEq, true_and] at h
        have := decD_inj _ _ h; omega
      · exact absurd h.symm (no _ _)
    · split at h
      · exact absurd h (no _ _)
      · have := decD_inj _ _ h; omega
end Ml
end Go.Proofs.YtdehimbfcilhpaaGreatDoor

/-
  key, walked.
-/
namespace Go.Proofs.YtdehimbfcilhpaaGreatDoor
open Go.RowKit Go.Lib Go.Shelf

structure OkB (b : Bd) : Prop where
  low : -9223372036854775808 ≤ b.2.n
  high : b.2.n ≤ 9223372036854775807
  len : b.2.s.length ≤ 1048576
theorem own_cast {w : World} {base n n' : Nat} {v : Value} {l l' : List UInt8} (h : w.ownsRow base 5 1 v n (cs l)) (hn : n = n') (hl : l = l') : w.ownsRow base 5 1 v n' (cs l') := by subst hn hl; exact h
theorem holds_one (w : World) (c : UInt8) : Holds (w.alloc (.cells #[.int .u8 (c.toNat : Int)] 5)) (some ⟨w.heap.size, 0, none⟩) 1 [c] :=
  ⟨by simp, (fun h => by cases h), fun ad ha j u hu => by
    cases ha
    rw [Addr.add_lit, heap_cell (heap_alloc_new w _), Nat.zero_add, ← Array.getElem?_toList]
    exact hu⟩

theorem step_append_string {w : World} {ops : Array Oper} {o : Oper} {a : Act} {K : Act → World → Prop} {Q : Exit → Act → World → Prop} {E : Prop} (hgw : Region.wanted o (yielded ops a.tmps) = true) (s x : Operand)
    (ho : o.op = .call { callee := .builtin .append, args := #[s, x], argTypes := #[215, 9] })
    (base g n cap : Nat) (xs l : List UInt8) (k : Nat) (T : List UInt8) (hs : a.eval s = .slice (some ⟨g, 0, none⟩) n cap) (hown : Own w base g n cap xs) (hx : a.eval x = str l)
    (hk : n + l.length = k) (hT : xs ++ l = T) (hb : k ≤ 140737488355328)
    (h : ∀ v' w', w'.ownsRow base 5 1 v' k (cs T) → w.grownBy w' (some g) → K (a.put o.dst v') w') :
    if Region.wanted o (yielded ops a.tmps) = true then Oper.wp Tryz.prog o a w K Q else E := by
  rw [if_pos hgw]
  obtain ⟨i0, hi, hz0, hz1, hz2⟩ := info_parts Tryz.infoU8
  subst hk hT
  have hsz : (⟨l.toArray⟩ : ByteArray).size = l.length := by simp [ByteArray.size]
  obtain ⟨v', w', hr, h2, h3, h4⟩ := Lib.run_append_own_string (P := Tryz.prog) w base 215 9 o.type 5 i0 Tryz.underlying215 Tryz.underlying9 hi hz0 hz1 hz2 _ n (cs xs) hown ⟨l.toArray⟩ (by rw [hsz]; unfold maxLen; omega) (by rw [hsz]; omega) hown.base_le
  have hx' : a.eval x = .string ⟨l.toArray⟩ := hx
  unfold Oper.wp
  simp [execOp, ho, resolve, invoke, builtin, hs, hx', hr, Result.andThen]
  exact h v' w' (by rw [hsz] at h2; rw [cs_append]; exact h2) h3

set_option maxRecDepth 100000 in
set_option maxHeartbeats 2000000 in
theorem key_at (k : Nat) (a : Option Addr) (c : Nat) (L : List Bd) (w : World) (h : Row bK w a c L) (hok : ∀ b ∈ L, OkB b) (hk : k ≤ 1000000) (hl : L.length ≤ 100000) (ht : TabB w.heap.size w) :
    Calls Tryz.prog 151 #[.int .i64 (k : Int), .slice a L.length c] w fun e w' => e = .returned (str (Ml.keyT Lib.itoa k L)) ∧ (Ml.keyT Lib.itoa k L).length ≤ 1000000000000 ∧ Below w.heap.size w w' := by
  have T0 := hideP (appInt_at w.heap.size 0 (.slice none 0 0) [] (k : Int) w (by omega) (by omega) (World.ownsRow_nil _ _ _ _) (Nat.le_refl _) (by omega) ht)
  have few := h.few
  have I0 := Lib.itoa_length_le (k : Int) (by omega) (by omega)
  have TB := Tryz.underlying99
  go_enter Tryz.func151, Tryz.ntmps151
  go_wp2_with fail
  refine T0.out.mono ?_
  rintro e w1 ⟨v1, rfl, o1, b1, _⟩
  have hpos : 0 < (Lib.itoa (k : Int)).length := by
    rw [Lib.itoa_nonneg]; exact List.length_pos_iff.2 (Ml.decD_ne k)
  obtain ⟨g1, cap1, rfl⟩ := own_some o1 (by omega)
  rw [Nat.zero_add, List.nil_append] at o1
  rw [Nat.zero_add]
  have o1' : Own w1 w.heap.size g1 (Lib.itoa (k : Int)).length cap1 (Ml.keyT Lib.itoa k (L.take 0)) := own_cast o1 rfl (by unfold Ml.keyT; simp)
  clear T0 o1
  generalize (Lib.itoa (k : Int)).length = n1 at *
  go_wp2_with fail
  go_loopw [5, 7, 12] (fun v5 _ v12 wr => ∃ (j g n cap : Nat), v12 = .int .i64 (j : Int) ∧ v5 = .slice (some ⟨g, 0, none⟩) n cap ∧ j ≤ L.length ∧ n ≤ 30 + j * 1048700 ∧ Own wr w.heap.size g n cap (Ml.keyT Lib.itoa k (L.take j)) ∧ Below w.heap.size w wr) (fun _ _ v12 _ => L.length - (intOf v12).toNat)
  case atStart => exact ⟨0, g1, n1, cap1, rfl, rfl, by omega, by omega, o1', b1⟩
  case round =>
    obtain ⟨j, g, n, cap, rfl, rfl, hj, hn, O, B⟩ := hrel
    by_cases hlt : j < L.length
    · have q0 : (j : Int) < (L.length : Int) := by omega
      have Rr := h.below B (Nat.le_refl _)
      obtain ⟨bb, o, rfl⟩ := Rr.addr (by omega)
      have rg : wr.rangeAt bb (o + j * 4) (bv (L[j]'hlt)) := Rr.range j hlt
      have ok := hok _ (List.getElem_mem hlt)
      have KT : Hid (Ml.keyT Lib.itoa k (L.take (j + 1)) = Ml.keyT Lib.itoa k (L.take j) ++ Ml.kTx Lib.itoa (L[j]'hlt)) := by
        show _ = _
        unfold Ml.keyT
        rw [List.take_succ_eq_append_getElem hlt, List.flatMap_append, ← List.append_assoc]
        simp
      generalize (L[j]'hlt) = b at *
      generalize Ml.keyT Lib.itoa k (L.take j) = l0 at *
      have ok1 := ok.low; have ok2 := ok.high; have ok3 := ok.len
      have I1 := Lib.itoa_length_le b.2.n ok1 ok2
      have I2 := Lib.itoa_length_le (b.2.s.length : Int) (by omega) (by omega)
      have I3 : (Ml.bTx b.2.num).length ≤ 5 := by cases b.2.num <;> decide
      have N1 := heap_alloc_new wr (.cells #[.string { data := #[] }, .bool false, .int .i64 0, .string { data := #[] }] 99)
      go_wp2_with (first
        | (refine wpList_load_mid rfl 99 _ rfl bb (o + j * 4) rfl (bv b) _ rg TB rfl iB4 ?_)
        | (refine wpList_store_all rfl 99 _ _ rfl wr.heap.size 4 _ 99 (bv b) rfl rfl N1 rfl rfl iB4 rfl ?_; intro w2 N2 b2; have B2 := below_tok b2))
      have W2 := Below.then B B2
      have O2 : Own w2 w.heap.size g n cap l0 := ownsRow_keep O (Safe.below B2)
      clear O N1 b2 rg Rr
      generalize wr.heap.size = R at *
      have gD := (Below.refl w2.heap.size w2).drew
      have N2d := below_heap gD N2
      have A3 : Below w2.heap.size w2 (w2.alloc (.cells #[.int .u8 32] 5)).drew := (below_alloc w2 (.cells #[.int .u8 32] 5)).drew
      have O3 : Own (w2.alloc (.cells #[.int .u8 32] 5)).drew w.heap.size g n cap l0 := ownsRow_keep O2 (Safe.below A3)
      have N3 := below_heap A3 N2
      have Hl : Holds (w2.alloc (.cells #[.int .u8 32] 5)).drew (some ⟨w2.heap.size, 0, none⟩) 1 [32] := holds_one w2 32
      have C1 : ∀ W : World, W.heap[R]? = some (.cells (bv b).toArray 99) → W.cell? ⟨R, 1, none⟩ = some (.bool b.2.num) := fun W h => by rw [heap_cell h]; rfl
      have HC1 := hideP C1
      clear C1
      go_region_held3 (fun W => W.cell? ⟨R, 1, none⟩ = some (.bool b.2.num)) (first | with_reducible exact HC1.out _ N5 | with_reducible exact HC1.out _ N4 | with_reducible exact HC1.out _ N3 | exact HC1.out _ N2d) (first
        | (refine step_append_bytes (by rfl) _ _ rfl w.heap.size g n cap l0 [32] (some ⟨w2.heap.size, 0, none⟩) 1 1 (n + 1) (l0 ++ [32]) rfl O3 rfl rfl Hl rfl rfl (by omega) ?_; intro g4 cap4 w4 O4 G4; have N4 := grown_noU O3 G4 _ (by decide) _ _ N3; have B4 := grown_below G4 O3.parts.1 O3.base_le)
        | (go_at_call 169; refine (appBool_at w.heap.size g4 (n + 1) cap4 _ _ w4 O4 (by omega)).mono ?_; rintro e w5 ⟨v5, rfl, o5, b5, k5⟩; have N5 := k5 _ (by decide) _ _ N4))
      obtain ⟨g5, cap5, rfl⟩ := own_some o5 (by omega)
      have W5 : Below w.heap.size w w5 := ((W2.trans (A3.mono W2.size)).trans B4).trans b5
      obtain ⟨n5, hn5⟩ : ∃ n5, n + 1 + (Ml.bTx b.2.num).length = n5 := ⟨_, rfl⟩
      rw [hn5] at o5 ⊢
      have q5 : n5 ≤ n + 6 := by omega
      have O5 : Own w5 w.heap.size g5 n5 cap5 (l0 ++ [32] ++ Ml.bTx b.2.num) := o5
      clear O2 O3 O4 o5 G4 N2 N2d N3 N4 Hl A3 B4 b5 k5 gD HC1 hn5
      obtain ⟨l5, hl5⟩ : ∃ l5, l0 ++ [32] ++ Ml.bTx b.2.num = l5 := ⟨_, rfl⟩
      rw [hl5] at O5
      have HL5 := hideP hl5
      clear hl5
      go_wp2_with fail
      have A6 : Below w5.heap.size w5 (w5.alloc (.cells #[.int .u8 32] 5)).drew := (below_alloc w5 (.cells #[.int .u8 32] 5)).drew
      have N5d := below_heap ((Below.refl w5.heap.size w5).drew) N5
      have O6 : Own (w5.alloc (.cells #[.int .u8 32] 5)).drew w.heap.size g5 n5 cap5 l5 := ownsRow_keep O5 (Safe.below A6)
      have N6 := below_heap A6 N5
      have Hl6 : Holds (w5.alloc (.cells #[.int .u8 32] 5)).drew (some ⟨w5.heap.size, 0, none⟩) 1 [32] := holds_one w5 32
      have HC2 : Hid (∀ W : World, W.heap[R]? = some (.cells (bv b).toArray 99) → W.cell? ⟨R, 2, none⟩ = some (.int .i64 b.2.n)) := fun W h => by rw [heap_cell h]; rfl
      go_region_held3 (fun W => W.cell? ⟨R, 2, none⟩ = some (.int .i64 b.2.n)) (first | with_reducible exact HC2.out _ N8 | with_reducible exact HC2.out _ N7 | with_reducible exact HC2.out _ N6 | exact HC2.out _ N5d) (first
        | (refine step_append_bytes (by rfl) _ _ rfl w.heap.size g5 n5 cap5 l5 [32] (some ⟨w5.heap.size, 0, none⟩) 1 1 (n5 + 1) (l5 ++ [32]) rfl O6 rfl rfl Hl6 rfl rfl (by omega) ?_; intro g7 cap7 w7 O7 G7; have N7 := grown_noU O6 G7 _ (by decide) _ _ N6; have B7 := grown_below G7 O6.parts.1 O6.base_le; have T7 := ht.on (((W5.trans (A6.mono W5.size)).trans B7)))
        | (go_at_call 168; refine (appInt_at w.heap.size (n5 + 1) _ _ b.2.n w7 ok1 ok2 O7 O7.base_le (by omega) T7).mono ?_; rintro e w8 ⟨v8, rfl, o8, b8, k8⟩; have N8 := k8 _ (by decide) _ _ N7))
      obtain ⟨g8, cap8, rfl⟩ := own_some o8 (by omega)
      have W8 : Below w.heap.size w w8 := ((W5.trans (A6.mono W5.size)).trans B7).trans b8
      obtain ⟨n8, hn8⟩ : ∃ n8, n5 + 1 + (Lib.itoa b.2.n).length = n8 := ⟨_, rfl⟩
      rw [hn8] at o8 ⊢
      have q8 : n8 ≤ n5 + 22 := by omega
      have O8 : Own w8 w.heap.size g8 n8 cap8 (l5 ++ [32] ++ Lib.itoa b.2.n) := o8
      clear O5 O6 O7 o8 G7 N5 N5d N6 N7 Hl6 A6 B7 b8 k8 HC2 hn8 T7
      obtain ⟨l8, hl8⟩ : ∃ l8, l5 ++ [32] ++ Lib.itoa b.2.n = l8 := ⟨_, rfl⟩
      rw [hl8] at O8
      have HL8 := hideP hl8
      clear hl8
      go_wp2_with fail
      have A9 : Below w8.heap.size w8 (w8.alloc (.cells #[.int .u8 32] 5)).drew := (below_alloc w8 (.cells #[.int .u8 32] 5)).drew
      have N8d := below_heap ((Below.refl w8.heap.size w8).drew) N8
      have O9 : Own (w8.alloc (.cells #[.int .u8 32] 5)).drew w.heap.size g8 n8 cap8 l8 := ownsRow_keep O8 (Safe.below A9)
      have N9 := below_heap A9 N8
      have Hl9 : Holds (w8.alloc (.cells #[.int .u8 32] 5)).drew (some ⟨w8.heap.size, 0, none⟩) 1 [32] := holds_one w8 32
      have HC3 : Hid (∀ W : World, W.heap[R]? = some (.cells (bv b).toArray 99) → W.cell? ⟨R, 3, none⟩ = some (str b.2.s)) := fun W h => by rw [heap_cell h]; rfl
      have hsz := str_size b.2.s
      go_region_held3 (fun W => W.cell? ⟨R, 3, none⟩ = some (str b.2.s)) (first | with_reducible exact HC3.out _ N11 | with_reducible exact HC3.out _ N10 | with_reducible exact HC3.out _ N9 | exact HC3.out _ N8d) (first
        | (refine step_append_bytes (by rfl) _ _ rfl w.heap.size g8 n8 cap8 l8 [32] (some ⟨w8.heap.size, 0, none⟩) 1 1 (n8 + 1) (l8 ++ [32]) rfl O9 rfl rfl Hl9 rfl rfl (by omega) ?_; intro g10 cap10 w10 O10 G10; have N10 := grown_noU O9 G10 _ (by decide) _ _ N9; have B10 := grown_below G10 O9.parts.1 O9.base_le; have T10 := ht.on (((W8.trans (A9.mono W8.size)).trans B10)))
        | (go_at_call 168; refine (appInt_at w.heap.size (n8 + 1) _ _ (b.2.s.length : Int) w10 (by omega) (by omega) O10 O10.base_le (by omega) T10).mono ?_; rintro e w11 ⟨v11, rfl, o11, b11, k11⟩; have N11 := k11 _ (by decide) _ _ N10))
      obtain ⟨g11, cap11, rfl⟩ := own_some o11 (by omega)
      have W11 : Below w.heap.size w w11 := ((W8.trans (A9.mono W8.size)).trans B10).trans b11
      obtain ⟨n11, hn11⟩ : ∃ n11, n8 + 1 + (Lib.itoa (b.2.s.length : Int)).length = n11 := ⟨_, rfl⟩
      rw [hn11] at o11 ⊢
      have q11 : n11 ≤ n8 + 22 := by omega
      have O11 : Own w11 w.heap.size g11 n11 cap11 (l8 ++ [32] ++ Lib.itoa (b.2.s.length : Int)) := o11
      clear O8 O9 O10 o11 G10 N8 N8d N9 N10 Hl9 A9 B10 b11 k11 hn11 T10
      obtain ⟨l11, hl11⟩ : ∃ l11, l8 ++ [32] ++ Lib.itoa (b.2.s.length : Int) = l11 := ⟨_, rfl⟩
      rw [hl11] at O11
      have HL11 := hideP hl11
      clear hl11
      go_wp2_with fail
      have A12 : Below w11.heap.size w11 (w11.alloc (.cells #[.int .u8 32] 5)).drew := (below_alloc w11 (.cells #[.int .u8 32] 5)).drew
      have N11d := below_heap ((Below.refl w11.heap.size w11).drew) N11
      have O12 : Own (w11.alloc (.cells #[.int .u8 32] 5)).drew w.heap.size g11 n11 cap11 l11 := ownsRow_keep O11 (Safe.below A12)
      have N12 := below_heap A12 N11
      have Hl12 : Holds (w11.alloc (.cells #[.int .u8 32] 5)).drew (some ⟨w11.heap.size, 0, none⟩) 1 [32] := holds_one w11 32
      go_region_held3 (fun W => W.cell? ⟨R, 3, none⟩ = some (str b.2.s)) (first | with_reducible exact HC3.out _ N14 | with_reducible exact HC3.out _ N13 | with_reducible exact HC3.out _ N12 | exact HC3.out _ N11d) (first
        | (refine step_append_bytes (by rfl) _ _ rfl w.heap.size g11 n11 cap11 l11 [32] (some ⟨w11.heap.size, 0, none⟩) 1 1 (n11 + 1) (l11 ++ [32]) rfl O12 rfl rfl Hl12 rfl rfl (by omega) ?_; intro g13 cap13 w13 O13 G13; have N13 := grown_noU O12 G13 _ (by decide) _ _ N12; have B13 := grown_below G13 O12.parts.1 O12.base_le)
        | (refine step_append_string (by rfl) _ _ rfl w.heap.size g13 (n11 + 1) cap13 (l11 ++ [32]) b.2.s (n11 + 1 + b.2.s.length) (l11 ++ [32] ++ b.2.s) rfl O13 rfl rfl rfl (by omega) ?_; intro v14 w14 o14 G14; have N14 := grown_noU O13 G14 _ (by decide) _ _ N13; have B14 := grown_below G14 O13.parts.1 O13.base_le))
      obtain ⟨g14, cap14, rfl⟩ := own_some o14 (by omega)
      have W14 : Below w.heap.size w w14 := ((W11.trans (A12.mono W11.size)).trans B13).trans B14
      have O15 : Own w14 w.heap.size g14 (n11 + 1 + b.2.s.length) cap14 (Ml.keyT Lib.itoa k (L.take (j + 1))) := own_cast o14 rfl (by
        rw [KT.out, ← HL11.out, ← HL8.out, ← HL5.out]
        unfold Ml.kTx
        simp)
      clear o14 O13 O12 O11 G13 G14
      go_wp2_with fail
      go_roundw
      case rel => exact ⟨j + 1, g14, _, cap14, rfl, rfl, hlt, by omega, O15, W14⟩
      case measure => simp [intOf]; omega
    · have q0 : ¬ (j : Int) < (L.length : Int) := by omega
      obtain rfl : j = L.length := by omega
      rw [List.take_length] at O
      have OL := O.len
      have OH := O.holds
      obtain ⟨l0, hl0⟩ : ∃ l0, Ml.keyT Lib.itoa k L = l0 := ⟨_, rfl⟩
      rw [hl0] at O OL OH
      have HL0 := hideP hl0
      clear hl0
      subst OL
      have CV := conv OH
      have hln : l0.length ≤ 1000000000000 := by omega
      have HLN := hideP hln
      clear hln
      go_wp2_with fail
      go_ret
      rw [HL0.out]
      exact ⟨rfl, HLN.out, B⟩
end Go.Proofs.YtdehimbfcilhpaaGreatDoor

/-
  The walk in memory; the closure that tells what is no more asked; the texts of what the walk came to.
-/
namespace Go.Proofs.YtdehimbfcilhpaaGreatDoor
open Go.RowKit Go.Lib Go.Shelf
open Go.Maps (Keyed)

/-- WHAT THE WALK CAME TO, in the world w: block bm has just these texts; at most n entries -/
structure MetAt (w : World) (bm : Nat) (L : List (List UInt8)) : Prop where
  has : ∃ D : DataW Unit, w.ownsMap Tryz.prog 9 unitElem bm L.length D ∧ ∀ p : List UInt8, p.length ≤ maxLen → Maps.has D (.string p) = decide (p ∈ L)
theorem MetAt.map {w : World} {bm : Nat} {L : List (List UInt8)} (h : MetAt w bm L) : ∃ es clock, w.heap[bm]? = some (.map es clock) := by
  obtain ⟨D, ⟨es, clock, hb, _⟩, _⟩ := h.has
  exact ⟨es, clock, hb⟩
theorem MetAt.block {w w' : World} {bm : Nat} {L : List (List UInt8)} (h : MetAt w bm L) (hb : w'.heap[bm]? = w.heap[bm]?) : MetAt w' bm L := by
  obtain ⟨D, ⟨es, clock, h1, h2⟩, h3⟩ := h.has
  exact ⟨D, ⟨es, clock, hb.trans h1, h2⟩, h3⟩
theorem MetAt.lt {w : World} {bm : Nat} {L : List (List UInt8)} (h : MetAt w bm L) : bm < w.heap.size := by
  obtain ⟨es, clock, h⟩ := h.map
  exact heap_lt h
theorem MetAt.next {w w' : World} {bm : Nat} {L : List (List UInt8)} (h : MetAt w bm L) (hb : Below w.heap.size w w') : MetAt w' bm L := h.block (hb.block bm h.lt)
theorem met_new (w : World) : MetAt (w.alloc (.map #[] 0)) w.heap.size [] :=
  ⟨.map [], World.ownsMap_made w _ _ _, fun p _ => by simp [Maps.has]⟩
theorem MetAt.look {w : World} {bm : Nat} {L : List (List UInt8)} (h : MetAt w bm L) (p : List UInt8) (hp : p.length ≤ maxLen) :
    (Instr.lookup 134 (.map (some bm)) (str p) true).run Tryz.prog w = .ok (.tuple #[.agg #[], .bool (decide (p ∈ L))]) w := by
  obtain ⟨D, ho, hd⟩ := h.has
  have hz : (zeroValue 201).run Tryz.prog w = .ok (.agg #[]) w := by kernel_rfl
  obtain ⟨v, ps, hr, hv⟩ := ho.look_ok Tryz.lawStr Tryz.underlying134 hz (zd := .agg []) (zp := []) unitElem_mk (key_str p hp)
  obtain ⟨rfl, _⟩ := unitElem_inv hv
  rw [hr, hd p hp]
theorem MetAt.put {w : World} {bm : Nat} {L : List (List UInt8)} (h : MetAt w bm L) (p : List UInt8) (hp : p.length ≤ maxLen) (hL : L.length < 1000000) :
    ∃ w', (Instr.mapUpdate 134 (.map (some bm)) (str p) (.agg #[])).run Tryz.prog w = .ok () w' ∧ MetAt w' bm (L ++ [p]) ∧ But bm w w' := by
  obtain ⟨D, ho, hd⟩ := h.has
  obtain ⟨w', hr, ho', hg⟩ := ho.update Tryz.lawStr Tryz.underlying134 (by unfold maxLen; omega) (key_str p hp) unitElem_mk
  have hk : WideAt.IsKeyLit (.string p) := Tryz.lawStr.key (key_str p hp)
  refine ⟨w', hr, ⟨_, by simpa using ho', fun q hq => ?_⟩, ⟨hg.os, hg.tape, hg.output, hg.size, fun k hk hn => hg.block k hk (by simpa using hn)⟩⟩
  by_cases e : q = p
  · subst e
    rw [Maps.has_put_same ho.isMap hk]; simp
  · rw [Maps.has_put_other (fun he => e (by cases he; rfl)), hd q hq]
    simp [e]

/-- A WALK in memory: its record -/
structure Wv where
  r : Rv
  fa : Option Addr
  fc : Nat
  zs : List Fv
  bs : Nat
  na : Option Addr
  nc : Nat
  nvs : List Nv
  bt : Nat
abbrev Wv.cells (x : Wv) : Array Value := #[str x.r.home.v, .bool x.r.home.k.num, .int .i64 x.r.home.k.n, str x.r.home.k.s, str x.r.pred, .slice x.r.a x.r.args.length x.r.cap, str x.r.to_.v, .bool x.r.to_.k.num, .int .i64 x.r.to_.k.n, str x.r.to_.k.s, .slice x.r.ba x.r.body.length x.r.bcap, .slice x.fa x.zs.length x.fc, .map (some x.bs), .slice x.na x.nvs.length x.nc, .map (some x.bt)]
def Wv.list (x : Wv) : List Value := [str x.r.home.v, .bool x.r.home.k.num, .int .i64 x.r.home.k.n, str x.r.home.k.s, str x.r.pred, .slice x.r.a x.r.args.length x.r.cap, str x.r.to_.v, .bool x.r.to_.k.num, .int .i64 x.r.to_.k.n, str x.r.to_.k.s, .slice x.r.ba x.r.body.length x.r.bcap, .slice x.fa x.zs.length x.fc, .map (some x.bs), .slice x.na x.nvs.length x.nc, .map (some x.bt)]
abbrev Wv.val (x : Wv) : Value := .agg x.cells

set_option maxRecDepth 100000 in
theorem doneC_at (b : Bd) (x : Wv) (S T k n : Nat) (f : Ml.SpF) (w : World) (hs : w.heap[S]? = some (.cells x.cells 136)) (hk : w.heap[T]? = some (.cells #[.int .i64 (k : Int)] 3)) (SP : SpansAt w x.bs f n) (hb : b.1.length ≤ maxLen) :
    Calls Tryz.prog 149 #[bval b, ptr S, ptr T] w fun e w' => e = .returned (.bool (decide (Ml.laOf f b.1 ≤ k))) ∧ Below w.heap.size w w' := by
  obtain ⟨v, ⟨nm, n, s⟩⟩ := b
  simp only at hb
  have A0 := below_alloc w (.cells #[str v, .bool nm, .int .i64 n, str s] 99)
  have n0 := heap_alloc_new w (.cells #[str v, .bool nm, .int .i64 n, str s] 99)
  have s0 := below_heap A0 hs
  have k0 := below_heap A0 hk
  have L0 := (SP.next A0).look1 v hb
  have HR : Hid (decide (Ml.laOf f v ≤ k) = decide ((((f v).getD (0, 0)).2 : Int) ≤ (k : Int))) := by
    show _ = _
    unfold Ml.laOf
    simp
  generalize (f v).getD (0, 0) = y at *
  generalize hW : w.alloc (.cells #[str v, .bool nm, .int .i64 n, str s] 99) = W at *
  have c0 : W.cell? ⟨S, 12, none⟩ = some (.map (some x.bs)) := by rw [heap_cell s0]; rfl
  have c1 : W.cell? ⟨T, 0, none⟩ = some (.int .i64 (k : Int)) := by rw [heap_cell k0]; rfl
  have c2 : W.cell? ⟨w.heap.size, 0, none⟩ = some (str v) := by rw [heap_cell n0]; rfl
  have FD : ∀ W, (Instr.field 159 (spv y) 1).run Tryz.prog W = .ok (.int .i64 (y.2 : Int)) W := fun W => by kernel_rfl
  clear s0 k0 n0 hs hk
  go_enter Tryz.func149, Tryz.ntmps149
  go_wp2_with fail
  go_ret
  exact ⟨ret_bool (by rw [HR.out]; simp), A0⟩
theorem done_fn (x : Wv) (S T k n : Nat) (f : Ml.SpF) (w : World) (hs : w.heap[S]? = some (.cells x.cells 136)) (hk : w.heap[T]? = some (.cells #[.int .i64 (k : Int)] 3)) (SP : SpansAt w x.bs f n) :
    FnB 149 #[ptr S, ptr T] (fun b => decide (Ml.laOf f b.1 ≤ k)) (fun b => b.1.length ≤ maxLen) w :=
  ⟨enters_of Tryz.func149 (by kernel_rfl) rfl, fun b W hb hW => by
    obtain ⟨es, ck, hm⟩ := SP.map
    exact doneC_at b x S T k n f W (hW _ _ hs fun c z e => by cases e) (hW _ _ hk fun c z e => by cases e) (SP.block (by rw [hm]; exact hW _ _ hm fun c z e => by cases e)) hb⟩
end Go.Proofs.YtdehimbfcilhpaaGreatDoor
