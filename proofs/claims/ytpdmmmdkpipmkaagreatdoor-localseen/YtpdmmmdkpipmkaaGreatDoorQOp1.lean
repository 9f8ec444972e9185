/-
  Rows that lay there ahead of a call, or lie in blocks of their own type: what stands where blocks of other types turn.
-/
import Derived.WalkKit
import Derived.ProofKit
import Derived.OpenShut
import Derived.ShutString
import Derived.ChangeOld
import Derived.Below
import Derived.WalkSpells
import Derived.WalkLawsBesides
import Derived.Deep.AppendSrc
import Derived.Deep.DeepAppendRoom
import Derived.Laws.IdiomStrings
import Derived.Laws.AppendOwnNone
import Derived.Laws.Cover1
import Derived.Sort.Grow
import Derived.Deep.MidRow
import Derived.KernelRfl
import Derived.WalkMore
import Derived.Shelf.Abstract
import Derived.Deep.QuietTactic
import Derived.BigQuiet
import Derived.Deep.LoopGhost
import Derived.Laws.StructEq
import Derived.Lib.AtoiAllCases
import Derived.Lib.ItoaMem
import Derived.Great.BuildSlice
import Derived.Defers
import Derived.Recover
import Derived.OwnWalk
import Derived.Deep.Cut
import Derived.StillTailTactics
import Derived.Deep.RegionLaw
import Derived.Test.YtpdmmmdkpipmkaaGreatDoorQTv
import Derived.Test.YtpdmmmdkpipmkaaGreatDoorQPe
import Derived.Test.YtpdmmmdkpipmkaaGreatDoorQKm
import Derived.Test.YtpdmmmdkpipmkaaGreatDoorQMm8
namespace Go.Proofs.YtpdmmmdkpipmkaaGreatDoor
open Go.RowKit Go.Sort

structure RowO {α : Type} (D : Kd α) (m : Nat) (ty : TypeId) (w : World) (a : Option Addr) (cap : Nat) (xs : List α) : Prop where
  row : Row D w a cap xs
  tag : ∀ ad, a = some ad → xs = [] ∨ ad.block < m ∨ ∃ cur : Array Value, w.heap[ad.block]? = some (.cells cur ty)
theorem RowT.o {α : Type} {D : Kd α} {ty : TypeId} {w : World} {a : Option Addr} {c : Nat} {xs : List α} (h : RowT D ty w a c xs) (m : Nat) : RowO D m ty w a c xs := ⟨h.row, fun ad ha => .inr (.inr (h.tag ad ha))⟩
theorem Row.o {α : Type} {D : Kd α} {w : World} {a : Option Addr} {c : Nat} {xs : List α} (h : Row D w a c xs) (ty : TypeId) : RowO D w.heap.size ty w a c xs := ⟨h, fun ad ha => by
  cases xs with
  | nil => exact .inl rfl
  | cons x r =>
    obtain ⟨b, o, rfl⟩ := h.addr (Nat.zero_lt_succ _)
    cases ha
    exact .inr (.inl (h.lt (Nat.zero_lt_succ _)))⟩
theorem RowO.mono {α : Type} {D : Kd α} {m m' : Nat} {ty : TypeId} {w : World} {a : Option Addr} {c : Nat} {xs : List α} (h : RowO D m ty w a c xs) (hm : m ≤ m') : RowO D m' ty w a c xs := ⟨h.row, fun ad ha => (h.tag ad ha).imp id (Or.imp (fun h => Nat.lt_of_lt_of_le h hm) id)⟩
theorem RowO.safe {α : Type} {D : Kd α} {m : Nat} {ty : TypeId} {w w' : World} {a : Option Addr} {c : Nat} {xs : List α} (h : RowO D m ty w a c xs) (b : Below m w w') (s : Safe ty w w') : RowO D m ty w' a c xs :=
  ⟨⟨h.row.room, h.row.few, h.row.void, fun ad ha j u hu => by
      rw [← h.row.cells ad ha j u hu]
      refine World.cell?_of_block (w := w) ?_
      rw [addr_add_block]
      rcases h.tag ad ha with rfl | hb | ⟨cur, hc⟩
      · simp at hu
      · exact b.block _ hb
      · rw [s _ _ hc, hc]⟩, fun ad ha => by
    rcases h.tag ad ha with h0 | hb | ⟨cur, hc⟩
    · exact .inl h0
    · exact .inr (.inl hb)
    · exact .inr (.inr ⟨cur, s _ _ hc⟩)⟩
def Lv.Ao (m : Nat) (w : World) (x : Lv) : Prop := RowO tK m 44 w x.a x.cap x.args
structure Rv.Ao (m : Nat) (w : World) (x : Rv) : Prop where
  args : RowO tK m 44 w x.a x.cap x.args
  body : RowO lK m 52 w x.ba x.bcap x.body
  each : ∀ l ∈ x.body, Lv.Ao m w l
theorem Lv.Ao.aw {m : Nat} {w : World} {x : Lv} (h : Lv.Ao m w x) : Lv.Aw w x := RowO.row h
theorem Rv.Ao.aw {m : Nat} {w : World} {x : Rv} (h : Rv.Ao m w x) : Rv.Aw w x := ⟨h.args.row, h.body.row, fun l hl => Lv.Ao.aw (h.each l hl)⟩
theorem Lv.Aw.ao {w : World} {x : Lv} (h : Lv.Aw w x) : Lv.Ao w.heap.size w x := Row.o h _
theorem Rv.Aw.ao {w : World} {x : Rv} (h : Rv.Aw w x) : Rv.Ao w.heap.size w x := ⟨h.args.o _, h.body.o _, fun l hl => Lv.Aw.ao (h.each l hl)⟩
theorem Lv.Ao.mono {m m' : Nat} {w : World} {x : Lv} (h : Lv.Ao m w x) (hm : m ≤ m') : Lv.Ao m' w x := RowO.mono h hm
theorem Rv.Ao.mono {m m' : Nat} {w : World} {x : Rv} (h : Rv.Ao m w x) (hm : m ≤ m') : Rv.Ao m' w x := ⟨h.args.mono hm, h.body.mono hm, fun l hl => (h.each l hl).mono hm⟩
theorem Lv.Ao.safe {m : Nat} {w w' : World} {x : Lv} (h : Lv.Ao m w x) (b : Below m w w') (s : Safe 44 w w') : Lv.Ao m w' x := RowO.safe h b s
/-- what lay below m, and blocks of terms and of literals, are as they were -/
structure Kq (m : Nat) (w w' : World) : Prop where
  low : Below m w w'
  tm : Safe 44 w w'
  lt : Safe 52 w w'
theorem Kq.refl (m : Nat) (w : World) : Kq m w w := ⟨Below.refl _ _, Safe.refl _ _, Safe.refl _ _⟩
theorem Kq.trans {m : Nat} {a b c : World} (x : Kq m a b) (y : Kq m b c) : Kq m a c := ⟨x.low.trans y.low, x.tm.trans y.tm, x.lt.trans y.lt⟩
theorem Kq.below {m : Nat} {w w' : World} (h : Below w.heap.size w w') (hm : m ≤ w.heap.size) : Kq m w w' := ⟨h.mono hm, Safe.below h, Safe.below h⟩
theorem Kq.mono {m m' : Nat} {a b : World} (x : Kq m' a b) (h : m ≤ m') : Kq m a b := ⟨x.low.mono h, x.tm, x.lt⟩
theorem Rv.Ao.safe {m : Nat} {w w' : World} {x : Rv} (h : Rv.Ao m w x) (k : Kq m w w') : Rv.Ao m w' x := ⟨h.args.safe k.low k.tm, h.body.safe k.low k.lt, fun l hl => (h.each l hl).safe k.low k.tm⟩
/-- a row of rules grew -/
theorem Kq.rules {m base k n : Nat} {w w' : World} {v : Value} {xs : List Value} (hown : w.ownsRow base 48 k v n xs) (hg : w.grownBy w' v.ownBlock) (hm : m ≤ base) (hb : base ≤ w.heap.size) : Kq m w w' :=
  ⟨(own_below hown hg hb).mono hm, Safe.grown hown hg (by decide), Safe.grown hown hg (by decide)⟩
/-- a row of literals grew that was made behind w1 -/
theorem Kq.lits {m k n : Nat} {w1 w w' : World} {v : Value} {xs : List Value} (x : Kq m w1 w) (hown : w.ownsRow w1.heap.size 52 k v n xs) (hg : w.grownBy w' v.ownBlock) (hm : m ≤ w1.heap.size) (hb : w1.heap.size ≤ w.heap.size) : Kq m w1 w' := by
  have B := own_below hown hg hb
  exact ⟨x.low.trans (B.mono hm), x.tm.trans (Safe.grown hown hg (by decide)), fun j cur hj => by
    rw [B.block j (heap_lt hj)]; exact x.lt j cur hj⟩
/-- a row that was made by one literal of it -/
theorem owns_lit {α : Type} (D : Kd α) (w : World) (ty : TypeId) (C : Array Value) (xs : List α) (h : C.toList = xs.flatMap D.enc) (hn : xs.length ≤ 1000) : (w.alloc (.cells C ty)).ownsRow w.heap.size ty D.k (.slice (some ⟨w.heap.size, 0, none⟩) xs.length xs.length) xs.length (xs.flatMap D.enc) :=
  ⟨flat_len D.enc D.k D.len xs, .inr ⟨w.heap.size, xs.length, C, rfl, Nat.le_refl _, heap_alloc_new w _, Nat.le_refl _, by unfold maxLen; omega, by rw [← Array.length_toList, h, flat_len D.enc D.k D.len], by rw [h, List.take_of_length_le (by rw [flat_len D.enc D.k D.len]; exact Nat.le_refl _)]⟩⟩
end Go.Proofs.YtpdmmmdkpipmkaaGreatDoor

/-
  Rows of texts: the reference's Has.
-/
namespace Go.Proofs.YtpdmmmdkpipmkaaGreatDoor
open Go.RowKit Go.Lib Go.Shelf

def sK : Kd (List UInt8) := ⟨fun s => [str s], 1, fun _ => rfl, fun _ => rfl, by decide⟩
theorem Row.take {α : Type} {D : Kd α} {w : World} {a : Option Addr} {cap : Nat} {xs : List α} (h : Row D w a cap xs) (k : Nat) : Row D w a cap (xs.take k) := by
  refine ⟨Nat.le_trans (by simp; omega) h.room, Nat.le_trans (by simp; omega) h.few, fun ha => ?_, fun ad ha j u hu => h.cells ad ha j u ?_⟩
  · obtain ⟨rfl, hc⟩ := h.void ha
    exact ⟨by simp, hc⟩
  · have e : xs.flatMap D.enc = (xs.take k).flatMap D.enc ++ (xs.drop k).flatMap D.enc := by rw [← List.flatMap_append, List.take_append_drop]
    rw [e, List.getElem?_append_left (List.getElem?_eq_some_iff.1 hu).1]
    exact hu
theorem Row.text {w : World} {b o cap : Nat} {N : List (List UInt8)} (h : Row sK w (some ⟨b, o, none⟩) cap N) (k : Nat) (hk : k < N.length) : w.cell? ⟨b, o + k, none⟩ = some (str N[k]) := by
  have := h.range k hk 0 (str N[k]) rfl
  rwa [show sK.k = 1 from rfl, Nat.mul_one, Nat.add_zero] at this

set_option maxRecDepth 100000 in
set_option maxHeartbeats 800000 in
theorem rhas_at (w : World) (a : Option Addr) (c : Nat) (N : List (List UInt8)) (s : List UInt8) (h : Row sK w a c N) :
    Calls Tryz.prog 85 #[.slice a N.length c, str s] w fun e w' => e = .returned (.bool (decide (s ∈ N))) ∧ w = w' := by
  have few := h.few
  go_enter Tryz.func85, Tryz.ntmps85
  go_wp2_with fail
  go_loopw [5] (fun v wr => ∃ k : Nat, v = .int .i64 (k : Int) ∧ k ≤ N.length ∧ Hid (s ∉ N.take k) ∧ w = wr) (fun v _ => N.length - (RowKit.intOf v).toNat)
  case atStart => exact ⟨0, rfl, by omega, hideP (by simp), rfl⟩
  case round =>
    obtain ⟨k, rfl, hk, hno, rfl⟩ := hrel
    by_cases hlt : k < N.length
    · have q0 : (k : Int) < (N.length : Int) := by omega
      obtain ⟨b, o, rfl⟩ := h.addr (by omega)
      have c1 := h.text k hlt
      by_cases hq : N[k] = s
      · have q1 : (N[k] == s) = true := by simpa using hq
        have hm := hideP (show decide (s ∈ N) = true by simpa using hq ▸ List.getElem_mem hlt)
        clear hq
        go_wp2_with fail
        go_ret
        exact ⟨ret_bool hm.out.symm, rfl⟩
      · have q1 : (N[k] == s) = false := by simpa using hq
        have HN : Hid (s ∉ N.take (k + 1)) := hideP (by
          rw [← List.take_append_getElem hlt]
          simp only [List.mem_append, List.mem_singleton, not_or]
          exact ⟨hno.out, fun h => hq h.symm⟩)
        clear hq
        go_wp2_with fail
        exact ⟨⟨k + 1, by go_num, hlt, HN, by first | rfl | trivial⟩, by simp [RowKit.intOf]; omega⟩
    · have q0 : ¬ (k : Int) < (N.length : Int) := by omega
      obtain rfl : k = N.length := by omega
      have hno' := hno.out
      rw [List.take_length] at hno'
      have HN : Hid (decide (s ∈ N) = false) := by
        show _ = _
        simpa using hno'
      clear hno'
      go_wp2_with fail
      go_ret
      exact ⟨ret_bool HN.out.symm, rfl⟩
end Go.Proofs.YtpdmmmdkpipmkaaGreatDoor

/-
  Rows of texts: the library's Index and Contains, the reference's Texts of like lists.
-/
namespace Go.Proofs.YtpdmmmdkpipmkaaGreatDoor
open Go.RowKit Go.Lib Go.Shelf

set_option maxRecDepth 100000 in
set_option maxHeartbeats 800000 in
theorem index_at (w : World) (a : Option Addr) (c : Nat) (N : List (List UInt8)) (s : List UInt8) (h : Row sK w a c N) :
    Calls Tryz.prog 151 #[.slice a N.length c, str s] w fun e w' => ∃ i : Int, e = .returned (.int .i64 i) ∧ (0 ≤ i ↔ s ∈ N) ∧ w = w' := by
  have few := h.few
  go_enter Tryz.func151, Tryz.ntmps151
  go_wp2_with fail
  go_loopw [8] (fun v wr => ∃ k : Nat, v = .int .i64 (k : Int) ∧ k ≤ N.length ∧ Hid (s ∉ N.take k) ∧ w = wr) (fun v _ => N.length - (RowKit.intOf v).toNat)
  case atStart => exact ⟨0, rfl, by omega, hideP (by simp), rfl⟩
  case round =>
    obtain ⟨k, rfl, hk, hno, rfl⟩ := hrel
    by_cases hlt : k < N.length
    · have q0 : (k : Int) < (N.length : Int) := by omega
      obtain ⟨b, o, rfl⟩ := h.addr (by omega)
      have c1 := h.text k hlt
      by_cases hq : s = N[k]
      · have q1 : (s == N[k]) = true := by simpa using hq
        have hm := hideP (show s ∈ N from hq ▸ List.getElem_mem hlt)
        clear hq
        go_wp2_with fail
        go_ret
        exact ⟨k, rfl, ⟨fun _ => hm.out, fun _ => by omega⟩, rfl⟩
      · have q1 : (s == N[k]) = false := by simpa using hq
        have HN : Hid (s ∉ N.take (k + 1)) := hideP (by
          rw [← List.take_append_getElem hlt]
          simp only [List.mem_append, List.mem_singleton, not_or]
          exact ⟨hno.out, hq⟩)
        clear hq
        go_wp2_with fail
        exact ⟨⟨k + 1, rfl, hlt, HN, by first | rfl | trivial⟩, by simp [RowKit.intOf]; omega⟩
    · have q0 : ¬ (k : Int) < (N.length : Int) := by omega
      obtain rfl : k = N.length := by omega
      have hno' := hno.out
      rw [List.take_length] at hno'
      have HN := hideP hno'
      clear hno'
      go_wp2_with fail
      go_ret
      exact ⟨-1, rfl, ⟨fun h => absurd h (by decide), fun h => absurd h HN.out⟩, rfl⟩

set_option maxRecDepth 100000 in
theorem contains_at (w : World) (a : Option Addr) (c : Nat) (N : List (List UInt8)) (s : List UInt8) (h : Row sK w a c N) :
    Calls Tryz.prog 100 #[.slice a N.length c, str s] w fun e w' => e = .returned (.bool (decide (s ∈ N))) ∧ w = w' := by
  go_enter Tryz.func100, Tryz.ntmps100
  go_wp2_with fail
  refine (index_at w a c N s h).mono ?_
  rintro _ w1 ⟨i, rfl, hi, rfl⟩
  have Hi := hideP hi
  clear hi
  go_wp2_with fail
  go_ret
  refine ⟨ret_bool ?_, rfl⟩
  rw [Bool.eq_iff_iff]
  simpa using Hi.out

end Go.Proofs.YtpdmmmdkpipmkaaGreatDoor

/-
  The parts of a rule and of a literal that lie in a block or a row.
-/
namespace Go.Proofs.YtpdmmmdkpipmkaaGreatDoor
open Go.RowKit Go.Lib Go.Shelf

theorem Tryz.iS1 : (Tryz.prog.info? 9).map (fun i => (i.zero, i.size, i.bytes)) = some (some (.string .empty), sK.k, 16) := by kernel_rfl
theorem rule_parts10 {w : World} {b : Nat} {x : Rv} (H : w.heap[b]? = some (.cells (rv x).toArray 48)) :
    w.rangeAt b 0 (tv x.home) ∧ w.rangeAt b 6 (tv x.to_) ∧ w.cell? ⟨b, 0, none⟩ = some (str x.home.v) ∧ w.cell? ⟨b, 4, none⟩ = some (str x.pred) ∧ w.cell? ⟨b, 5, none⟩ = some (.slice x.a x.args.length x.cap) ∧ w.cell? ⟨b, 6, none⟩ = some (str x.to_.v) ∧ w.cell? ⟨b, 10, none⟩ = some (.slice x.ba x.body.length x.bcap) := by
  refine ⟨?_, ?_, ?_, ?_, ?_, ?_, ?_⟩
  · exact World.rangeAt_of_block H 0 4
  · exact World.rangeAt_of_block H 6 4
  all_goals (rw [heap_cell H]; rfl)
theorem lit_parts10 {w : World} {b : Nat} {y : Lv} (H : w.heap[b]? = some (.cells (lv y).toArray 52)) :
    w.rangeAt b 0 (tv y.by_) ∧ w.rangeAt b 6 (tv y.at_) ∧ w.cell? ⟨b, 4, none⟩ = some (str y.pred) ∧ w.cell? ⟨b, 5, none⟩ = some (.slice y.a y.args.length y.cap) ∧ w.cell? ⟨b, 6, none⟩ = some (str y.at_.v) := by
  refine ⟨?_, ?_, ?_, ?_, ?_⟩
  · exact World.rangeAt_of_block H 0 4
  · exact World.rangeAt_of_block H 6 4
  all_goals (rw [heap_cell H]; rfl)
theorem lit_in {w : World} {b o : Nat} {y : Lv} (h : w.rangeAt b o (lv y)) : w.rangeAt b o (tv y.by_) ∧ w.rangeAt b (o + 6) (tv y.at_) ∧ w.cell? ⟨b, o + 4, none⟩ = some (str y.pred) ∧ w.cell? ⟨b, o + 5, none⟩ = some (.slice y.a y.args.length y.cap) ∧ w.cell? ⟨b, o + 6, none⟩ = some (str y.at_.v) := by
  refine ⟨fun j u hu => h j u ?_, fun j u hu => ?_, h 4 _ rfl, h 5 _ rfl, h 6 _ rfl⟩
  · have hj : j < 4 := (List.getElem?_eq_some_iff.1 hu).1
    match j, hj with
    | 0, _ => exact hu
    | 1, _ => exact hu
    | 2, _ => exact hu
    | 3, _ => exact hu
  · have hj : j < 4 := (List.getElem?_eq_some_iff.1 hu).1
    have e : ∀ i, o + 6 + i = o + (6 + i) := fun i => Nat.add_assoc ..
    rw [e]
    refine h (6 + j) u ?_
    match j, hj with
    | 0, _ => exact hu
    | 1, _ => exact hu
    | 2, _ => exact hu
    | 3, _ => exact hu
end Go.Proofs.YtpdmmmdkpipmkaaGreatDoor

/-
  The library's texts that the walks of layers 7 to 10 lean on: with fewer of them a walk may run away (the reference's Copy: 52 s, or none).
-/
namespace Go.Proofs.YtpdmmmdkpipmkaaGreatDoor
end Go.Proofs.YtpdmmmdkpipmkaaGreatDoor
