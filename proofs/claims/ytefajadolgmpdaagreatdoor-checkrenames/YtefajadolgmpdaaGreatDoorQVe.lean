/-
  Two maps from texts: those that were seen; how many arguments predicates have.
-/
import Derived.Maps.OwnSet
import Derived.StringKeys
import Derived.Test.YtefajadolgmpdaaGreatDoorQTw
import Derived.Test.YtefajadolgmpdaaGreatDoorQCd
namespace Go.Proofs.YtefajadolgmpdaaGreatDoor
open Go.RowKit
open Go.Maps (Keyed)

theorem Tryz.lawStr : Keyed Tryz.prog 9 := Go.Maps.string_keyed Tryz.underlying9
theorem key_str (s : List UInt8) (h : s.length ≤ maxLen) : keyOf Tryz.prog 9 (str s) = some (.string s) := by
  have := Go.WideMaps.keyOf_string_mk (P := Tryz.prog) Tryz.underlying9 (s := ⟨s.toArray⟩) (by simpa [ByteArray.size] using h)
  simpa using this

/-- THE TEXTS SEEN in the world w: block bm has just what the list tells -/
structure SeenAt (w : World) (bm : Nat) (L : List (List UInt8)) : Prop where
  has : ∃ D : DataW Unit, w.ownsMap Tryz.prog 9 unitElem bm L.length D ∧ ∀ p : List UInt8, p.length ≤ maxLen → Maps.has D (.string p) = decide (p ∈ L)
theorem SeenAt.map {w : World} {bm : Nat} {L : List (List UInt8)} (h : SeenAt w bm L) : ∃ es clock, w.heap[bm]? = some (.map es clock) := by
  obtain ⟨D, ⟨es, clock, hb, _⟩, _⟩ := h.has
  exact ⟨es, clock, hb⟩
theorem SeenAt.block {w w' : World} {bm : Nat} {L : List (List UInt8)} (h : SeenAt w bm L) (hb : w'.heap[bm]? = w.heap[bm]?) : SeenAt w' bm L := by
  obtain ⟨D, ⟨es, clock, h1, h2⟩, h3⟩ := h.has
  exact ⟨D, ⟨es, clock, hb.trans h1, h2⟩, h3⟩
theorem SeenAt.lt {w : World} {bm : Nat} {L : List (List UInt8)} (h : SeenAt w bm L) : bm < w.heap.size := by
  obtain ⟨es, clock, h⟩ := h.map
  exact heap_lt h
theorem SeenAt.below {w w' : World} {bm B : Nat} {L : List (List UInt8)} (h : SeenAt w bm L) (hb : Below B w w') (hB : bm < B) : SeenAt w' bm L := h.block (hb.block bm hB)
theorem seen_new (w : World) : SeenAt (w.alloc (.map #[] 0)) w.heap.size [] :=
  ⟨.map [], World.ownsMap_made w _ _ _, fun p _ => by simp [Maps.has]⟩
theorem SeenAt.look {w : World} {bm : Nat} {L : List (List UInt8)} (h : SeenAt w bm L) (p : List UInt8) (hp : p.length ≤ maxLen) :
    (Instr.lookup 77 (.map (some bm)) (str p) true).run Tryz.prog w = .ok (.tuple #[.agg #[], .bool (decide (p ∈ L))]) w := by
  obtain ⟨D, ho, hd⟩ := h.has
  have hz : (zeroValue 78).run Tryz.prog w = .ok (.agg #[]) w := by kernel_rfl
  obtain ⟨v, ps, hr, hv⟩ := ho.look_ok Tryz.lawStr Tryz.underlying77 hz (zd := .agg []) (zp := []) unitElem_mk (key_str p hp)
  obtain ⟨rfl, _⟩ := unitElem_inv hv
  rw [hr, hd p hp]
theorem SeenAt.put {w : World} {bm : Nat} {L : List (List UInt8)} (h : SeenAt w bm L) (p : List UInt8) (hp : p.length ≤ maxLen) (hL : L.length < 1000000) :
    ∃ w', (Instr.mapUpdate 77 (.map (some bm)) (str p) (.agg #[])).run Tryz.prog w = .ok () w' ∧ SeenAt w' bm (L ++ [p]) ∧ But bm w w' := by
  obtain ⟨D, ho, hd⟩ := h.has
  obtain ⟨w', hr, ho', hg⟩ := ho.update Tryz.lawStr Tryz.underlying77 (by unfold maxLen; omega) (key_str p hp) unitElem_mk
  have hk : WideAt.IsKeyLit (.string p) := Tryz.lawStr.key (key_str p hp)
  refine ⟨w', hr, ⟨_, by simpa using ho', fun q hq => ?_⟩, ⟨hg.os, hg.tape, hg.output, hg.size, fun k hk hn => hg.block k hk (by simpa using hn)⟩⟩
  by_cases e : q = p
  · subst e
    rw [Maps.has_put_same ho.isMap hk]; simp
  · rw [Maps.has_put_other (fun he => e (by cases he; rfl)), hd q hq]
    simp [e]

/-- how many arguments a predicate had where it came first -/
def Ck.fst (s : Ck.Seen) (p : List UInt8) : Nat := match s.find? (fun x => x.1 == p) with | some x => x.2 | none => 0
def Ck.came (s : Ck.Seen) (p : List UInt8) : Bool := (s.find? (fun x => x.1 == p)).isSome
theorem Ck.odd_came {s : Ck.Seen} {p : List UInt8} {n : Nat} (h : Ck.came s p = true) : Ck.odd s p n = (s, Ck.fst s p != n) := by
  unfold Ck.came at h
  unfold Ck.odd Ck.fst
  cases hx : s.find? (fun x => x.1 == p) with
  | none => rw [hx] at h; cases h
  | some x => rfl
theorem Ck.odd_new {s : Ck.Seen} {p : List UInt8} {n : Nat} (h : Ck.came s p = false) : Ck.odd s p n = (s ++ [(p, n)], false) := by
  unfold Ck.came at h
  unfold Ck.odd
  cases hx : s.find? (fun x => x.1 == p) with
  | none => rfl
  | some x => rw [hx] at h; cases h
/-- HOW MANY ARGUMENTS PREDICATES HAVE, in the world w -/
structure SizesAt (w : World) (bm : Nat) (s : Ck.Seen) : Prop where
  has : ∃ D : DataW Unit, w.ownsMap Tryz.prog 9 (plainElem Tryz.prog 3) bm s.length D ∧ ∀ p : List UInt8, p.length ≤ maxLen → Maps.has D (.string p) = Ck.came s p ∧ D.atKey (.string p) (.lit (.int .i64 0)) = .lit (.int .i64 (Ck.fst s p : Int))
theorem SizesAt.map {w : World} {bm : Nat} {s : Ck.Seen} (h : SizesAt w bm s) : ∃ es clock, w.heap[bm]? = some (.map es clock) := by
  obtain ⟨D, ⟨es, clock, hb, _⟩, _⟩ := h.has
  exact ⟨es, clock, hb⟩
theorem SizesAt.block {w w' : World} {bm : Nat} {s : Ck.Seen} (h : SizesAt w bm s) (hb : w'.heap[bm]? = w.heap[bm]?) : SizesAt w' bm s := by
  obtain ⟨D, ⟨es, clock, h1, h2⟩, h3⟩ := h.has
  exact ⟨D, ⟨es, clock, hb.trans h1, h2⟩, h3⟩
theorem SizesAt.lt {w : World} {bm : Nat} {s : Ck.Seen} (h : SizesAt w bm s) : bm < w.heap.size := by
  obtain ⟨es, clock, h⟩ := h.map
  exact heap_lt h
theorem SizesAt.below {w w' : World} {bm B : Nat} {s : Ck.Seen} (h : SizesAt w bm s) (hb : Below B w w') (hB : bm < B) : SizesAt w' bm s := h.block (hb.block bm hB)
theorem SizesAt.next {w w' : World} {bm : Nat} {s : Ck.Seen} (h : SizesAt w bm s) (hb : Below w.heap.size w w') : SizesAt w' bm s := h.below hb h.lt
theorem sizes_new (w : World) : SizesAt (w.alloc (.map #[] 0)) w.heap.size [] :=
  ⟨.map [], World.ownsMap_made w _ _ _, fun p _ => by simp [Maps.has, Ck.came, Ck.fst, DataW.atKey]⟩
theorem SizesAt.look {w : World} {bm : Nat} {s : Ck.Seen} (h : SizesAt w bm s) (p : List UInt8) (hp : p.length ≤ maxLen) :
    (Instr.lookup 57 (.map (some bm)) (str p) true).run Tryz.prog w = .ok (.tuple #[.int .i64 (Ck.fst s p : Int), .bool (Ck.came s p)]) w := by
  obtain ⟨D, ho, hd⟩ := h.has
  have hz : (zeroValue 3).run Tryz.prog w = .ok (.int .i64 0) w := by kernel_rfl
  obtain ⟨v, ps, hr, hv⟩ := ho.look_ok Tryz.lawStr Tryz.underlying57 hz (zd := .lit (.int .i64 0)) (zp := []) (plainElem_int Tryz.underlying3 (by decide)) (key_str p hp)
  obtain ⟨c, rfl, hc, _⟩ := plainElem_int_inv Tryz.underlying3 hv
  rw [(hd p hp).2] at hc
  rw [hr, (hd p hp).1]
  simp only [Prod.mk.injEq, DataW.lit.injEq, Lit.int.injEq, true_and] at hc
  rw [hc.1]
theorem SizesAt.put {w : World} {bm : Nat} {s : Ck.Seen} (h : SizesAt w bm s) (p : List UInt8) (n : Nat) (hp : p.length ≤ maxLen) (hn : n ≤ 4398046510976) (hs : s.length < 1000000) (hc : Ck.came s p = false) :
    ∃ w', (Instr.mapUpdate 57 (.map (some bm)) (str p) (.int .i64 (n : Int))).run Tryz.prog w = .ok () w' ∧ SizesAt w' bm (s ++ [(p, n)]) ∧ But bm w w' := by
  obtain ⟨D, ho, hd⟩ := h.has
  obtain ⟨w', hr, ho', hg⟩ := ho.update Tryz.lawStr Tryz.underlying57 (by unfold maxLen; omega) (key_str p hp) (plainElem_int Tryz.underlying3 (a := (n : Int)) (by simp [Lit.wf, IntKind.min, IntKind.max, IntKind.signed, IntKind.bits]; omega))
  have hk : WideAt.IsKeyLit (.string p) := Tryz.lawStr.key (key_str p hp)
  refine ⟨w', hr, ⟨_, by simpa using ho', fun q hq => ?_⟩, ⟨hg.os, hg.tape, hg.output, hg.size, fun k hk hn => hg.block k hk (by simpa using hn)⟩⟩
  by_cases e : q = p
  · subst e
    rw [Maps.has_put_same ho.isMap hk, Maps.atKey_put_same ho.isMap hk]
    unfold Ck.came at hc
    have hc' : s.find? (fun x => x.1 == q) = none := by simpa using hc
    simp [Ck.came, Ck.fst, List.find?_append, hc']
  · rw [Maps.has_put_other (fun he => e (by cases he; rfl)), Maps.atKey_put_other (fun he => e (by cases he; rfl)), (hd q hq).1, (hd q hq).2]
    have e' : (p == q) = false := by simpa using Ne.symm e
    simp [Ck.came, Ck.fst, List.find?_append, e']
end Go.Proofs.YtefajadolgmpdaaGreatDoor

/-
  Rows of texts: the library's Index and Contains, the reference's Has, its Texts of like lists.
-/
namespace Go.Proofs.YtefajadolgmpdaaGreatDoor
open Go.RowKit Go.Lib Go.Shelf

def sK : Kd (List UInt8) := ⟨fun s => [str s], 1, fun _ => rfl, fun _ => rfl, by decide⟩
theorem Row.take {α : Type} {D : Kd α} {w : World} {a : Option Addr} {cap : Nat} {xs : List α} (h : Row D w a cap xs) (k : Nat) : Row D w a cap (xs.take k) := by
  refine ⟨Nat.le_trans (by simp; omega) h.room, Nat.le_trans (by simp; omega) h.few, fun ha => ?_, fun ad ha j u hu => h.cells ad ha j u ?_⟩
  · obtain ⟨rfl, hc⟩ := h.void ha
    exact ⟨by simp, hc⟩
  · have e : xs.flatMap D.enc = (xs.take k).flatMap D.enc ++ (xs.drop k).flatMap D.enc := by rw [← List.flatMap_append, List.take_append_drop]
    rw [e, List.getElem?_append_left (List.getElem?_eq_some_iff.1 hu).1]
    exact hu
theorem Row.text {w : World} {b o cap : Nat} {N : List (List UInt8)} (h : Row sK w (some ⟨b, o, none⟩) cap N) (k : Nat) (hk : k < N.length) : w.cell? ⟨b, o + k, none⟩ = some (str N[k]) := by
  have := h.range k hk 0 (str N[k]) rfl
  rwa [show sK.k = 1 from rfl, Nat.mul_one, Nat.add_zero] at this

set_option maxRecDepth 100000 in
set_option maxHeartbeats 800000 in
theorem index_at (w : World) (a : Option Addr) (c : Nat) (N : List (List UInt8)) (s : List UInt8) (h : Row sK w a c N) :
    Calls Tryz.prog 113 #[.slice a N.length c, str s] w fun e w' => ∃ i : Int, e = .returned (.int .i64 i) ∧ (0 ≤ i ↔ s ∈ N) ∧ w = w' := by
  have few := h.few
  go_enter Tryz.func113, Tryz.ntmps113
  go_wp2_with fail
  go_loopw [8] (fun v wr => ∃ k : Nat, v = .int .i64 (k : Int) ∧ k ≤ N.length ∧ Hid (s ∉ N.take k) ∧ w = wr) (fun v _ => N.length - (intOf v).toNat)
  case atStart => exact ⟨0, rfl, by omega, hideP (by simp), rfl⟩
  case round =>
    obtain ⟨k, rfl, hk, hno, rfl⟩ := hrel
    by_cases hlt : k < N.length
    · have q0 : (k : Int) < (N.length : Int) := by omega
      obtain ⟨b, o, rfl⟩ := h.addr (by omega)
      have c1 := h.text k hlt
      by_cases hq : s = N[k]
      · have q1 : (s == N[k]) = true := by simpa using hq
        have hm := hideP (show s ∈ N from hq ▸ List.getElem_mem hlt)
        clear hq
        go_wp2_with fail
        go_ret
        exact ⟨k, rfl, ⟨fun _ => hm.out, fun _ => by omega⟩, rfl⟩
      · have q1 : (s == N[k]) = false := by simpa using hq
        have HN : Hid (s ∉ N.take (k + 1)) := hideP (by
          rw [← List.take_append_getElem hlt]
          simp only [List.mem_append, List.mem_singleton, not_or]
          exact ⟨hno.out, hq⟩)
        clear hq
        go_wp2_with fail
        exact ⟨⟨k + 1, rfl, hlt, HN, by first | rfl | trivial⟩, by simp [intOf]; omega⟩
    · have q0 : ¬ (k : Int) < (N.length : Int) := by omega
      obtain rfl : k = N.length := by omega
      have hno' := hno.out
      rw [List.take_length] at hno'
      have HN := hideP hno'
      clear hno'
      go_wp2_with fail
      go_ret
      exact ⟨-1, rfl, ⟨fun h => absurd h (by decide), fun h => absurd h HN.out⟩, rfl⟩

set_option maxRecDepth 100000 in
theorem contains_at (w : World) (a : Option Addr) (c : Nat) (N : List (List UInt8)) (s : List UInt8) (h : Row sK w a c N) :
    Calls Tryz.prog 92 #[.slice a N.length c, str s] w fun e w' => e = .returned (.bool (decide (s ∈ N))) ∧ w = w' := by
  go_enter Tryz.func92, Tryz.ntmps92
  go_wp2_with fail
  refine (index_at w a c N s h).mono ?_
  rintro _ w1 ⟨i, rfl, hi, rfl⟩
  have Hi := hideP hi
  clear hi
  go_wp2_with fail
  go_ret
  refine ⟨ret_bool ?_, rfl⟩
  rw [Bool.eq_iff_iff]
  simpa using Hi.out

set_option maxRecDepth 100000 in
set_option maxHeartbeats 800000 in
theorem rhas_at (w : World) (a : Option Addr) (c : Nat) (N : List (List UInt8)) (s : List UInt8) (h : Row sK w a c N) :
    Calls Tryz.prog 21 #[.slice a N.length c, str s] w fun e w' => e = .returned (.bool (decide (s ∈ N))) ∧ w = w' := by
  have few := h.few
  go_enter Tryz.func21, Tryz.ntmps21
  go_wp2_with fail
  go_loopw [5] (fun v wr => ∃ k : Nat, v = .int .i64 (k : Int) ∧ k ≤ N.length ∧ Hid (s ∉ N.take k) ∧ w = wr) (fun v _ => N.length - (intOf v).toNat)
  case atStart => exact ⟨0, rfl, by omega, hideP (by simp), rfl⟩
  case round =>
    obtain ⟨k, rfl, hk, hno, rfl⟩ := hrel
    by_cases hlt : k < N.length
    · have q0 : (k : Int) < (N.length : Int) := by omega
      obtain ⟨b, o, rfl⟩ := h.addr (by omega)
      have c1 := h.text k hlt
      by_cases hq : N[k] = s
      · have q1 : (N[k] == s) = true := by simpa using hq
        have hm := hideP (show decide (s ∈ N) = true by simpa using hq ▸ List.getElem_mem hlt)
        clear hq
        go_wp2_with fail
        go_ret
        exact ⟨ret_bool hm.out.symm, rfl⟩
      · have q1 : (N[k] == s) = false := by simpa using hq
        have HN : Hid (s ∉ N.take (k + 1)) := hideP (by
          rw [← List.take_append_getElem hlt]
          simp only [List.mem_append, List.mem_singleton, not_or]
          exact ⟨hno.out, fun h => hq h.symm⟩)
        clear hq
        go_wp2_with fail
        exact ⟨⟨k + 1, by go_num, hlt, HN, by first | rfl | trivial⟩, by simp [intOf]; omega⟩
    · have q0 : ¬ (k : Int) < (N.length : Int) := by omega
      obtain rfl : k = N.length := by omega
      have hno' := hno.out
      rw [List.take_length] at hno'
      have HN : Hid (decide (s ∈ N) = false) := by
        show _ = _
        simpa using hno'
      clear hno'
      go_wp2_with fail
      go_ret
      exact ⟨ret_bool HN.out.symm, rfl⟩

set_option maxRecDepth 100000 in
set_option maxHeartbeats 1600000 in
theorem texts_at (w : World) (a b : Option Addr) (c d : Nat) (N : List (List UInt8)) (h : Row sK w a c N) (h' : Row sK w b d N) :
    Calls Tryz.prog 16 #[.slice a N.length c, .slice b N.length d] w fun e w' => e = .returned (.bool true) ∧ Below w.heap.size w w' := by
  have few := h.few
  have q0 : ((N.length : Int) != (N.length : Int)) = false := by simp
  go_enter Tryz.func16, Tryz.ntmps16
  go_wp2_with fail
  go_loopw [5] (fun v wr => ∃ k : Nat, v = .int .i64 (k : Int) ∧ k ≤ N.length ∧ Below w.heap.size w wr) (fun v _ => N.length - (intOf v).toNat)
  case atStart => exact ⟨0, rfl, by omega, Below.refl _ _⟩
  case round =>
    obtain ⟨k, rfl, hk, hbel⟩ := hrel
    by_cases hlt : k < N.length
    · have q1 : (k : Int) < (N.length : Int) := by omega
      obtain ⟨b1, o1, rfl⟩ := h.addr (by omega)
      obtain ⟨b2, o2, rfl⟩ := h'.addr (by omega)
      have c1 := (h.below hbel (Nat.le_refl _)).text k hlt
      have c2 := (h'.below hbel (Nat.le_refl _)).text k hlt
      generalize N[k] = n at *
      have q2 : (n != n) = false := by simp
      go_wp2_with fail
      go_quiet (fail)
      go_wp2_with fail
      exact ⟨⟨k + 1, rfl, hlt, Below.then hbel (below_drewN (Below.refl _ _) _)⟩, by simp [intOf]; omega⟩
    · have q1 : ¬ (k : Int) < (N.length : Int) := by omega
      go_wp2_with fail
      go_ret
      exact ⟨rfl, hbel⟩
end Go.Proofs.YtefajadolgmpdaaGreatDoor
