/-
  Two maps from texts: those that were seen; how many arguments predicates have.
-/
import Derived.Test.YtpdmmmdkpipmkaaGreatDoorQLs9
import Derived.Test.YtpdmmmdkpipmkaaGreatDoorQCc
import Derived.Maps.OwnSet
import Derived.StringKeys
namespace Go.Proofs.YtpdmmmdkpipmkaaGreatDoor
open Go.RowKit
open Go.Maps (Keyed)

theorem Tryz.lawStr : Keyed Tryz.prog 9 := Go.Maps.string_keyed Tryz.underlying9
theorem key_str (s : List UInt8) (h : s.length ≤ maxLen) : keyOf Tryz.prog 9 (str s) = some (.string s) := by
  have := Go.WideMaps.keyOf_string_mk (P := Tryz.prog) Tryz.underlying9 (s := ⟨s.toArray⟩) (by simpa [ByteArray.size] using h)
  simpa using this

/-- THE TEXTS SEEN in the world w: block bm has just what the list tells -/
structure SeenAt (w : World) (bm : Nat) (L : List (List UInt8)) : Prop where
  has : ∃ D : DataW Unit, w.ownsMap Tryz.prog 9 unitElem bm L.length D ∧ ∀ p : List UInt8, p.length ≤ maxLen → Maps.has D (.string p) = decide (p ∈ L)
theorem SeenAt.map {w : World} {bm : Nat} {L : List (List UInt8)} (h : SeenAt w bm L) : ∃ es clock, w.heap[bm]? = some (.map es clock) := by
  obtain ⟨D, ⟨es, clock, hb, _⟩, _⟩ := h.has
  exact ⟨es, clock, hb⟩
theorem SeenAt.block {w w' : World} {bm : Nat} {L : List (List UInt8)} (h : SeenAt w bm L) (hb : w'.heap[bm]? = w.heap[bm]?) : SeenAt w' bm L := by
  obtain ⟨D, ⟨es, clock, h1, h2⟩, h3⟩ := h.has
  exact ⟨D, ⟨es, clock, hb.trans h1, h2⟩, h3⟩
theorem SeenAt.lt {w : World} {bm : Nat} {L : List (List UInt8)} (h : SeenAt w bm L) : bm < w.heap.size := by
  obtain ⟨es, clock, h⟩ := h.map
  exact heap_lt h
theorem SeenAt.below {w w' : World} {bm B : Nat} {L : List (List UInt8)} (h : SeenAt w bm L) (hb : Below B w w') (hB : bm < B) : SeenAt w' bm L := h.block (hb.block bm hB)
theorem seen_new (w : World) : SeenAt (w.alloc (.map #[] 0)) w.heap.size [] :=
  ⟨.map [], World.ownsMap_made w _ _ _, fun p _ => by simp [Maps.has]⟩
theorem SeenAt.look {w : World} {bm : Nat} {L : List (List UInt8)} (h : SeenAt w bm L) (p : List UInt8) (hp : p.length ≤ maxLen) :
    (Instr.lookup 178 (.map (some bm)) (str p) true).run Tryz.prog w = .ok (.tuple #[.agg #[], .bool (decide (p ∈ L))]) w := by
  obtain ⟨D, ho, hd⟩ := h.has
  have hz : (zeroValue 179).run Tryz.prog w = .ok (.agg #[]) w := by kernel_rfl
  obtain ⟨v, ps, hr, hv⟩ := ho.look_ok Tryz.lawStr Tryz.underlying178 hz (zd := .agg []) (zp := []) unitElem_mk (key_str p hp)
  obtain ⟨rfl, _⟩ := unitElem_inv hv
  rw [hr, hd p hp]
theorem SeenAt.put {w : World} {bm : Nat} {L : List (List UInt8)} (h : SeenAt w bm L) (p : List UInt8) (hp : p.length ≤ maxLen) (hL : L.length < 1000000) :
    ∃ w', (Instr.mapUpdate 178 (.map (some bm)) (str p) (.agg #[])).run Tryz.prog w = .ok () w' ∧ SeenAt w' bm (L ++ [p]) ∧ But bm w w' := by
  obtain ⟨D, ho, hd⟩ := h.has
  obtain ⟨w', hr, ho', hg⟩ := ho.update Tryz.lawStr Tryz.underlying178 (by unfold maxLen; omega) (key_str p hp) unitElem_mk
  have hk : WideAt.IsKeyLit (.string p) := Tryz.lawStr.key (key_str p hp)
  refine ⟨w', hr, ⟨_, by simpa using ho', fun q hq => ?_⟩, ⟨hg.os, hg.tape, hg.output, hg.size, fun k hk hn => hg.block k hk (by simpa using hn)⟩⟩
  by_cases e : q = p
  · subst e
    rw [Maps.has_put_same ho.isMap hk]; simp
  · rw [Maps.has_put_other (fun he => e (by cases he; rfl)), hd q hq]
    simp [e]

/-- how many arguments a predicate had where it came first -/
def Ck.fst (s : Ck.Seen) (p : List UInt8) : Nat := match s.find? (fun x => x.1 == p) with | some x => x.2 | none => 0
def Ck.came (s : Ck.Seen) (p : List UInt8) : Bool := (s.find? (fun x => x.1 == p)).isSome
theorem Ck.odd_came {s : Ck.Seen} {p : List UInt8} {n : Nat} (h : Ck.came s p = true) : Ck.odd s p n = (s, Ck.fst s p != n) := by
  unfold Ck.came at h
  unfold Ck.odd Ck.fst
  cases hx : s.find? (fun x => x.1 == p) with
  | none => rw [hx] at h; cases h
  | some x => rfl
theorem Ck.odd_new {s : Ck.Seen} {p : List UInt8} {n : Nat} (h : Ck.came s p = false) : Ck.odd s p n = (s ++ [(p, n)], false) := by
  unfold Ck.came at h
  unfold Ck.odd
  cases hx : s.find? (fun x => x.1 == p) with
  | none => rfl
  | some x => rw [hx] at h; cases h
/-- HOW MANY ARGUMENTS PREDICATES HAVE, in the world w -/
structure SizesAt (w : World) (bm : Nat) (s : Ck.Seen) : Prop where
  has : ∃ D : DataW Unit, w.ownsMap Tryz.prog 9 (plainElem Tryz.prog 3) bm s.length D ∧ ∀ p : List UInt8, p.length ≤ maxLen → Maps.has D (.string p) = Ck.came s p ∧ D.atKey (.string p) (.lit (.int .i64 0)) = .lit (.int .i64 (Ck.fst s p : Int))
theorem SizesAt.map {w : World} {bm : Nat} {s : Ck.Seen} (h : SizesAt w bm s) : ∃ es clock, w.heap[bm]? = some (.map es clock) := by
  obtain ⟨D, ⟨es, clock, hb, _⟩, _⟩ := h.has
  exact ⟨es, clock, hb⟩
theorem SizesAt.block {w w' : World} {bm : Nat} {s : Ck.Seen} (h : SizesAt w bm s) (hb : w'.heap[bm]? = w.heap[bm]?) : SizesAt w' bm s := by
  obtain ⟨D, ⟨es, clock, h1, h2⟩, h3⟩ := h.has
  exact ⟨D, ⟨es, clock, hb.trans h1, h2⟩, h3⟩
theorem SizesAt.lt {w : World} {bm : Nat} {s : Ck.Seen} (h : SizesAt w bm s) : bm < w.heap.size := by
  obtain ⟨es, clock, h⟩ := h.map
  exact heap_lt h
theorem SizesAt.below {w w' : World} {bm B : Nat} {s : Ck.Seen} (h : SizesAt w bm s) (hb : Below B w w') (hB : bm < B) : SizesAt w' bm s := h.block (hb.block bm hB)
theorem SizesAt.next {w w' : World} {bm : Nat} {s : Ck.Seen} (h : SizesAt w bm s) (hb : Below w.heap.size w w') : SizesAt w' bm s := h.below hb h.lt
theorem sizes_new (w : World) : SizesAt (w.alloc (.map #[] 0)) w.heap.size [] :=
  ⟨.map [], World.ownsMap_made w _ _ _, fun p _ => by simp [Maps.has, Ck.came, Ck.fst, DataW.atKey]⟩
theorem SizesAt.look {w : World} {bm : Nat} {s : Ck.Seen} (h : SizesAt w bm s) (p : List UInt8) (hp : p.length ≤ maxLen) :
    (Instr.lookup 87 (.map (some bm)) (str p) true).run Tryz.prog w = .ok (.tuple #[.int .i64 (Ck.fst s p : Int), .bool (Ck.came s p)]) w := by
  obtain ⟨D, ho, hd⟩ := h.has
  have hz : (zeroValue 3).run Tryz.prog w = .ok (.int .i64 0) w := by kernel_rfl
  obtain ⟨v, ps, hr, hv⟩ := ho.look_ok Tryz.lawStr Tryz.underlying87 hz (zd := .lit (.int .i64 0)) (zp := []) (plainElem_int Tryz.underlying3 (by decide)) (key_str p hp)
  obtain ⟨c, rfl, hc, _⟩ := plainElem_int_inv Tryz.underlying3 hv
  rw [(hd p hp).2] at hc
  rw [hr, (hd p hp).1]
  simp only [Prod.mk.injEq, DataW.lit.injEq, Lit.int.injEq, true_and] at hc
  rw [hc.1]
theorem SizesAt.put {w : World} {bm : Nat} {s : Ck.Seen} (h : SizesAt w bm s) (p : List UInt8) (n : Nat) (hp : p.length ≤ maxLen) (hn : n ≤ 4398046510976) (hs : s.length < 1000000) (hc : Ck.came s p = false) :
    ∃ w', (Instr.mapUpdate 87 (.map (some bm)) (str p) (.int .i64 (n : Int))).run Tryz.prog w = .ok () w' ∧ SizesAt w' bm (s ++ [(p, n)]) ∧ But bm w w' := by
  obtain ⟨D, ho, hd⟩ := h.has
  obtain ⟨w', hr, ho', hg⟩ := ho.update Tryz.lawStr Tryz.underlying87 (by unfold maxLen; omega) (key_str p hp) (plainElem_int Tryz.underlying3 (a := (n : Int)) (by simp [Lit.wf, IntKind.min, IntKind.max, IntKind.signed, IntKind.bits]; omega))
  have hk : WideAt.IsKeyLit (.string p) := Tryz.lawStr.key (key_str p hp)
  refine ⟨w', hr, ⟨_, by simpa using ho', fun q hq => ?_⟩, ⟨hg.os, hg.tape, hg.output, hg.size, fun k hk hn => hg.block k hk (by simpa using hn)⟩⟩
  by_cases e : q = p
  · subst e
    rw [Maps.has_put_same ho.isMap hk, Maps.atKey_put_same ho.isMap hk]
    unfold Ck.came at hc
    have hc' : s.find? (fun x => x.1 == q) = none := by simpa using hc
    simp [Ck.came, Ck.fst, List.find?_append, hc']
  · rw [Maps.has_put_other (fun he => e (by cases he; rfl)), Maps.atKey_put_other (fun he => e (by cases he; rfl)), (hd q hq).1, (hd q hq).2]
    have e' : (p == q) = false := by simpa using Ne.symm e
    simp [Ck.came, Ck.fst, List.find?_append, e']
end Go.Proofs.YtpdmmmdkpipmkaaGreatDoor
