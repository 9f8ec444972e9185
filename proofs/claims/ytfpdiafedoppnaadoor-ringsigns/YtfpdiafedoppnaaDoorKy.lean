/-
  The book of a ring: a map from what was signed; it is told by the list of what it has.
-/
import Derived.Test.YtfpdiafedoppnaaDoorRk
import Derived.Maps.OwnSet
import Derived.DeepKeys4
namespace Go.Proofs.YtfpdiafedoppnaaDoor
open Go.RowKit
open Go.Maps (Keyed)

/-- somebody, a domain, bytes -/
abbrev P3 := List UInt8 × List UInt8 × List UInt8
/-- it, as the program's key, and as the reference's pair -/
abbrev sg (p : P3) : Value := .agg #[str p.1, str p.2.1, str p.2.2]
structure Fits (p : P3) : Prop where
  a : p.1.length ≤ maxLen
  b : p.2.1.length ≤ maxLen
  c : p.2.2.length ≤ maxLen

theorem Tryd.rowSigned : (68 : TypeId) < Tryd.prog.types.size := of_decide_eq_true (by kernel_rfl)
theorem Tryd.wideSigned : (match Tryd.prog.underlying 68 with | some (.array _ _) | some (.struct _) => true | _ => false) = true := by kernel_rfl
theorem Tryd.deepSigned : Tryd.prog.keyType 68 = true := by kernel_rfl
set_option maxRecDepth 100000 in
theorem Tryd.lawSigned : Keyed Tryd.prog 68 := Keyed.of_law (deep_law_laid Tryd.laidOut (m := 2) (by omega) Tryd.rowSigned (by kernel_rfl) Tryd.wideSigned)
theorem Tryd.cellsSigned : Tryd.prog.cellsOf 68 = 3 := by kernel_rfl
theorem Tryd.cellsStr : Tryd.prog.cellsOf 9 = 1 := by kernel_rfl
theorem Tryd.isSigned : ∃ fs, Tryd.prog.underlying 68 = some (.struct fs) := ⟨_, Tryd.underlying68⟩

theorem lits_signed (d : Nat) (p : P3) (h : Fits p) : Tryd.prog.keyLits (d + 2) 68 [str p.1, str p.2.1, str p.2.2] = some [.string p.1, .string p.2.1, .string p.2.2] := by
  have e : ∀ l : List UInt8, l.length ≤ maxLen → Tryd.prog.keyLits (d + 1) 9 [str l] = some [.string l] := fun l hl => by
    unfold Program.keyLits
    simp only [Tryd.underlying9]
    rw [if_pos (by simpa [ByteArray.size] using hl)]
  unfold Program.keyLits
  simp only [Tryd.underlying68, Tryd.cellsSigned]
  rw [if_pos ⟨rfl, by simp⟩]
  simp only [List.mapM_cons, List.mapM_nil, Tryd.cellsStr, List.drop_zero, List.drop_succ_cons, List.take_succ_cons, List.take_zero, e p.1 h.a, e p.2.1 h.b, e p.2.2 h.c]
  rfl

/-- what a key reads as -/
def kl (p : P3) : Lit := .string (keyBytes [.string p.1, .string p.2.1, .string p.2.2])
theorem key_signed (p : P3) (h : Fits p) : keyOf Tryd.prog 68 (sg p) = some (kl p) := by
  obtain ⟨fs, hu⟩ := Tryd.isSigned
  have hf : (sg p).formed Tryd.prog 68 = true := by simp [Value.formed, hu, Tryd.cellsSigned]
  have hl := lits_signed (Tryd.prog.types.size - 1) p h
  rw [show Tryd.prog.types.size - 1 + 2 = Tryd.prog.types.size + 1 by have h1 : (68 : Nat) < Tryd.prog.types.size := Tryd.rowSigned; omega] at hl
  unfold keyOf
  simp only [hu, Tryd.deepSigned, hf, Bool.and_self, if_true]
  rw [show (sg p).cells.toList = [str p.1, str p.2.1, str p.2.2] from rfl, hl]
  rfl
theorem str_inj {a b : List UInt8} (h : str a = str b) : a = b := by
  have := congrArg (fun v => match v with | Value.string s => s.data.toList | _ => []) h
  simpa using this
theorem sg_inj {p q : P3} (h : sg p = sg q) : p = q := by
  obtain ⟨a, b, c⟩ := p; obtain ⟨d, e, f⟩ := q
  simp only [sg, Value.agg.injEq] at h
  have h0 := congrArg (fun x : Array Value => x.toList) h
  simp only [List.cons.injEq, and_true] at h0
  obtain ⟨h1, h2, h3⟩ := h0
  rw [str_inj h1, str_inj h2, str_inj h3]
theorem kl_inj {p q : P3} (hp : Fits p) (hq : Fits q) (h : kl p = kl q) : p = q :=
  sg_inj (Tryd.lawSigned.inj (key_signed p hp) (h ▸ key_signed q hq))

/-- THE BOOK in the world w: block bm has just what the list tells -/
structure BookAt (w : World) (bm : Nat) (L : List P3) : Prop where
  has : ∃ D : DataW Unit, w.ownsMap Tryd.prog 68 unitElem bm L.length D ∧ Maps.size D = L.length ∧ ∀ p, Fits p → Maps.has D (kl p) = decide (p ∈ L)
theorem BookAt.map {w : World} {bm : Nat} {L : List P3} (h : BookAt w bm L) : ∃ es clock, w.heap[bm]? = some (.map es clock) := by
  obtain ⟨D, ⟨es, clock, hb, _⟩, _⟩ := h.has
  exact ⟨es, clock, hb⟩
theorem BookAt.block {w w' : World} {bm : Nat} {L : List P3} (h : BookAt w bm L) (hb : w'.heap[bm]? = w.heap[bm]?) : BookAt w' bm L := by
  obtain ⟨D, ⟨es, clock, h1, h2⟩, h3⟩ := h.has
  exact ⟨D, ⟨es, clock, hb.trans h1, h2⟩, h3⟩
theorem BookAt.lt {w : World} {bm : Nat} {L : List P3} (h : BookAt w bm L) : bm < w.heap.size := by
  obtain ⟨es, clock, h⟩ := h.map
  exact heap_lt h
theorem BookAt.below {w w' : World} {bm B : Nat} {L : List P3} (h : BookAt w bm L) (hb : Below B w w') (hB : bm < B) : BookAt w' bm L := h.block (hb.block bm hB)
/-- a new book -/
theorem book_new (w : World) : BookAt (w.alloc (.map #[] 0)) w.heap.size [] :=
  ⟨.map [], World.ownsMap_made w _ _ _, rfl, fun p _ => by simp [Maps.has]⟩
/-- what is no map is not the book -/
theorem BookAt.apart {w : World} {bm : Nat} {L : List P3} (h : BookAt w bm L) {p : Addr} {v : Value} (hc : w.cell? p = some v) : p.block ≠ bm := fun e => by
  obtain ⟨es, clock, hb⟩ := h.map
  simp [World.cell?, e, hb] at hc

/-- v, ok := book[..] -/
theorem BookAt.look {w : World} {bm : Nat} {L : List P3} (h : BookAt w bm L) (p : P3) (hp : Fits p) :
    (Instr.lookup 56 (.map (some bm)) (sg p) true).run Tryd.prog w = .ok (.tuple #[.agg #[], .bool (decide (p ∈ L))]) w := by
  obtain ⟨D, ho, _, hd⟩ := h.has
  have hz : (zeroValue 66).run Tryd.prog w = .ok (.agg #[]) w := by kernel_rfl
  obtain ⟨v, ps, hr, hv⟩ := ho.look_ok Tryd.lawSigned Tryd.underlying56 hz (zd := .agg []) (zp := []) unitElem_mk (key_signed p hp)
  obtain ⟨rfl, _⟩ := unitElem_inv hv
  rw [hr, hd p hp]
/-- len(book) -/
theorem BookAt.len {w : World} {bm : Nat} {L : List P3} (h : BookAt w bm L) (ty : TypeId) :
    (Builtin.len_ #[56] ty #[.map (some bm)]).run Tryd.prog w = .ok (.int .i64 (L.length : Int)) w := by
  obtain ⟨D, ho, hs, _⟩ := h.has
  rw [ho.len Tryd.underlying56 ty, hs]
/-- book[..] = struct{}{} -/
theorem BookAt.put {w : World} {bm : Nat} {L : List P3} (h : BookAt w bm L) (p : P3) (hp : Fits p) (hn : p ∉ L) (hL : L.length < 1000000) :
    ∃ w', (Instr.mapUpdate 56 (.map (some bm)) (sg p) (.agg #[])).run Tryd.prog w = .ok () w' ∧ BookAt w' bm (L ++ [p]) ∧ But bm w w' := by
  obtain ⟨D, ho, hs, hd⟩ := h.has
  obtain ⟨w', hr, ho', hg⟩ := ho.update Tryd.lawSigned Tryd.underlying56 (by unfold maxLen; omega) (key_signed p hp) unitElem_mk
  have hk : WideAt.IsKeyLit (kl p) := Tryd.lawSigned.key (key_signed p hp)
  have h0 : Maps.has D (kl p) = false := by rw [hd p hp]; simpa using hn
  refine ⟨w', hr, ⟨_, by simpa using ho', ?_, fun q hq => ?_⟩, ⟨hg.os, hg.tape, hg.output, hg.size, fun k hk hn => hg.block k hk (by simpa using hn)⟩⟩
  · rw [Maps.size_put (ho.tidy Tryd.lawSigned), h0, hs]; simp
  · by_cases e : q = p
    · subst e
      rw [Maps.has_put_same ho.isMap hk]; simp
    · rw [Maps.has_put_other (fun he => e (kl_inj hq hp he)), hd q hq]
      simp [e]
end Go.Proofs.YtfpdiafedoppnaaDoor
