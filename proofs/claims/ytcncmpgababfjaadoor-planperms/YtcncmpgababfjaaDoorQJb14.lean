/-
  The map of the literals that wait for variables: as it grows, and as it is told and shortened later on.
-/
import Derived.Test.YtcncmpgababfjaaDoorQJa14
import Derived.Test.YtcncmpgababfjaaDoorQMv
import Derived.Maps.OwnRows
import Derived.Maps.OwnSet
import Derived.StringKeys
namespace Go.Proofs.YtcncmpgababfjaaDoor
open Go.RowKit Go.Lib Go.Shelf
open Go.Maps (Keyed)
open Go.ChangeShapes (lits)

theorem Tryd.lawStr14 : Keyed Tryd.prog 9 := Go.Maps.string_keyed Tryd.underlying9
theorem key_str14 (s : List UInt8) (h : s.length ≤ maxLen) : keyOf Tryd.prog 9 (str s) = some (.string s) := by
  have := Go.WideMaps.keyOf_string_mk (P := Tryd.prog) Tryd.underlying9 (s := ⟨s.toArray⟩) (by simpa [ByteArray.size] using h)
  simpa using this
def nInts (l : List Nat) : List Int := l.map fun n : Nat => (n : Int)
def dat (l : List Nat) : DataW Unit := if l = [] then .nil else .slice (lits .i64 (nInts l)) []
theorem nInts_len (l : List Nat) : (nInts l).length = l.length := List.length_map ..
theorem dat_of {w : World} {base : Nat} {e : TypeId} {v : Value} {zs : List Int} {l : List Nat} (h : w.ownsInts base e .i64 v zs) (hd : (rowDatum .i64 v zs : DataW Unit) = dat l) : zs = nInts l := by
  unfold dat at hd
  rcases h.datum (H := Unit) with ⟨h1, rfl⟩ | h1
  · rw [h1] at hd
    split at hd
    · rename_i hl; rw [hl]; rfl
    · cases hd
  · rw [h1] at hd
    split at hd
    · cases hd
    · injection hd with h2 _
      unfold lits at h2
      exact (List.map_inj_right (fun a b hab => by injection hab with hab; injection hab)).1 h2
theorem ints_keep {w w' : World} {base : Nat} {e : TypeId} {v : Value} {zs : List Int} (h : w.ownsInts base e .i64 v zs) (hb : ∀ k, k < w.heap.size → base ≤ k → w'.heap[k]? = w.heap[k]?) : w'.ownsInts base e .i64 v zs :=
  ⟨⟨h.1.1, h.1.2.imp id fun ⟨g, cap, cur, h1, h2, h3, rest⟩ => ⟨g, cap, cur, h1, h2, (hb g (heap_lt h3) h2).trans h3, rest⟩⟩, h.2⟩
theorem but_of_grown {b : Nat} {w w' : World} (h : w.grownBy w' (some b)) : But b w w' := ⟨h.os, h.tape, h.output, h.size, fun k hk hn => h.block k hk (by simpa using hn)⟩

/-- WHAT WAITS, in the world w: block bm is a map of at most n entries; g tells what waits for each variable; the rows lie from base on -/
structure WaitAt (w : World) (bm base n : Nat) (g : List UInt8 → List Nat) : Prop where
  has : ∃ D : DataW Unit, w.ownsGroups Tryd.prog 9 base 3 .i64 bm n D ∧ ∀ p : List UInt8, p.length ≤ maxLen → D.atKey (.string p) .nil = dat (g p)
theorem groups_is {w : World} {base b n : Nat} {D : DataW Unit} (h : w.ownsGroups Tryd.prog 9 base 3 .i64 b n D) : Maps.IsMap D := by
  obtain ⟨es, clock, _, _, _, rfl, _⟩ := h
  exact ⟨_, rfl⟩
theorem WaitAt.made {w : World} {bm base : Nat} (hm : w.heap[bm]? = some (.map #[] 0)) (h : bm < base) : WaitAt w bm base 0 (fun _ => []) :=
  ⟨.map [], ⟨#[], 0, hm, ⟨by simp, MapKept.stamped_empty 0, by simp⟩, Nat.le_refl _, rfl, h, by simp, by simp⟩, fun p _ => by simp [DataW.atKey, dat]⟩
theorem WaitAt.lt {w : World} {bm base n : Nat} {g : List UInt8 → List Nat} (h : WaitAt w bm base n g) : bm < w.heap.size ∧ bm < base := by
  obtain ⟨D, ⟨es, clock, h1, _, _, _, h2, _⟩, _⟩ := h.has
  exact ⟨heap_lt h1, h2⟩
theorem WaitAt.map {w : World} {bm base n : Nat} {g : List UInt8 → List Nat} (h : WaitAt w bm base n g) : ∃ es clock, w.heap[bm]? = some (.map es clock) := by
  obtain ⟨D, ⟨es, clock, h1, _⟩, _⟩ := h.has
  exact ⟨es, clock, h1⟩
theorem WaitAt.keep {w w' : World} {bm base n : Nat} {g : List UInt8 → List Nat} (h : WaitAt w bm base n g) (hb : ∀ k, k < w.heap.size → k = bm ∨ base ≤ k → w'.heap[k]? = w.heap[k]?) : WaitAt w' bm base n g := by
  obtain ⟨D, ⟨es, clock, h1, F, hs, rfl, hbb, hlen, hap⟩, hd⟩ := h.has
  have owned : ∀ x ∈ es.toList, ∃ zs, w.ownsInts base 3 .i64 x.val zs := fun x hx => by
    obtain ⟨y, hy⟩ := F.reads x hx
    obtain ⟨z, hz, _⟩ := WideElems.rd_val hy
    obtain ⟨zs, ho, _⟩ := rowElem_inv hz
    exact ⟨zs, ho⟩
  have hs2 : ∀ x ∈ es.toList, ∀ z, rowElem (H := Unit) w base 3 .i64 x.val = some z → rowElem w' base 3 .i64 x.val = some z := fun x _ z hz => by
    obtain ⟨zs, ho, rfl⟩ := rowElem_inv hz
    exact rowElem_mk (ints_keep ho fun k hk hk2 => hb k hk (.inr hk2))
  obtain ⟨F2, hm, _⟩ := F.stay hs2
  refine ⟨_, ⟨es, clock, (hb bm (heap_lt h1) (.inl rfl)).trans h1, F2, hs, rfl, hbb, fun x hx zs ho => ?_, hap⟩, fun p hp => ?_⟩
  · obtain ⟨ys, ho0⟩ := owned x hx
    rw [ho.unique (ints_keep ho0 fun k hk hk2 => hb k hk (.inr hk2))]
    exact hlen x hx ys ho0
  · rw [hm]; exact hd p hp
theorem WaitAt.next {w w' : World} {bm base n : Nat} {g : List UInt8 → List Nat} (h : WaitAt w bm base n g) (hb : Below w.heap.size w w') : WaitAt w' bm base n g := h.keep fun k hk _ => hb.block k hk
theorem WaitAt.but {w w' : World} {bm base n kb : Nat} {g : List UInt8 → List Nat} (h : WaitAt w bm base n g) (hb : But kb w w') (h1 : kb ≠ bm) (h2 : kb < base) : WaitAt w' bm base n g :=
  h.keep fun k hk hk2 => hb.block k hk (by rcases hk2 with rfl | hk2 <;> omega)
theorem WaitAt.mono {w : World} {bm base n n' : Nat} {g : List UInt8 → List Nat} (h : WaitAt w bm base n g) (hn : n ≤ n') : WaitAt w bm base n' g := by
  obtain ⟨D, ⟨es, clock, h1, F, hs, hD, hbb, hlen, hap⟩, hd⟩ := h.has
  exact ⟨D, ⟨es, clock, h1, F, Nat.le_trans hs hn, hD, hbb, fun x hx zs ho => Nat.le_trans (hlen x hx zs ho) hn, hap⟩, hd⟩
theorem zero_ints (w : World) : (zeroValue 34).run Tryd.prog w = .ok (.slice none 0 0) w := by kernel_rfl
/-- what waits for a variable, and the way back: a number more -/
theorem WaitAt.at {w : World} {bm base n : Nat} {g : List UInt8 → List Nat} (h : WaitAt w bm base n g) (p : List UInt8) (hp : p.length ≤ maxLen) (hn : n < 1000000) :
    ∃ v, (Instr.lookup 46 (.map (some bm)) (str p) false).run Tryd.prog w = .ok v w ∧ w.ownsInts base 3 .i64 v (nInts (g p)) ∧ (g p).length ≤ n ∧
      ∀ (w1 : World) (v' : Value) (j : Nat), w.grownBy w1 v.ownBlock → w1.ownsInts base 3 .i64 v' (nInts (g p ++ [j])) → (v'.ownBlock = v.ownBlock ∨ ∃ q, v'.ownBlock = some q ∧ w.heap.size ≤ q) →
        ∃ w2, (Instr.mapUpdate 46 (.map (some bm)) (str p) v').run Tryd.prog w1 = .ok () w2 ∧ WaitAt w2 bm base (n + 1) (fun u => if u = p then g p ++ [j] else g u) ∧ But bm w1 w2 := by
  obtain ⟨D, ho, hd⟩ := h.has
  have hk : WideAt.IsKeyLit (.string p) := Tryd.lawStr14.key (key_str14 p hp)
  obtain ⟨v, zs, hrun, hat, hoi, hzl, hback⟩ := ho.at Tryd.lawStr14 Tryd.underlying46 (zero_ints w) (by unfold maxLen; omega) (key_str14 p hp)
  rw [hd p hp] at hat
  obtain rfl := dat_of hoi hat.symm
  refine ⟨v, hrun, hoi, by rwa [nInts_len] at hzl, fun w1 v' j hg ho' hl => ?_⟩
  obtain ⟨w2, r1, r2, r3⟩ := hback w1 v' _ hg ho' (by rw [nInts_len] at hzl ⊢; rw [List.length_append, List.length_singleton]; omega) hl
  refine ⟨w2, r1, ⟨_, r2, fun q hq => ?_⟩, but_of_grown r3⟩
  by_cases e : q = p
  · subst e
    rw [Maps.atKey_put_same (groups_is ho) hk, if_pos rfl, ho'.datum_pos (by unfold nInts; simp)]
    unfold dat
    rw [if_neg (by simp)]
  · rw [Maps.atKey_put_other (fun he => e (by cases he; rfl)), if_neg e]
    exact hd q hq

/-- WHAT STILL WAITS, in the world w: rows as they stood in the world w0 -/
structure TellAt (w0 w : World) (bm base : Nat) (g : List UInt8 → List Nat) : Prop where
  has : ∃ (D : DataW Unit) (n : Nat), w.ownsMap Tryd.prog 9 (rowElem w0 base 3 .i64) bm n D ∧ ∀ p : List UInt8, p.length ≤ maxLen → D.atKey (.string p) .nil = dat (g p)
theorem WaitAt.tell {w : World} {bm base n : Nat} {g : List UInt8 → List Nat} (h : WaitAt w bm base n g) : TellAt w w bm base g := by
  obtain ⟨D, ⟨es, clock, h1, F, hs, hD, _⟩, hd⟩ := h.has
  exact ⟨D, n, ⟨es, clock, h1, F, hs, hD⟩, hd⟩
theorem TellAt.keep {w0 w w' : World} {bm base : Nat} {g : List UInt8 → List Nat} (h : TellAt w0 w bm base g) (hb : w'.heap[bm]? = w.heap[bm]?) : TellAt w0 w' bm base g := by
  obtain ⟨D, n, ⟨es, clock, h1, rest⟩, hd⟩ := h.has
  exact ⟨D, n, ⟨es, clock, hb.trans h1, rest⟩, hd⟩
theorem TellAt.map {w0 w : World} {bm base : Nat} {g : List UInt8 → List Nat} (h : TellAt w0 w bm base g) : ∃ es clock, w.heap[bm]? = some (.map es clock) := by
  obtain ⟨D, n, ⟨es, clock, h1, _⟩, _⟩ := h.has
  exact ⟨es, clock, h1⟩
theorem TellAt.but {w0 w w' : World} {bm base kb : Nat} {g : List UInt8 → List Nat} (h : TellAt w0 w bm base g) (hb : But kb w w') (h1 : kb ≠ bm) : TellAt w0 w' bm base g := by
  obtain ⟨es, clock, hm⟩ := h.map
  exact h.keep (hb.block bm (heap_lt hm) (Ne.symm h1))
theorem TellAt.next {w0 w w' : World} {bm base : Nat} {g : List UInt8 → List Nat} (h : TellAt w0 w bm base g) (hb : Below w.heap.size w w') : TellAt w0 w' bm base g := by
  obtain ⟨es, clock, hm⟩ := h.map
  exact h.keep (hb.block bm (heap_lt hm))
theorem TellAt.at {w0 w : World} {bm base : Nat} {g : List UInt8 → List Nat} (h : TellAt w0 w bm base g) (p : List UInt8) (hp : p.length ≤ maxLen) :
    ∃ v, (Instr.lookup 46 (.map (some bm)) (str p) false).run Tryd.prog w = .ok v w ∧ w0.ownsInts base 3 .i64 v (nInts (g p)) := by
  obtain ⟨D, n, ho, hd⟩ := h.has
  obtain ⟨v, ps, hr, hv⟩ := ho.lookup Tryd.lawStr14 Tryd.underlying46 (zero_ints w) (zd := .nil) (zp := []) (rowElem_mk (World.ownsInts_nil _ _ _ _)) (key_str14 p hp)
  rw [hd p hp] at hv
  obtain ⟨zs, hz, he⟩ := rowElem_inv hv
  injection he with he _
  obtain rfl := dat_of hz he.symm
  exact ⟨v, hr, hz⟩
theorem TellAt.drop {w0 w : World} {bm base : Nat} {g : List UInt8 → List Nat} (h : TellAt w0 w bm base g) (p : List UInt8) (hp : p.length ≤ maxLen) (ty : TypeId) :
    ∃ w', (Builtin.delete_ #[46, 9] ty #[.map (some bm), str p]).run Tryd.prog w = .ok (.tuple #[]) w' ∧ TellAt w0 w' bm base (fun u => if u = p then [] else g u) ∧ But bm w w' := by
  obtain ⟨D, n, ho, hd⟩ := h.has
  obtain ⟨w', r1, r2, r3⟩ := ho.drop Tryd.lawStr14 Tryd.underlying46 (key_str14 p hp) ty
  refine ⟨w', r1, ⟨_, n, r2, fun q hq => ?_⟩, but_of_grown r3.grown⟩
  by_cases e : q = p
  · subst e
    rw [Maps.atKey_del_same, if_pos rfl]; rfl
  · rw [Maps.atKey_del_other (fun he => e (by cases he; rfl)), if_neg e]
    exact hd q hq
end Go.Proofs.YtcncmpgababfjaaDoor
