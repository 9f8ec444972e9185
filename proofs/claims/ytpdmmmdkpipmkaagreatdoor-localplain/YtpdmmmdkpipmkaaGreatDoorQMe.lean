/-
  Rules in memory of their own, all of whose rows lie apart: what a write leaves.
-/
import Derived.Test.YtpdmmmdkpipmkaaGreatDoorQFrame
import Derived.Test.YtpdmmmdkpipmkaaGreatDoorQCb
namespace Go.Proofs.YtpdmmmdkpipmkaaGreatDoor
open Go.RowKit

def bks (a : Option Addr) : List Nat := a.toList.map (·.block)
def blks (x : Rv) : List Nat := bks x.a ++ (bks x.ba ++ x.body.flatMap (fun l => bks l.a))
theorem mem_bks {a : Option Addr} {b : Nat} : b ∈ bks a ↔ ∃ ad, a = some ad ∧ ad.block = b := by
  cases a with
  | none => simp [bks]
  | some ad => simp [bks]; exact ⟨Eq.symm, Eq.symm⟩
/-- numbers that rise, none below L, all below S -/
structure Ris (L : Nat) (l : List Nat) (S : Nat) : Prop where
  up : l.Pairwise (· < ·)
  lt : ∀ b ∈ l, b < S
  ge : ∀ b ∈ l, L ≤ b
  le : L ≤ S
theorem Ris.nil {L S : Nat} (h : L ≤ S) : Ris L [] S := ⟨.nil, fun _ h => by simp at h, fun _ h => by simp at h, h⟩
theorem Ris.mono {L : Nat} {l : List Nat} {S S' : Nat} (h : Ris L l S) (hs : S ≤ S') : Ris L l S' := ⟨h.up, fun b hb => Nat.lt_of_lt_of_le (h.lt b hb) hs, h.ge, Nat.le_trans h.le hs⟩
theorem Ris.one {L : Nat} {l : List Nat} {S S' : Nat} {a : Option Addr} (h : Ris L l S) (h1 : ∀ ad, a = some ad → S ≤ ad.block ∧ ad.block < S') (hs : S ≤ S') : Ris L (l ++ bks a) S' := by
  cases a with
  | none => simpa [bks] using h.mono hs
  | some ad =>
    obtain ⟨h2, h3⟩ := h1 ad rfl
    refine ⟨?_, fun b hb => ?_, fun b hb => ?_, Nat.le_trans h.le hs⟩
    · show (l ++ [ad.block]).Pairwise (· < ·)
      rw [List.pairwise_append]
      refine ⟨h.up, by simp, fun x hx y hy => ?_⟩
      rw [List.mem_singleton] at hy; subst hy
      exact Nat.lt_of_lt_of_le (h.lt x hx) h2
    · rcases List.mem_append.1 hb with hb | hb
      · exact Nat.lt_of_lt_of_le (h.lt b hb) hs
      · have hb' : b ∈ [ad.block] := hb
        rw [List.mem_singleton] at hb'; subst hb'; exact h3
    · rcases List.mem_append.1 hb with hb | hb
      · exact h.ge b hb
      · have hb' : b ∈ [ad.block] := hb
        rw [List.mem_singleton] at hb'; subst hb'; exact Nat.le_trans h.le h2

/-- rules in rows of their own, apart from each other, none below L -/
structure Mem (L : Nat) (w : World) (a : Option Addr) (c : Nat) (zs : List Rv) : Prop where
  row : RowT rK 48 w a c zs
  each : ∀ z ∈ zs, Rv.At w z
  out_ : ∀ i j (hi : i < zs.length) (hj : j < zs.length), i ≠ j → ∀ b ∈ blks zs[i], b ∉ blks zs[j]
  in_ : ∀ z ∈ zs, (blks z).Nodup
  low : ∀ z ∈ zs, ∀ b ∈ blks z, L ≤ b
  low0 : ∀ ad, a = some ad → L ≤ ad.block
theorem Mem.of_ris {L : Nat} {w : World} {a : Option Addr} {c S : Nat} {zs : List Rv} (h1 : RowT rK 48 w a c zs) (h2 : ∀ z ∈ zs, Rv.At w z) (h : Ris L (zs.flatMap blks) S) (h0 : ∀ ad, a = some ad → L ≤ ad.block) : Mem L w a c zs := by
  obtain ⟨h3, h4⟩ := List.pairwise_flatMap.1 h.up
  rw [List.pairwise_iff_getElem] at h4
  refine ⟨h1, h2, fun i j hi hj hn b hb hb' => ?_, fun z hz => (h3 z hz).imp Nat.ne_of_lt, fun z hz b hb => h.ge b (List.mem_flatMap.2 ⟨z, hz, hb⟩), h0⟩
  rcases Nat.lt_or_gt_of_ne hn with h | h
  · exact absurd (h4 i j hi hj h b hb b hb') (Nat.lt_irrefl _)
  · exact absurd (h4 j i hj hi h b hb' b hb) (Nat.lt_irrefl _)
theorem Mem.below {L : Nat} {w w' : World} {a : Option Addr} {c : Nat} {zs : List Rv} (h : Mem L w a c zs) (hb : Below w.heap.size w w') : Mem L w' a c zs :=
  ⟨h.row.safe (Safe.below hb), fun z hz => (h.each z hz).below hb, h.out_, h.in_, h.low, h.low0⟩

/-- a row that lies in another block stands -/
theorem RowT.but {α : Type} {D : Kd α} {ty : TypeId} {w w' : World} {a : Option Addr} {cap b : Nat} {xs : List α} (h : RowT D ty w a cap xs) (hb : But b w w') (hn : b ∉ bks a) : RowT D ty w' a cap xs := by
  have hne : ∀ ad, a = some ad → ad.block ≠ b := fun ad ha e => hn (mem_bks.2 ⟨ad, ha, e⟩)
  refine ⟨⟨h.row.room, h.row.few, h.row.void, fun ad ha j u hu => ?_⟩, fun ad ha => ?_⟩
  · obtain ⟨cur, hc⟩ := h.tag ad ha
    rw [← h.row.cells ad ha j u hu]
    exact World.cell?_of_block (w := w) (by rw [addr_add_block]; exact hb.block _ (heap_lt hc) (hne ad ha))
  · obtain ⟨cur, hc⟩ := h.tag ad ha
    exact ⟨cur, hb.heap (hne ad ha) hc⟩
/-- blocks of two types are not one -/
theorem RowT.apart {α : Type} {D : Kd α} {ty ty' : TypeId} {w : World} {a : Option Addr} {cap b : Nat} {xs : List α} {C : Array Value} (h : RowT D ty w a cap xs) (hb : w.heap[b]? = some (.cells C ty')) (hn : ty ≠ ty') : b ∉ bks a := fun hm => by
  obtain ⟨ad, ha, rfl⟩ := mem_bks.1 hm
  obtain ⟨cur, hc⟩ := h.tag ad ha
  rw [hb] at hc; cases hc; exact hn rfl
/-- the same cells, told otherwise -/
theorem RowT.told {α : Type} {D : Kd α} {ty : TypeId} {w : World} {a : Option Addr} {cap : Nat} {xs ys : List α} (h : RowT D ty w a cap xs) (hl : ys.length = xs.length) (he : ys.flatMap D.enc = xs.flatMap D.enc) : RowT D ty w a cap ys :=
  ⟨⟨by rw [hl]; exact h.row.room, by rw [hl]; exact h.row.few, fun ha => ⟨List.eq_nil_of_length_eq_zero (by rw [hl, (h.row.void ha).1]; rfl), (h.row.void ha).2⟩, by rw [he]; exact h.row.cells⟩, h.tag⟩
theorem cell_setCells_other (b : Nat) (p : Addr) : ∀ (V : List Value) (o : Nat) (w : World), (p.spot = none → p.block = b → p.off < o ∨ o + V.length ≤ p.off) → (w.setCells b o V).cell? p = w.cell? p
  | [], _, _, _ => rfl
  | v :: r, o, w, h => by
    rw [World.setCells, cell_setCells_other b p r (o + 1) _ (fun h1 h2 => by have := h h1 h2; simp only [List.length_cons] at this; omega)]
    refine World.cell?_setCell_other (h := fun e => ?_) ..
    subst e
    have := h rfl rfl
    simp only [List.length_cons] at this; omega
theorem cell_setCells_in (b : Nat) : ∀ (V : List Value) (o : Nat) (w : World) (j : Nat) (u : Value), V[j]? = some u → (∀ k, k < V.length → (w.cell? ⟨b, o + k, none⟩).isSome = true) → (w.setCells b o V).cell? ⟨b, o + j, none⟩ = some u
  | [], _, _, j, u, h, _ => by simp at h
  | v :: r, o, w, 0, u, h, hs => by
    simp only [List.getElem?_cons_zero, Option.some.injEq] at h
    subst h
    rw [World.setCells, cell_setCells_other b _ r (o + 1) _ (fun _ _ => .inl (by simp))]
    have := hs 0 (by simp)
    exact World.cell?_setCell_same' _ _ _ (by simpa using this)
  | v :: r, o, w, j + 1, u, h, hs => by
    rw [World.setCells]
    have := cell_setCells_in b r (o + 1) (w.setCell ⟨b, o, none⟩ v) j u (by simpa using h) (fun k hk => by
      have h1 := hs (k + 1) (by simp; omega)
      rw [World.cell?_setCell_other (h := fun e => by injection e with _ e1; omega)]
      rwa [Nat.add_right_comm, Nat.add_assoc])
    rwa [Nat.add_right_comm, Nat.add_assoc] at this
/-- a part of one record of a row written over -/
theorem RowT.part {α : Type} {D : Kd α} {ty : TypeId} {w : World} {b o cap k d : Nat} {xs : List α} {x : α} {V : List Value} (h : RowT D ty w (some ⟨b, o, none⟩) cap xs) (hk : k < xs.length) (hd : d + V.length ≤ D.k)
    (h1 : ∀ c, d ≤ c → c < d + V.length → (D.enc x)[c]? = V[c - d]?) (h2 : ∀ c, (c < d ∨ d + V.length ≤ c) → (D.enc x)[c]? = (D.enc xs[k])[c]?) : RowT D ty (w.setCells b (o + k * D.k + d) V) (some ⟨b, o, none⟩) cap (xs.set k x) := by
  obtain ⟨cur, hc⟩ := h.tag _ rfl
  refine ⟨⟨by rw [List.length_set]; exact h.row.room, by rw [List.length_set]; exact h.row.few, (fun ha => by cases ha), fun ad ha j u hu => ?_⟩, fun ad ha => ?_⟩
  · cases ha
    rw [Addr.add_lit]
    have hj := (List.getElem?_eq_some_iff.1 hu).1
    rw [flat_len D.enc D.k D.len, List.length_set] at hj
    obtain ⟨i, hi, c, hcD, rfl⟩ : ∃ i, i < xs.length ∧ ∃ c, c < D.k ∧ j = i * D.k + c := ⟨j / D.k, Nat.div_lt_of_lt_mul (by rw [Nat.mul_comm]; exact hj), j % D.k, Nat.mod_lt _ D.pos, by have := Nat.div_add_mod' j D.k; omega⟩
    rw [flat_get D.enc D.k D.len _ i c (by rw [List.length_set]; exact hi) hcD, List.getElem_set] at hu
    by_cases e : k = i
    · subst e
      rw [if_pos rfl] at hu
      by_cases hcd : d ≤ c ∧ c < d + V.length
      · rw [h1 c hcd.1 hcd.2] at hu
        rw [show o + (k * D.k + c) = o + k * D.k + d + (c - d) by omega]
        refine cell_setCells_in b V (o + k * D.k + d) w (c - d) u hu (fun i hi => ?_)
        rw [show o + k * D.k + d + i = o + k * D.k + (d + i) by omega, h.row.range k hk (d + i) _ (List.getElem?_eq_getElem (by rw [D.len]; omega))]; rfl
      · rw [h2 c (by omega)] at hu
        have := h.row.range k hk c u hu
        rw [cell_setCells_other b _ _ _ _ (fun _ _ => by simp only; omega), show o + (k * D.k + c) = o + k * D.k + c by omega]
        exact this
    · rw [if_neg e] at hu
      have := h.row.range i hi c u hu
      rw [cell_setCells_other b _ _ _ _ (fun _ _ => ?_), show o + (i * D.k + c) = o + i * D.k + c by omega]
      · exact this
      · simp only
        rcases Nat.lt_or_gt_of_ne e with h1 | h1
        · right
          have : (k + 1) * D.k ≤ i * D.k := Nat.mul_le_mul_right _ h1
          rw [Nat.add_mul] at this; omega
        · left
          have : (i + 1) * D.k ≤ k * D.k := Nat.mul_le_mul_right _ h1
          rw [Nat.add_mul] at this; omega
  · cases ha
    exact ⟨_, heap_setCells b ty V (o + k * D.k + d) cur w hc⟩
/-- one record of a row written over -/
theorem RowT.set {α : Type} {D : Kd α} {ty : TypeId} {w : World} {b o cap k : Nat} {xs : List α} {x : α} (h : RowT D ty w (some ⟨b, o, none⟩) cap xs) (hk : k < xs.length) : RowT D ty (w.setCells b (o + k * D.k) (D.enc x)) (some ⟨b, o, none⟩) cap (xs.set k x) :=
  RowT.part (d := 0) h hk (by rw [D.len]; omega) (fun c _ _ => rfl) (fun c hc => by
    rw [D.len] at hc
    rw [List.getElem?_eq_none (by rw [D.len]; omega), List.getElem?_eq_none (by rw [D.len]; omega)])
end Go.Proofs.YtpdmmmdkpipmkaaGreatDoor
