/-
  What holds round by round in TableStops.
-/
import Derived.Test.YtomiefhfkdfgbaaRl15
import Derived.Deep.AppendLies
namespace Go.Proofs.Ytomiefhfkdfgbaa
open Go.RowKit Go.Shelf Go.Sort

theorem Rd5.lower {n0 n : Nat} {X : Nat → Prop} {W W' : World} (h : Rd5 n0 X W W') (hX : ∀ k, X k → n ≤ k) (hn : n ≤ n0) (hw : n ≤ W.heap.size) : Below n W W' :=
  ⟨h.os, h.tape, h.output, h.size, fun k hk => by
    have hlt : k < W.heap.size := by omega
    rw [Array.getElem?_eq_getElem hlt]
    exact h.same k _ (Array.getElem?_eq_getElem hlt) (fun q => by have := hX k q; omega) (.inl (by omega))⟩
def XX (b sb : Nat) : Nat → Prop := fun k => k = b ∨ k = sb
/-- a table, where another row of facts grows -/
theorem tab_grown {W W' : World} {b m base n : Nat} {a : Option Addr} {cap : Nat} {ps : List Pn} {v : Value} {us : List Value} (h : TabAt W b m a cap ps) (ho : W.ownsRow base 34 4 v n us) (hg : W.grownBy W' v.ownBlock) (hq : ∀ p ∈ ps, v.ownBlock ≠ some p.q) : TabAt W' b m a cap ps :=
  ⟨Safe.grown (ty := 66) ho hg (by decide) _ _ h.cell, ⟨h.lst.row.safe (Safe.grown (ty := 72) ho hg (by decide)), fun p hp => ⟨(hg.block p.q (heap_lt (h.lst.each p hp).cell) (fun e => hq p hp e.symm)).trans (h.lst.each p hp).cell, (h.lst.each p hp).args.safe (Safe.grown (ty := 50) ho hg (by decide))⟩⟩, h.sorted, h.room, h.low, h.high, h.wide⟩
/-- a table, where constants that are not its own turn -/
theorem RowT.but {α : Type} {D : Kd α} {ty : TypeId} {W W' : World} {R : Nat} {a : Option Addr} {cap : Nat} {xs : List α} (h : RowT D ty W a cap xs) (hb : But R W W') (hn : ∀ ad, a = some ad → ad.block ≠ R) : RowT D ty W' a cap xs :=
  ⟨⟨h.row.room, h.row.few, h.row.void, fun ad ha j u hu => by
      obtain ⟨cur, hc⟩ := h.tag ad ha
      rw [← h.row.cells ad ha j u hu]
      exact World.cell?_of_block (w := W) (by rw [addr_add_block, hb.heap (hn ad ha) hc, hc])⟩, fun ad ha => by
    obtain ⟨cur, hc⟩ := h.tag ad ha
    exact ⟨cur, hb.heap (hn ad ha) hc⟩⟩
theorem tab_spoilt {W W' : World} {b m R : Nat} {C : Array Value} {a : Option Addr} {cap : Nat} {ps : List Pn} (h : TabAt W b m a cap ps) (hb : But R W W') (hR : W.heap[R]? = some (.cells C 50)) (hq : ∀ p ∈ ps, ∀ ad, p.x.a = some ad → ad.block ≠ R) : TabAt W' b m a cap ps :=
  ⟨Safe.but (ty := 66) hb hR (by decide) _ _ h.cell, ⟨h.lst.row.safe (Safe.but (ty := 72) hb hR (by decide)), fun p hp => ⟨Safe.but (ty := 34) hb hR (by decide) _ _ (h.lst.each p hp).cell, (h.lst.each p hp).args.but hb (hq p hp)⟩⟩, h.sorted, h.room, h.low, h.high, h.wide⟩
/-- WHAT HOLDS where a round begins: what is seen, what lies in the table, all below N0; nothing else turned since w -/
structure SI (w : World) (b sb N0 : Nat) (pre : List F) (W : World) : Prop where
  st : ∃ (ys : List Fv) (a : Option Addr) (c : Nat) (a2 : Option Addr) (c2 : Nat) (ps : List Pn), W.heap[sb]? = some (.cells #[.slice a (List.length ys) c] 41) ∧ W.ownsRow w.heap.size 34 fK.k (.slice a (List.length ys) c) ys.length (ys.flatMap fK.enc) ∧
    (∀ z ∈ ys, RowT kK 50 W z.a z.cap z.ks ∧ ∀ ad, z.a = some ad → ad.block < N0) ∧ ys.map Fv.f = pre ∧ TabAt W b 4096 a2 c2 ps ∧ (∀ p ∈ ps, (Value.slice a (List.length ys) c).ownBlock ≠ some p.q ∧ ∀ ad, p.x.a = some ad → ad.block < N0) ∧ ∀ g, (Value.slice a (List.length ys) c).ownBlock = some g → g < N0
  rd : Rd5 w.heap.size (XX b sb) w W
  big : N0 ≤ W.heap.size
theorem SI.itr {w A A' : World} {b sb N0 B : Nat} {pre : List F} (h : SI w b sb N0 pre A) (hit : Itr noT B A A') (hB : w.heap.size ≤ B) : SI w b sb N0 pre A' := by
  obtain ⟨ys, a, c, a2, c2, ps, h1, h2, h3, h4, h5, h6, h7⟩ := h.st
  exact ⟨⟨ys, a, c, a2, c2, ps, hit.same _ _ _ _ h1 (by decide), ownsRow_keep h2 (hit.safe (by decide)), fun z hz => ⟨(h3 z hz).1.safe (hit.safe (by decide)), (h3 z hz).2⟩, h4, h5.safe ⟨hit.safe (by decide), hit.safe (by decide), hit.safe (by decide)⟩ (hit.safe (by decide)), h6, h7⟩, h.rd.itr hit hB, Nat.le_trans h.big hit.size⟩
theorem SI.below {w A A' : World} {b sb N0 : Nat} {pre : List F} (h : SI w b sb N0 pre A) (hb : Below A.heap.size A A') : SI w b sb N0 pre A' := h.itr (B := w.heap.size) (Itr.below hb h.rd.size) (Nat.le_refl _)
/-- a row of facts of the call's own, one more -/
theorem owp_append_one15 (w : World) {o : Oper} {a : Act} {K : Act → World → Prop} {Q : Exit → Act → World → Prop} (s x : Operand)
    (ho : o.op = .call { callee := .builtin .append, args := #[s, x], argTypes := #[41, 41] })
    (base : Nat) (v : Value) (ys : List Fv) (z : Fv) (ad : Addr) (c : Nat) (hs : a.eval s = v) (hown : w.ownsRow base 34 fK.k v ys.length (ys.flatMap fK.enc)) (hx : a.eval x = .slice (some ad) 1 c) (hl : Row fK w (some ad) c [z]) (hb : base ≤ w.heap.size) (hn : ys.length ≤ 900000)
    (h : ∀ g cap w', w'.ownsRow base 34 fK.k (.slice (some ⟨g, 0, none⟩) (ys ++ [z]).length cap) (ys ++ [z]).length ((ys ++ [z]).flatMap fK.enc) → w.grownBy w' v.ownBlock → (v.ownBlock = some g ∨ g = w.heap.size) → g < w'.heap.size → K (a.put o.dst (.slice (some ⟨g, 0, none⟩) (ys ++ [z]).length cap)) w') : o.wp Try.prog a w K Q := by
  obtain ⟨i0, hi, hz0, hz1, hz2⟩ := info_parts Try.iFk15
  refine wp_append_lies w s x 41 ho base 34 i0 _ 4 72 Try.underlying41 hi hz0 hz1 hz2 rfl (by decide) v ys.length (ys.flatMap fK.enc) hs hown ad 1 c (fK.enc z) hx rfl (fun j u hu => hl.cells _ rfl j u (by simpa using hu)) (fun u hu => List.all_eq_true.1 (fK.one z) u hu) (by omega) (by unfold maxLen; omega) (by omega) hb _ rfl ?_
  intro g cap w' h1 h2 h3 h4
  have e : (ys ++ [z]).length = ys.length + 1 := by simp
  have e2 : (ys ++ [z]).flatMap fK.enc = ys.flatMap fK.enc ++ fK.enc z := by simp
  have := h g cap w' (by rw [e, e2]; exact h1) h2 h3 h4
  rw [e] at this
  exact this
/-- one fact in a slice -/
def OneFv (z : Fv) (v : Value) (W : World) : Prop := ∃ k, v = .slice (some ⟨k, 0, none⟩) 1 1 ∧ W.heap[k]? = some (.cells (fv z).toArray 34)
/-- a copy of it -/
def CopyV (n : Nat) (z : Fv) (v : Value) (W : World) : Prop := ∃ ad c y, v = .slice (some ad) 1 c ∧ RowT fK 34 W (some ad) c [y] ∧ RowT kK 50 W y.a y.cap y.ks ∧ (∀ ad, y.a = some ad → n ≤ ad.block) ∧ y.f = z.f
theorem OneFv.below {z : Fv} {v : Value} {W W' : World} (h : OneFv z v W) (hb : Below W.heap.size W W') : OneFv z v W' := by
  obtain ⟨k, h1, h2⟩ := h
  exact ⟨k, h1, below_heap hb h2⟩
theorem CopyV.below {n : Nat} {z : Fv} {v : Value} {W W' : World} (h : CopyV n z v W) (hb : Below W.heap.size W W') : CopyV n z v W' := by
  obtain ⟨ad, c, y, h1, h2, h3, h4, h5⟩ := h
  exact ⟨ad, c, y, h1, h2.safe (Safe.below hb), h3.safe (Safe.below hb), h4, h5⟩
theorem copy1_at (k : Nat) (z : Fv) (w : World) (n : Nat) (hn : n ≤ w.heap.size) (H : w.heap[k]? = some (.cells (fv z).toArray 34)) (R : RowT kK 50 w z.a z.cap z.ks) (h9 : z.ks.length ≤ 900000) :
    Calls Try.prog 30 #[.slice (some ⟨k, 0, none⟩) 1 1] w fun e w' => ∃ v, e = .returned v ∧ CopyV n z v w' ∧ Below w.heap.size w w' := by
  have hr : Row fK w (some ⟨k, 0, none⟩) 1 [z] := ⟨by simp, by simp, (fun h => by cases h), fun ad ha j u hu => by
    cases ha
    rw [Addr.add_lit, heap_cell H, Nat.zero_add]
    simpa [fK] using hu⟩
  refine (rcopy15_at (some ⟨k, 0, none⟩) 1 [z] w hr (fun x hx => by rw [List.mem_singleton.1 hx]; exact row_args R.row) (by simp) (fun x hx => by rw [List.mem_singleton.1 hx]; exact h9)).mono ?_
  rintro e w' ⟨⟨a', c', zs, rfl, h1, h2, h3, h4⟩, hb⟩
  obtain ⟨y, rfl⟩ : ∃ y, zs = [y] := by
    have := congrArg List.length h4
    rw [List.length_map, List.length_map] at this
    exact List.length_eq_one_iff.1 this
  have hyf : y.f = z.f := by simpa using h4
  obtain ⟨P, O, rfl⟩ := h1.row.addr (show 0 < [y].length by simp)
  exact ⟨_, rfl, ⟨_, c', y, rfl, h1, (h3 y (by simp)).1, fun ad ha => Nat.le_trans hn ((h3 y (by simp)).2 ad ha), hyf⟩, hb⟩
theorem build_fact (z : Fv) (X : World) : (Instr.buildSlice 41 1 #[(0, z.val)]).run Try.prog X = .ok (.slice (some ⟨X.heap.size, 0, none⟩) 1 1) (X.alloc (.cells (fv z).toArray 34)) := by
  obtain ⟨z1, z2, z3, za, zc, zk⟩ := z
  kernel_rfl
theorem si_of {w W : World} {b sb g cap c2 : Nat} {ys : List Fv} {a2 : Option Addr} {ps : List Pn} (h1 : W.heap[sb]? = some (.cells #[.slice (some ⟨g, 0, none⟩) (List.length ys) cap] 41)) (h2 : W.ownsRow w.heap.size 34 fK.k (.slice (some ⟨g, 0, none⟩) (List.length ys) cap) ys.length (ys.flatMap fK.enc)) (hg : g < W.heap.size) (h3 : ∀ y ∈ ys, RowT kK 50 W y.a y.cap y.ks) (h5 : TabAt W b 4096 a2 c2 ps) (h6 : ∀ p ∈ ps, g ≠ p.q) (rd : Rd5 w.heap.size (XX b sb) w W) : SI w b sb W.heap.size (ys.map Fv.f) W :=
  ⟨⟨ys, _, cap, a2, c2, ps, h1, h2, fun y hy => ⟨h3 y hy, fun ad ha => by
    obtain ⟨cur, hc⟩ := (h3 y hy).tag ad ha
    exact heap_lt hc⟩, rfl, h5, fun p hp => ⟨fun e => h6 p hp (by cases e; rfl), fun ad ha => by
    obtain ⟨cur, hc⟩ := (h5.lst.each p hp).args.tag ad ha
    exact heap_lt hc⟩, fun k e => by cases e; exact hg⟩, rd, Nat.le_refl _⟩
theorem spoil_end {w W W' : World} {b sb g cap c2 : Nat} {z : Fv} {ys : List Fv} {a2 : Option Addr} {ps : List Pn} (hR : RowT kK 50 W z.a z.cap z.ks) (hz : ∀ ad, z.a = some ad → w.heap.size ≤ ad.block) (hS : W = W' ∨ ∃ ad, z.a = some ad ∧ But ad.block W W')
    (h1 : W.heap[sb]? = some (.cells #[.slice (some ⟨g, 0, none⟩) (List.length ys) cap] 41)) (h2 : W.ownsRow w.heap.size 34 fK.k (.slice (some ⟨g, 0, none⟩) (List.length ys) cap) ys.length (ys.flatMap fK.enc)) (hg : g < W.heap.size) (h3 : ∀ y ∈ ys, RowT kK 50 W y.a y.cap y.ks ∧ ∀ ad ad', y.a = some ad → z.a = some ad' → ad.block ≠ ad'.block) (h5 : TabAt W b 4096 a2 c2 ps) (h6 : ∀ p ∈ ps, g ≠ p.q ∧ ∀ ad ad', p.x.a = some ad → z.a = some ad' → ad.block ≠ ad'.block) (rd : Rd5 w.heap.size (XX b sb) w W) :
    SI w b sb W'.heap.size (ys.map Fv.f) W' ∧ ∀ X, Rd5 w.heap.size X W W' := by
  rcases hS with rfl | ⟨ad, ha, hb⟩
  · exact ⟨si_of h1 h2 hg (fun y hy => (h3 y hy).1) h5 (fun p hp => (h6 p hp).1) rd, fun X => Rd5.refl _ _ _⟩
  · obtain ⟨cur, hc⟩ := hR.tag ad ha
    have hrd : ∀ X, Rd5 w.heap.size X W W' := fun X => Rd5.butL hb hc (by simp [loose]) (hz ad ha)
    exact ⟨si_of (Safe.but (ty := 41) hb hc (by decide) _ _ h1) (ownsRow_keep h2 (Safe.but (ty := 34) hb hc (by decide))) (Nat.lt_of_lt_of_le hg hb.size) (fun y hy => (h3 y hy).1.but hb fun ad' ha' => (h3 y hy).2 ad' ad ha' ha) (tab_spoilt h5 hb hc fun p hp ad' ha' => (h6 p hp).2 ad' ad ha' ha) (fun p hp => (h6 p hp).1) (rd.trans (hrd _)), hrd⟩
end Go.Proofs.Ytomiefhfkdfgbaa
