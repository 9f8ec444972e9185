/-
  The contract of Add: what is added stands behind what was added; nothing that was there turns, but the Hash itself.
-/
import Derived.Test.YtfpdiafedoppnaaDoorObj
import Derived.Laws.CopyOwn
namespace Go.Proofs.YtfpdiafedoppnaaDoor
open Go.RowKit

/-- of what was there, nothing turned but block h -/
structure But (h : Nat) (w w' : World) : Prop where
  os : w'.os = w.os
  tape : w'.tape = w.tape
  output : w'.output = w.output
  size : w.heap.size ≤ w'.heap.size
  block : ∀ k, k < w.heap.size → k ≠ h → w'.heap[k]? = w.heap[k]?
theorem But.refl (h : Nat) (w : World) : But h w w := ⟨rfl, rfl, rfl, Nat.le_refl _, fun _ _ _ => rfl⟩
theorem But.trans {h : Nat} {a b c : World} (x : But h a b) (y : But h b c) : But h a c :=
  ⟨y.os.trans x.os, y.tape.trans x.tape, y.output.trans x.output, Nat.le_trans x.size y.size, fun k hk hn => (y.block k (Nat.lt_of_lt_of_le hk x.size) hn).trans (x.block k hk hn)⟩
theorem But.below {h : Nat} {a b c : World} (x : But h a b) (y : Below b.heap.size b c) : But h a c :=
  x.trans ⟨y.os, y.tape, y.output, y.size, fun k hk _ => y.block k hk⟩
theorem But.set {h : Nat} {a b : World} (x : But h a b) (o : Nat) (v : Value) : But h a (b.setCell ⟨h, o, none⟩ v) :=
  x.trans (by
    have s : Below 0 b (b.setCell ⟨h, o, none⟩ v) := (Below.refl 0 b).setCell (p := ⟨h, o, none⟩) (Nat.zero_le _) v
    exact ⟨s.os, s.tape, s.output, s.size, fun k _ hn => Below.heap_setCell b ⟨h, o, none⟩ v k hn⟩)
theorem But.cells {h : Nat} {a : World} : ∀ (V : List Value) (o : Nat) (b : World), But h a b → But h a (b.setCells h o V)
  | [], _, _, x => x
  | v :: r, o, b, x => by rw [World.setCells]; exact But.cells r (o + 1) _ (x.set o v)
theorem But.drew {h : Nat} {a b : World} (x : But h a b) : But h a b.drew := x.below (Below.refl _ _).drew
theorem But.lower {h B : Nat} {w w' : World} (x : But h w w') (hB : B ≤ h) (hw : B ≤ w.heap.size) : Below B w w' :=
  ⟨x.os, x.tape, x.output, x.size, fun k hk => x.block k (Nat.lt_of_lt_of_le hk hw) (by omega)⟩
theorem But.cell {h : Nat} {w w' : World} (x : But h w w') {p : Addr} (hp : p.block ≠ h) (hs : p.block < w.heap.size) : w'.cell? p = w.cell? p := World.cell?_of_block (w := w) (x.block p.block hs hp)
theorem But.frozen {h : Nat} {w w' : World} (x : But h w w') {p : Addr} (hp : p.block ≠ h) (hs : p.block < w.heap.size) : w'.frozen? p = w.frozen? p := World.frozen?_of_block (w := w) (x.block p.block hs hp)
theorem But.range {h : Nat} {w w' : World} (x : But h w w') {g o : Nat} {l : List Value} (hg : g ≠ h) (r : w.rangeAt g o l) : w'.rangeAt g o l := fun j v hv => by
  have := r j v hv
  rw [x.cell (p := ⟨g, o + j, none⟩) hg (cell_block this)]; exact this
theorem But.laid {h : Nat} {w w' : World} (x : But h w w') (hh : 1 < h) (L : Laid w) : Laid w' := ⟨x.range (by omega) L.start, x.range (by omega) L.mix⟩
theorem But.holds {h : Nat} {w w' : World} (x : But h w w') {a : Option Addr} {c : Nat} {l : List UInt8} (hl : Holds w a c l) (hne : ∀ ad, a = some ad → 0 < l.length → ad.block ≠ h) : Holds w' a c l :=
  ⟨hl.1, hl.2.1, fun ad ha j u hu => by
    have hc := hl.2.2 ad ha j u hu
    have hb : (ad.add j).block = ad.block := by unfold Addr.add; split <;> rfl
    have hj : 0 < l.length := by have := (List.getElem?_eq_some_iff.1 hu).1; rw [cs_length] at this; omega
    rw [x.cell (by rw [hb]; exact hne ad ha hj) (cell_block hc)]
    exact hc⟩
theorem But.rep {h g : Nat} {w w' : World} (x : But h w w') {l : List UInt8} (hg : g ≠ h) (r : Rep w g l) : Rep w' g l :=
  ⟨by rw [x.cell (p := ⟨g, 0, none⟩) hg r.block]; exact r.made, x.range hg r.st, x.range hg r.tl, by rw [x.cell (p := ⟨g, 73, none⟩) hg r.block]; exact r.n, fun j hj => by
    obtain ⟨h1, h2⟩ := r.t j hj
    exact ⟨by rw [x.cell (p := ⟨g, 0 + j, none⟩) hg r.block]; exact h1, by rw [x.frozen (p := ⟨g, 0 + j, none⟩) hg r.block]; exact h2⟩⟩

/-- copy into a row's middle, the world behind it under a name -/
theorem wpList_copy_ex {P : Program} {w : World} {ops : Array Oper} {rest : List Oper} {o : Oper} {a : Act} {Q : Exit → Act → World → Prop} (hgd : o.guard = none) (d s : Operand) (dT sT : TypeId)
    (ho : o.op = .call { callee := .builtin .copy, args := #[d, s], argTypes := #[dT, sT] }) (elem : TypeId) (hu : P.underlying dT = some (.slice elem)) (hsz : (P.info? elem).map (·.size) = some 1)
    (g off dLen dCap : Nat) (ad : Addr) (sLen sCap : Nat) (hd : a.eval d = .slice (some ⟨g, off, none⟩) dLen dCap) (hs : a.eval s = .slice (some ad) sLen sCap)
    (cs : List Value) (hn : cs.length = Nat.min sLen dLen) (hsrc : ∀ j v, cs[j]? = some v → w.cell? (ad.add j) = some v) (ht : w.there g off cs.length) (h1 : ∀ v ∈ cs, v.oneCell' = true)
    (h : ∀ w', w.setCells g off cs = w' → wpList P ops Q rest (a.put o.dst (goInt cs.length)) w') : wpList P ops Q (o :: rest) a w := by
  refine wpList_plain hgd fun K hK => ?_
  have hrun := run_copy_cells (P := P) w dT sT o.type elem g off dLen dCap ad sLen sCap cs hu hsz hn hsrc (fun j hj => (ht j hj).1) (fun j hj => (ht j hj).2) h1
  unfold Oper.wp
  simp [execOp, ho, resolve, invoke, builtin, hd, hs, hrun, Result.andThen]
  exact hK _ _ (h _ rfl)

/-- the call of a function whose contract tells one value, in a region that draws its order -/
theorem wpOp_enter {P : Program} {ops : Array Oper} {Q : Exit → Act → World → Prop} {i : Nat} {K : Act → World → Prop} {a : Act} {w : World} {o : Oper} {f : FuncId} {args : Array Value} {v : Value} {R : World → Prop} (hi : ops[i]? = some o) (hgd : o.guard = none)
    (he : (execOp a.eval o).run P w = .ok (.enter f args) w) (hc : Calls P f args w fun e w' => e = .returned v ∧ R w') (h : ∀ w', R w' → K (a.put o.dst v) w') : wpOp P ops Q i K a w := by
  unfold wpOp
  simp only [hi]
  rw [if_pos (by unfold Region.wanted; rw [hgd])]
  left
  unfold Oper.wp
  rw [he]
  exact hc.mono fun e w' ⟨h1, h2⟩ => by subst h1; exact h w' h2
/-- a whole row read, in a region that draws its order -/
theorem wpOp_load_mid {P : Program} {ops : Array Oper} {Q : Exit → Act → World → Prop} {i : Nat} {K : Act → World → Prop} {a : Act} {w : World} {o : Oper} (hi : ops[i]? = some o) (hgd : o.guard = none) (ty : TypeId) (x : Operand) (ho : o.op = .load ty x)
    (b off : Nat) (hx : a.eval x = .pointer (some ⟨b, off, none⟩)) (V : List Value) (d : TypeDesc) (hc : w.rangeAt b off V) (hu : P.underlying ty = some d) (hd : d.isRow = true) (hin : (P.info? ty).map (·.size) = some V.length)
    (h : K (a.put o.dst (.agg V.toArray)) w) : wpOp P ops Q i K a w := by
  unfold wpOp
  simp only [hi]
  rw [if_pos (by unfold Region.wanted; rw [hgd])]
  left
  exact wp_load_mid ty x ho b off hx V d hc hu hd hin h
/-- a whole row stored, in a region that draws its order -/
theorem wpOp_store_mid {P : Program} {ops : Array Oper} {Q : Exit → Act → World → Prop} {i : Nat} {K : Act → World → Prop} {a : Act} {w : World} {o : Oper} (hi : ops[i]? = some o) (hgd : o.guard = none) (ty : TypeId) (x y : Operand) (ho : o.op = .store ty x y)
    (b off : Nat) (V : List Value) (hx : a.eval x = .pointer (some ⟨b, off, none⟩)) (hy : a.eval y = .agg V.toArray) (ht : w.there b off V.length) (hin : (P.info? ty).map (·.size) = some V.length) (h1 : ∀ u ∈ V, u.oneCell' = true)
    (h : K (a.put o.dst undef) (w.setCells b off V)) : wpOp P ops Q i K a w := by
  unfold wpOp
  simp only [hi]
  rw [if_pos (by unfold Region.wanted; rw [hgd])]
  left
  exact wp_store_mid ty x y ho b off V.toArray hx hy (by simpa using ht) (by simpa using hin) (all_oneCell_toArray h1) (by simpa using h)

theorem rangeAt_into {w : World} {g o e : Nat} {b p : List UInt8} (h : w.rangeAt g o (cs b)) (hT : w.there g (o + e) p.length) (he : e + p.length ≤ b.length) : (w.setCells g (o + e) (cs p)).rangeAt g o (cs (Sm.into b p e)) := fun j v hv => by
  have hp : (cs p).length = p.length := cs_length p
  have eI : cs (Sm.into b p e) = (cs b).take e ++ cs p ++ (cs b).drop (e + p.length) := by simp [Sm.into, cs, List.map_take, List.map_drop]
  have ht : ((cs b).take e).length = e := by rw [List.length_take, cs_length]; omega
  rw [eI, List.append_assoc] at hv
  by_cases h1 : j < e
  · rw [List.getElem?_append_left (by omega), List.getElem?_take, if_pos h1] at hv
    rw [World.cell?_setCells_out g (cs p) (o + e) w ⟨g, o + j, none⟩ (fun _ _ => by left; show o + j < o + e; omega)]
    exact h j v hv
  · rw [List.getElem?_append_right (by omega), ht] at hv
    by_cases h2 : j < e + p.length
    · rw [List.getElem?_append_left (by omega)] at hv
      have hS := World.rangeAt_setCells_same w g (o + e) (cs p) (by rw [hp]; exact hT) (j - e) v hv
      rwa [show o + e + (j - e) = o + j by omega] at hS
    · rw [List.getElem?_append_right (by omega), hp, List.getElem?_drop, show e + p.length + (j - e - p.length) = j by omega] at hv
      rw [World.cell?_setCells_out g (cs p) (o + e) w ⟨g, o + j, none⟩ (fun _ _ => by right; show o + e + (cs p).length ≤ o + j; omega)]
      exact h j v hv
end Go.Proofs.YtfpdiafedoppnaaDoor
