/-
  The document's own sum, by definition: what holds while it walks the padded text's blocks.
-/
import Derived.Test.YtfpdiafedoppnaaDoorRefA
import Derived.Test.YtfpdiafedoppnaaDoorRefP
namespace Go.Proofs.YtfpdiafedoppnaaDoor
open Go.RowKit

/-- what holds at each block: S the state's block, K the rounds' words, p the padded text -/
structure RefAt (w : World) (S K g cap : Nat) (P : List UInt8) (s : List Sm.Wd) (wr : World) : Prop where
  st : wr.rangeAt S 0 (ws s)
  stT : wr.there S 0 8
  mix : wr.rangeAt K 0 (ws Sm.mix)
  txt : Holds wr (some ⟨g, 0, none⟩) cap P
  res : wr.there w.heap.size 0 32
  bel : Below w.heap.size w wr
  hS : w.heap.size < S
  hK : S < K
  hg : K < g
theorem RefAt.below {w : World} {S K g cap : Nat} {P : List UInt8} {s : List Sm.Wd} {wr w' : World} (h : RefAt w S K g cap P s wr) (hb : Below wr.heap.size wr w') : RefAt w S K g cap P s w' :=
  ⟨rangeAt_below h.st hb, there_below h.stT hb, rangeAt_below h.mix hb, h.txt.below hb, there_below h.res hb, Below.then h.bel hb, h.hS, h.hK, h.hg⟩
theorem RefAt.other {w : World} {S K g cap : Nat} {P : List UInt8} {s : List Sm.Wd} {wr : World} (h : RefAt w S K g cap P s wr) (X j : Nat) (v : Value) (hX : g < X) : RefAt w S K g cap P s (wr.setCell ⟨X, j, none⟩ v) := by
  have h1 := h.hS
  have h2 := h.hK
  have h3 := h.hg
  exact ⟨rangeAt_other h.st (by omega) _, there_set h.stT _ _ _, rangeAt_other h.mix (by omega) _, (But.set (But.refl X wr) j v).holds h.txt (fun ad e _ => by cases e; show g ≠ X; omega), there_set h.res _ _ _, h.bel.setCell (p := ⟨X, j, none⟩) (by show w.heap.size ≤ X; omega) v, h1, h2, h3⟩
theorem RefAt.sum {w : World} {S K g cap i : Nat} {P : List UInt8} {s r : List Sm.Wd} {wr : World} (h : RefAt w S K g cap P (Sm.mixed s r i) wr) (hs : s.length = 8) (hr : r.length = 8) (hi : i < 8) (v : Value) (hv : v = wv (Sm.at' s i + Sm.at' r i)) :
    RefAt w S K g cap P (Sm.mixed s r (i + 1)) (wr.setCell ⟨S, i, none⟩ v) := by
  subst hv
  have h1 := h.hS
  have h2 := h.hK
  have h3 := h.hg
  refine ⟨?_, there_set h.stT _ _ _, rangeAt_other h.mix (by omega) _, (But.set (But.refl S wr) i _).holds h.txt (fun ad e _ => by cases e; show g ≠ S; omega), there_set h.res _ _ _, h.bel.setCell (p := ⟨S, i, none⟩) (by show w.heap.size ≤ S; omega) _, h1, h2, h3⟩
  rw [Sm.mixed_succ s r i hs hr hi, ← ws_set]
  exact rangeAt_set h.st i _

/-- the words of a block, as far as they have been laid into block X: t whole ones, the next one c -/
structure WdsAt (B : List UInt8) (X t : Nat) (c : Sm.Wd) (wr : World) : Prop where
  wds : wr.rangeAt X 0 (wz (Sm.words B t) |>.set t (wv c))
  th : wr.there X 0 64
theorem WdsAt.below {B : List UInt8} {X t : Nat} {c : Sm.Wd} {wr w' : World} (h : WdsAt B X t c wr) (hb : Below wr.heap.size wr w') : WdsAt B X t c w' := ⟨rangeAt_below h.wds hb, there_below h.th hb⟩
theorem wz_zero (l : List Sm.Wd) (h : l.length < 64) : (wz l).set l.length (wv 0) = wz l := by
  rw [wz, List.set_append_right _ _ (by rw [ws_length]; omega), ws_length, Nat.sub_self, show 64 - l.length = (64 - l.length - 1) + 1 by omega, List.replicate_succ, List.set_cons_zero]
theorem wz_next (B : List UInt8) (t : Nat) (ht : t < 64) : (wz (Sm.words B t)).set t (wv (Sm.next B (Sm.words B t))) = wz (Sm.words B (t + 1)) := by
  have hl := Sm.words_length B t
  unfold wz
  rw [Sm.words_length, Sm.words_length, Sm.words_succ, List.set_append_right t _ (by rw [ws_length, hl]; omega), ws_length, hl, Nat.sub_self, show 64 - t = (64 - (t + 1)) + 1 by omega, List.replicate_succ, List.set_cons_zero, ws, ws, List.map_append, List.append_assoc]
  rfl
/-- t words are whole -/
theorem WdsAt.whole {B : List UInt8} {X t : Nat} {wr : World} (h : WdsAt B X t (Sm.next B (Sm.words B t)) wr) (ht : t + 1 < 64) : WdsAt B X (t + 1) 0 wr := by
  refine ⟨?_, h.th⟩
  have := h.wds
  rw [wz_next B t (by omega)] at this
  have e := wz_zero (Sm.words B (t + 1)) (by rw [Sm.words_length]; exact ht)
  rw [Sm.words_length] at e
  rw [e]
  exact this
theorem WdsAt.put {B : List UInt8} {X t : Nat} {c : Sm.Wd} {wr : World} (h : WdsAt B X t c wr) (c' : Sm.Wd) (v : Value) (hv : v = wv c') : WdsAt B X t c' (wr.setCell ⟨X, t, none⟩ v) := by
  subst hv
  refine ⟨?_, there_set h.th _ _ _⟩
  have := rangeAt_set h.wds t (wv c')
  rwa [List.set_set] at this
theorem WdsAt.next {B : List UInt8} {X t : Nat} {wr : World} (h : wr.rangeAt X 0 (wz (Sm.words B t))) (ht : t < 64) (v : Value) (hv : v = wv (Sm.next B (Sm.words B t))) : (wr.setCell ⟨X, t, none⟩ v).rangeAt X 0 (wz (Sm.words B (t + 1))) := by
  subst hv
  rw [← wz_next B t ht]
  exact rangeAt_set h t _
theorem WdsAt.start (B : List UInt8) (w : World) (Z : Array Value) (hZ : Z.toList = wz []) (t : TypeId) : WdsAt B w.heap.size 0 0 (w.alloc (.cells Z t)) := by
  have e := wz_zero (Sm.words B 0) (by rw [Sm.words_length]; omega)
  rw [Sm.words_length, Sm.words_zero] at e
  refine ⟨?_, there_new w Z t 64 (by rw [← Array.length_toList, hZ]; rfl)⟩
  rw [Sm.words_zero, e]
  exact rangeAt_new w Z t _ hZ
theorem WdsAt.range {B : List UInt8} {X t : Nat} {wr : World} (h : WdsAt B X t 0 wr) (ht : t < 64) : wr.rangeAt X 0 (wz (Sm.words B t)) := by
  have e := wz_zero (Sm.words B t) (by rw [Sm.words_length]; exact ht)
  rw [Sm.words_length] at e
  have := h.wds
  rwa [e] at this
theorem WdsAt.cell {B : List UInt8} {X t : Nat} {c : Sm.Wd} {wr : World} (h : WdsAt B X t c wr) (ht : t < 64) : wr.cell? ⟨X, t, none⟩ = some (wv c) := by
  have hl : t < (wz (Sm.words B t)).length := by rw [wz_length _ (by rw [Sm.words_length]; omega)]; exact ht
  have := h.wds t (wv c) (List.getElem?_set_self hl)
  rwa [Nat.zero_add] at this
theorem by_blk (P : List UInt8) (q j : Nat) (hj : j < 64) : Sm.by' (Sm.blk P q) j = Sm.by' P (64 * q + j) := by
  rw [Sm.by', Sm.by', Sm.blk_def, List.getD_eq_getElem?_getD, List.getD_eq_getElem?_getD, List.getElem?_take, if_pos hj, List.getElem?_drop]
theorem holds_by {w : World} {g cap : Nat} {P : List UInt8} (h : Holds w (some ⟨g, 0, none⟩) cap P) (j : Nat) (hj : j < P.length) : w.cell? ⟨g, j, none⟩ = some (.int .u8 ((Sm.by' P j).toNat : Int)) := by
  have := h.cell j hj
  rw [Nat.zero_add] at this
  rw [this, Sm.by', List.getD_eq_getElem?_getD, List.getElem?_eq_getElem hj]; rfl
theorem turned_eq (a b c d e f g h x : Sm.Wd) : Sm.turned [a, b, c, d, e, f, g, h] x =
    [h + (Sm.rotr e 6 ^^^ Sm.rotr e 11 ^^^ Sm.rotr e 25) + (e &&& f ^^^ ~~~e &&& g) + x + ((Sm.rotr a 2 ^^^ Sm.rotr a 13 ^^^ Sm.rotr a 22) + (a &&& b ^^^ a &&& c ^^^ b &&& c)), a, b, c,
     d + (h + (Sm.rotr e 6 ^^^ Sm.rotr e 11 ^^^ Sm.rotr e 25) + (e &&& f ^^^ ~~~e &&& g) + x), e, f, g] := by rw [Sm.turned_def]; rfl
theorem refE (d i p q k x : Sm.Wd) : ((d.toNat : Int) + ((i.toNat : Int) + (p.toNat : Int) + (q.toNat : Int) + (k.toNat : Int) + (x.toNat : Int))) % 4294967296 = ((d + (i + p + q + (k + x))).toNat : Int) := by
  simp only [← Sm.add_eq']; omega
theorem refA (i p q k x r s : Sm.Wd) : ((i.toNat : Int) + (p.toNat : Int) + (q.toNat : Int) + (k.toNat : Int) + (x.toNat : Int) + ((r.toNat : Int) + (s.toNat : Int))) % 4294967296 = ((i + p + q + (k + x) + (r + s)).toNat : Int) := by
  simp only [← Sm.add_eq']; omega
theorem refE2 (d i p q k x : Sm.Wd) : ((d.toNat : Int) + ((i.toNat : Int) + (p.toNat : Int) + (q.toNat : Int) + (k.toNat : Int) + (x.toNat : Int)) % 4294967296) % 4294967296 = ((d + (i + p + q + (k + x))).toNat : Int) := by
  rw [← refE]; omega
theorem refA2 (i p q k x r s : Sm.Wd) : (((i.toNat : Int) + (p.toNat : Int) + (q.toNat : Int) + (k.toNat : Int) + (x.toNat : Int)) % 4294967296 + ((r.toNat : Int) + (s.toNat : Int)) % 4294967296) % 4294967296 = ((i + p + q + (k + x) + (r + s)).toNat : Int) := by
  rw [← refA]; omega
theorem not_spell (x : Sm.Wd) : bits .xor .u32 (if IntKind.u32.signed = true then -1 else IntKind.u32.max) (x.toNat : Int) = ((~~~x).toNat : Int) := Sm.not_eq x
theorem turns_two {s W R : List Sm.Wd} (h : Sm.turns s W 64 = R) (B : List UInt8) (hW : W = Sm.words B 64) (hs : s.length = 8) (hR : R.length = 8) : Sm.mixed s R 8 = Sm.after s B := by
  rw [Sm.mixed_all s R hs hR, Sm.after_def, ← hW, h]
/-- i bytes of a word -/
def acc0 (B : List UInt8) (t : Nat) : Nat → Sm.Wd
  | 0 => 0
  | i + 1 => acc0 B t i <<< 8 ||| Sm.bw (Sm.by' B (4 * t + i))
def acc (B : List UInt8) (t i : Nat) : Sm.Wd := Sm.wall (fun p : List UInt8 × Nat × Nat => acc0 p.1 p.2.1 p.2.2) 0 (B, t, i)
theorem acc_def (B : List UInt8) (t i : Nat) : acc B t i = acc0 B t i := Sm.wall_eq _ _
theorem acc_zero (B : List UInt8) (t : Nat) : acc B t 0 = 0 := acc_def _ _ _
theorem acc_succ (B : List UInt8) (t i : Nat) : acc B t (i + 1) = acc B t i <<< 8 ||| Sm.bw (Sm.by' B (4 * t + i)) := by rw [acc_def, acc_def]; rfl
theorem acc_four (B : List UInt8) (t : Nat) : acc B t 4 = Sm.word B t := by
  simp only [acc_def, acc0, Sm.word_def, BitVec.shiftLeft_or_distrib, ← BitVec.shiftLeft_add, Nat.add_zero]
  simp
theorem acc_spell (x : Sm.Wd) (b : UInt8) : bits .or .u32 (IntKind.u32.wrap ((x.toNat : Int) * 256)) (IntKind.u32.wrap (b.toNat : Int)) = ((x <<< 8 ||| Sm.bw b).toNat : Int) := by
  rw [IntKind.wrap_u32', IntKind.wrap_u32', Sm.shl8, Sm.bw_eq, Sm.or_eq]
theorem acc_spell' (x : Sm.Wd) (b : UInt8) : bits .or .u32 ((x.toNat : Int) * 256 % 4294967296) ((b.toNat : Int) % 4294967296) = ((x <<< 8 ||| Sm.bw b).toNat : Int) := by
  rw [Sm.shl8, Sm.bw_eq, Sm.or_eq]
theorem run_index_words8 (s : List Sm.Wd) (i : Nat) (w : World) (hs : s.length = 8) (hi : i < 8) : (Instr.index 91 (.agg (ws s).toArray) (.int .i64 (i : Int))).run Tryd.prog w = .ok (wv (Sm.at' s i)) w := by
  obtain ⟨a, b, c, d, e, f, g, h, rfl⟩ := Sm.eight hs
  have : i = 0 ∨ i = 1 ∨ i = 2 ∨ i = 3 ∨ i = 4 ∨ i = 5 ∨ i = 6 ∨ i = 7 := by omega
  rcases this with rfl | rfl | rfl | rfl | rfl | rfl | rfl | rfl <;> (refine @id (_ = _) ?_; kernel_rfl)
end Go.Proofs.YtfpdiafedoppnaaDoor
