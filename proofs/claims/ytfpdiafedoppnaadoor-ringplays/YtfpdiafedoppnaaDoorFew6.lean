/-
  What the document's examples say of the program: it is true, in whatever memory; nothing that was there turns.
-/
import Derived.BigQuiet
import Derived.Test.YtfpdiafedoppnaaDoorRo
import Derived.Test.YtfpdiafedoppnaaDoorRl
import Derived.Test.YtfpdiafedoppnaaDoorEqual
namespace Go.Proofs.YtfpdiafedoppnaaDoor
open Go.RowKit

theorem rows_new {α : Type} (D : Kd α) (w : World) (c : Array Value) (t : TypeId) (xs : List α) (h : c.toList = xs.flatMap D.enc) (hf : xs.length ≤ 9000000000000) : Row D (w.alloc (.cells c t)) (some ⟨w.heap.size, 0, none⟩) xs.length xs :=
  ⟨Nat.le_refl _, hf, (fun h => by cases h), fun ad ha j u hu => by
    cases ha
    rw [Addr.add_lit, heap_cell (heap_alloc_new w _), Nat.zero_add, ← Array.getElem?_toList, h]
    exact hu⟩
theorem may_a : may [[97]] := ⟨by decide, fun i hi _ => by
  obtain rfl : i = 0 := by simpa using hi
  exact ⟨by simp, by simp, by simp⟩⟩
theorem may_aa : ¬ may [[97], [97]] := fun m => (m.2 1 (by decide) (by decide)).2.2 (by simp)
/-- the book changes alone -/
theorem But.under {h : Nat} {w0 w w' : World} (b : Below w0.heap.size w0 w) (x : But h w w') (hh : w0.heap.size ≤ h) : Below w0.heap.size w0 w' := b.trans (x.lower hh b.size)

set_option maxRecDepth 100000 in
set_option maxHeartbeats 3200000 in
theorem live6 (w : World) (hL : Laid w) :
    Calls Tryd.prog 11 #[] w fun e w' => e = .returned (.bool true) ∧ Below w.heap.size w w' := by
  go_enter Tryd.func11, Tryd.ntmps11
  go_wp2_with fail
  have B0 := below_alloc w (.cells #[str [97], str [97]] 9)
  have h0 := rows_new sK w #[str [97], str [97]] 9 [[97], [97]] rfl (by decide)
  refine (new6_arg _ (some ⟨w.heap.size, 0, none⟩) 2 1 [[97], [97]] h0 (by decide) may_aa).mono ?_
  rintro _ w1 ⟨rfl, rfl⟩
  generalize w.alloc (.cells #[str [97], str [97]] 9) = w1 at B0 h0 ⊢
  go_wp2_with fail
  have B1 := Below.then B0 (below_alloc w1 (.cells #[str [97]] 9))
  have h1 := rows_new sK w1 #[str [97]] 9 [[97]] rfl (by decide)
  refine (new6_ok _ (some ⟨w1.heap.size, 0, none⟩) 1 1 [[97]] h1 (hL.below B1) (by decide) may_a (by decide) (by decide)).mono ?_
  rintro _ w2 ⟨rb, rfl, ⟨g, cap, bm, r2, f2⟩, b2⟩
  have B2 := Below.then B1 b2
  have F2 : w.heap.size ≤ bm := Nat.le_trans B1.size f2
  clear B0 B1 b2 f2 h0 h1
  go_wp2_with fail
  refine (sign6 w2 rb g cap bm 1 [[97]] [] [98] [120] [] none 0 r2 (hL.below B2) (Holds.nil _) ⟨by decide, by decide, by decide⟩ (by decide) (by decide)).mono ?_
  rintro _ w3 ⟨rfl, r3, x3⟩
  rw [show sgT 1 [[97]] [] [98] [120] [] = Sm.zeros 32 from rfl, show sgE [[97]] [] [98] [120] [] = 60 from rfl]
  rw [show sgL [[97]] [] [98] [120] [] = [] from rfl] at r3
  have B3 := But.under B2 x3 F2
  have iZ : (Tryd.prog.info? 42).map (·.size) = some (cs (Sm.zeros 32)).length := Tryd.infoDigest
  have oZ := cs_one (Sm.zeros 32)
  go_wp2_with (refine wpList_store_new rfl 42 _ _ rfl w3.heap.size rfl (cs (Sm.zeros 32)) rfl rfl rfl iZ oZ ?_)
  have B4 := Below.then B3 (below_alloc w3 (.cells (cs (Sm.zeros 32)).toArray 42))
  have r4 := r3.below (below_alloc w3 (.cells (cs (Sm.zeros 32)).toArray 42))
  generalize w3.alloc (.cells (cs (Sm.zeros 32)).toArray 42) = w4 at B4 r4 ⊢
  clear r2 r3 x3 B2 B3
  refine (sign6 w4 rb g cap bm 1 [[97]] [] [97] [120] [] none 0 r4 (hL.below B4) (Holds.nil _) ⟨by decide, by decide, by decide⟩ (by decide) (by decide)).mono ?_
  rintro _ w5 ⟨rfl, r5, x5⟩
  rw [show sgT 1 [[97]] [] [97] [120] [] = Mm.tag (Mm.pkey 1 [97]) [120] [] from if_pos rfl, show sgE [[97]] [] [97] [120] [] = 0 from rfl]
  rw [show sgL [[97]] [] [97] [120] [] = [([97], [120], [])] from rfl] at r5
  have B5 := But.under B4 x5 F2
  have HV : Hid (vf 1 [[97]] [97] [120] [] (Mm.tag (Mm.pkey 1 [97]) [120] []) = true) := hideP (by unfold vf; rw [beq_self_eq_true]; rfl)
  have lD := Mm.tag_length (Mm.pkey 1 [97]) [120] []
  generalize Mm.tag (Mm.pkey 1 [97]) [120] [] = D at *
  have iD : Hid ((Tryd.prog.info? 42).map (·.size) = some (cs D).length) := hideP (by rw [cs_length, lD]; exact Tryd.infoDigest)
  have oD := cs_one D
  have zD : Hid (32 = (cs D).length) := hideP (by rw [cs_length, lD])
  go_wp2_with (refine wpList_store_new rfl 42 _ _ rfl w5.heap.size rfl (cs D) rfl rfl zD.out iD.out oD ?_)
  have d6 := rangeAt_new w5 (cs D).toArray 42 (cs D) (by simp)
  have B6 := Below.then B5 (below_alloc w5 (.cells (cs D).toArray 42))
  have r6 := r5.below (below_alloc w5 (.cells (cs D).toArray 42))
  generalize w5.alloc (.cells (cs D).toArray 42) = w6 at B6 r6 d6 ⊢
  refine (verify6 w6 rb g cap bm 1 [[97]] _ [97] [120] [] D none (some ⟨w5.heap.size, 0, none⟩) 32 0 32 r6 (hL.below B6) (Holds.nil _) lD (by have := holds_range d6; rwa [lD] at this) (by decide) (by decide)).mono ?_
  rintro _ w7 ⟨rfl, b7⟩
  rw [HV.out]
  have B7 := Below.then B6 b7
  have r7 := r6.below b7
  go_wp2_with fail
  refine (len6 w7 rb g cap bm 1 [[97]] _ r7).mono ?_
  rintro _ w8 ⟨rfl, rfl⟩
  go_wp2_with fail
  go_ret
  exact ⟨rfl, B7⟩
end Go.Proofs.YtfpdiafedoppnaaDoor

/-
  Acts in memory.
-/
namespace Go.Proofs.YtfpdiafedoppnaaDoor
open Go.RowKit

structure Av where
  kind : Int
  who : List UInt8
  dom : List UInt8
  ta : Option Addr
  tc : Nat
  txt : List UInt8
  ga : Option Addr
  gc : Nat
  tag : List UInt8
def av (x : Av) : List Value := [.int .i64 x.kind, str x.who, str x.dom, .slice x.ta x.txt.length x.tc, .slice x.ga x.tag.length x.gc]
abbrev Av.val (x : Av) : Value := .agg #[.int .i64 x.kind, str x.who, str x.dom, .slice x.ta x.txt.length x.tc, .slice x.ga x.tag.length x.gc]
def aK : Kd Av := ⟨av, 5, fun _ => rfl, fun _ => rfl, by decide⟩
structure Av.At (w : World) (x : Av) : Prop where
  t : Holds w x.ta x.tc x.txt
  g : Holds w x.ga x.gc x.tag
  lw : x.who.length ≤ 140737488351232
  ld : x.dom.length ≤ 140737488351232
  lt : x.txt.length ≤ 140737488351232
  lg : x.tag.length ≤ 140737488351232
  k0 : -9223372036854775808 ≤ x.kind
  k1 : x.kind ≤ 9223372036854775807
theorem Av.At.below {w w' : World} {x : Av} (h : Av.At w x) (b : Below w.heap.size w w') : Av.At w' x := ⟨h.t.below b, h.g.below b, h.lw, h.ld, h.lt, h.lg, h.k0, h.k1⟩
theorem Av.At.fits {w : World} {x : Av} (h : Av.At w x) : Fits (x.who, x.dom, x.txt) := ⟨by have := h.lw; unfold maxLen; simp only; omega, by have := h.ld; unfold maxLen; simp only; omega, by have := h.lt; unfold maxLen; simp only; omega⟩
/-- an act in a block of its own -/
structure ActIn (w : World) (B : Nat) (x : Av) : Prop where
  blk : w.heap[B]? = some (.cells (av x).toArray 40)
theorem ActIn.below {w w' : World} {B : Nat} {x : Av} (h : ActIn w B x) (b : Below w.heap.size w w') : ActIn w' B x := ⟨below_heap b h.blk⟩
theorem ActIn.c0 {w : World} {B : Nat} {x : Av} (h : ActIn w B x) : w.cell? ⟨B, 0, none⟩ = some (.int .i64 x.kind) := by rw [heap_cell h.blk]; rfl
theorem ActIn.c1 {w : World} {B : Nat} {x : Av} (h : ActIn w B x) : w.cell? ⟨B, 1, none⟩ = some (str x.who) := by rw [heap_cell h.blk]; rfl
theorem ActIn.c2 {w : World} {B : Nat} {x : Av} (h : ActIn w B x) : w.cell? ⟨B, 2, none⟩ = some (str x.dom) := by rw [heap_cell h.blk]; rfl
theorem ActIn.c3 {w : World} {B : Nat} {x : Av} (h : ActIn w B x) : w.cell? ⟨B, 3, none⟩ = some (.slice x.ta x.txt.length x.tc) := by rw [heap_cell h.blk]; rfl
theorem ActIn.c4 {w : World} {B : Nat} {x : Av} (h : ActIn w B x) : w.cell? ⟨B, 4, none⟩ = some (.slice x.ga x.tag.length x.gc) := by rw [heap_cell h.blk]; rfl
theorem act_new (w : World) (x : Av) : ActIn (w.alloc (.cells #[.int .i64 x.kind, str x.who, str x.dom, .slice x.ta x.txt.length x.tc, .slice x.ga x.tag.length x.gc] 40)) w.heap.size x := ⟨heap_alloc_new w _⟩
end Go.Proofs.YtfpdiafedoppnaaDoor

/-
  The statements' own look at acts: light ones alone are gone on with.
-/
namespace Go.Proofs.YtfpdiafedoppnaaDoor
open Go.RowKit

def Av.sz (x : Av) : Nat := x.txt.length + x.tag.length + x.dom.length
/-- it says no, or all are light -/
def FewSays (xs : List Av) (e : Ending) : Prop := ∃ d : Bool, e = .returned (.bool d) ∧ (d = true → ∀ x ∈ xs, x.sz ≤ 9000)
theorem FewSays.no (xs : List Av) : FewSays xs (.returned (.bool false)) := ⟨false, rfl, fun h => by cases h⟩
theorem FewSays.yes {xs : List Av} (h : ∀ x ∈ xs, x.sz ≤ 9000) : FewSays xs (.returned (.bool true)) := ⟨true, rfl, fun _ => h⟩

set_option maxRecDepth 100000 in
set_option maxHeartbeats 1600000 in
theorem few6 (w : World) (a : Option Addr) (c n : Nat) (xs : List Av) (hn : xs.length = n) (h : Row aK w a c xs) (hat : ∀ x ∈ xs, Av.At w x) :
    Calls Tryd.prog 17 #[.slice a n c] w fun e w' => FewSays xs e ∧ Below w.heap.size w w' := by
  subst hn
  have few := h.few
  go_enter Tryd.func17, Tryd.ntmps17
  go_wp2_with fail
  go_loopw [3, 4] (fun u v wr => ∃ k m : Nat, u = .int .i64 (m : Int) ∧ v = .int .i64 (k : Int) ∧ k ≤ xs.length ∧ m ≤ 200 ∧ Hid (∀ i (h : i < xs.length), i < k → xs[i].sz ≤ 9000) ∧ Below w.heap.size w wr) (fun _ v _ => xs.length - (intOf v).toNat)
  case atStart => exact ⟨0, 0, rfl, rfl, by omega, by omega, hideP (fun i _ h => absurd h (by omega)), Below.refl _ _⟩
  case round =>
    obtain ⟨k, m, rfl, rfl, hk, hm, hall, hbel⟩ := hrel
    by_cases hlt : k < xs.length
    · have q0 : (k : Int) < (xs.length : Int) := by omega
      obtain ⟨b, o, rfl⟩ := h.addr (by omega)
      have rr := (h.below hbel (Nat.le_refl _)).range k hlt
      have hA := hat xs[k] (List.getElem_mem hlt)
      have HS : Hid (xs[k].sz ≤ 9000 → ∀ i (h : i < xs.length), i < k + 1 → xs[i].sz ≤ 9000) := hideP fun h1 i hi hik => by
        by_cases e : i = k
        · subst e; exact h1
        · exact hall.out i hi (by omega)
      have l1 := hA.lt; have l2 := hA.lg; have l3 := hA.ld
      generalize xs[k] = x at *
      have c2 : wr.cell? ⟨b, o + k * 5 + 2, none⟩ = some (str x.dom) := rr 2 _ rfl
      have c3 : wr.cell? ⟨b, o + k * 5 + 3, none⟩ = some (.slice x.ta x.txt.length x.tc) := rr 3 _ rfl
      have c4 : wr.cell? ⟨b, o + k * 5 + 4, none⟩ = some (.slice x.ga x.tag.length x.gc) := rr 4 _ rfl
      have hsz : (⟨x.dom.toArray⟩ : ByteArray).size = x.dom.length := by simp [ByteArray.size]
      clear rr hA
      have hs : x.sz = x.txt.length + x.tag.length + x.dom.length := rfl
      by_cases hn : m + (1 + x.sz / 40) ≤ 200
      · have q1 : ¬ (200 : Int) < (m : Int) + (1 + ((x.txt.length : Int) + (x.tag.length : Int) + (x.dom.length : Int)) / 40) := by rw [hs] at hn; omega
        have HS' := hideP (HS.out (by omega))
        go_wp2_with fail
        go_quiet (fail)
        go_wp2_with fail
        refine ⟨⟨k + 1, m + (1 + x.sz / 40), by rw [hs]; simp, rfl, hlt, hn, HS', Below.then hbel (below_drewN (Below.refl _ _) _)⟩, by simp [intOf]; omega⟩
      · have q1 : (200 : Int) < (m : Int) + (1 + ((x.txt.length : Int) + (x.tag.length : Int) + (x.dom.length : Int)) / 40) := by rw [hs] at hn; omega
        go_wp2_with fail
        go_quiet (fail)
        go_wp2_with fail
        go_ret
        exact ⟨FewSays.no xs, Below.then hbel (below_drewN (Below.refl _ _) _)⟩
    · have q0 : ¬ (k : Int) < (xs.length : Int) := by omega
      have HY : Hid (∀ x ∈ xs, x.sz ≤ 9000) := hideP fun x hx => by
        obtain ⟨i, hi, rfl⟩ := List.getElem_of_mem hx
        exact hall.out i hi (by omega)
      go_wp2_with fail
      go_ret
      exact ⟨FewSays.yes HY.out, hbel⟩
end Go.Proofs.YtfpdiafedoppnaaDoor
