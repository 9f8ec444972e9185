/-
  The reference's Is, Tag, Made, Verify.
-/
import Derived.Test.YtfpdiafedoppnaaDoorRr
import Derived.Test.YtfpdiafedoppnaaDoorRTag
import Derived.Test.YtfpdiafedoppnaaDoorMKey
import Derived.Laws.StructEq
namespace Go.Proofs.YtfpdiafedoppnaaDoor
open Go.RowKit

set_option maxRecDepth 100000 in
set_option maxHeartbeats 1600000 in
theorem ris6 (w : World) (base qb : Nat) (na : Option Addr) (nc : Nat) (v : Value) (seed : Int) (N : List (List UInt8)) (L : List P3) (who : List UInt8) (q : QAt w base qb na nc v seed N L) :
    Calls Tryd.prog 15 #[.pointer (some ⟨qb, 0, none⟩), str who] w fun e w' => e = .returned (.bool (decide (who ∈ N))) ∧ w = w' := by
  have few := q.few
  have c1 := q.c1
  go_enter Tryd.func15, Tryd.ntmps15
  go_wp2_with fail
  go_loopw [5] (fun u wr => ∃ k : Nat, u = .int .i64 (k : Int) ∧ k ≤ N.length ∧ Hid (who ∉ N.take k) ∧ w = wr) (fun u _ => N.length - (intOf u).toNat)
  case atStart => exact ⟨0, rfl, by omega, hideP (by simp), rfl⟩
  case round =>
    obtain ⟨k, rfl, hk, hno, rfl⟩ := hrel
    by_cases hlt : k < N.length
    · have q0 : (k : Int) < (N.length : Int) := by omega
      obtain ⟨b, o, rfl⟩ := q.names.row.addr (by omega)
      have c2 := q.names.row.text k hlt
      by_cases hq : N[k] = who
      · have q1 : (N[k] == who) = true := by simpa using hq
        have HM := hideP (decide_eq_true (show who ∈ N from hq ▸ List.getElem_mem hlt))
        clear hq
        go_wp2_with fail
        go_ret
        exact ⟨by rw [HM.out]; rfl, rfl⟩
      · have q1 : (N[k] == who) = false := by simpa using hq
        have HN : Hid (who ∉ N.take (k + 1)) := hideP (by
          rw [← List.take_append_getElem hlt]
          simp only [List.mem_append, List.mem_singleton, not_or]
          exact ⟨hno.out, fun e => hq e.symm⟩)
        clear hq
        go_wp2_with fail
        exact ⟨⟨k + 1, rfl, hlt, HN, by first | rfl | trivial⟩, by simp [intOf]; omega⟩
    · have q0 : ¬ (k : Int) < (N.length : Int) := by omega
      obtain rfl : k = N.length := by omega
      have hno' := hno.out
      rw [List.take_length] at hno'
      have HM := hideP (decide_eq_false hno')
      clear hno'
      go_wp2_with fail
      go_ret
      exact ⟨by rw [HM.out]; rfl, rfl⟩

set_option maxRecDepth 100000 in
set_option maxHeartbeats 1600000 in
theorem rtag6 (w : World) (base qb : Nat) (na : Option Addr) (nc : Nat) (v : Value) (seed : Int) (N : List (List UInt8)) (L : List P3) (who dom txt : List UInt8) (a : Option Addr) (c : Nat) (q : QAt w base qb na nc v seed N L) (ha : Holds w a c txt) (lw : who.length ≤ 140737488351232) (ld : dom.length ≤ 10000000000) (lt : txt.length ≤ 10000000000) :
    Calls Tryd.prog 22 #[.pointer (some ⟨qb, 0, none⟩), str who, str dom, .slice a txt.length c] w fun e w' => e = .returned (ba (Mm.tag (Mm.pkey seed who) dom txt)) ∧ Below w.heap.size w w' := by
  have lF := Mm.pkey_length seed who
  have iF : Hid ((Tryd.prog.info? 42).map (·.size) = some (cs (Mm.pkey seed who)).length) := hideP (by rw [cs_length, lF]; exact Tryd.infoDigest)
  have oF := cs_one (Mm.pkey seed who)
  have zF : Hid (32 = (cs (Mm.pkey seed who)).length) := hideP (by rw [cs_length, lF])
  go_enter Tryd.func22, Tryd.ntmps22
  have B0 := below_alloc w (.cells (cs (Sm.zeros 32)).toArray 42)
  have t0 := there_new w (cs (Sm.zeros 32)).toArray 42 32 rfl
  have c0 : ∀ o, (w.alloc o).cell? ⟨qb, 0, none⟩ = some (.int .i64 seed) := fun o => (q.below (below_alloc w o)).c0
  go_wp2_with fail
  change Calls _ _ _ (w.alloc (.cells (cs (Sm.zeros 32)).toArray 42)) _
  generalize w.alloc (.cells (cs (Sm.zeros 32)).toArray 42) = w0 at B0 t0 ⊢
  refine (rkey_any seed who w0 q.s0 q.s1 lw).mono ?_
  rintro _ w1 ⟨rfl, b1⟩
  have B2 := Below.then (Below.then B0 b1) (below_alloc w1 (.cells (cs (Mm.pkey seed who)).toArray 42))
  have t2 := there_below (there_below t0 b1) (below_alloc w1 (.cells (cs (Mm.pkey seed who)).toArray 42))
  have f2 := rangeAt_new w1 (cs (Mm.pkey seed who)).toArray 42 (cs (Mm.pkey seed who)) (by simp)
  clear b1 B0 t0 c0
  generalize hF : Mm.pkey seed who = F at *
  have HF := hideP hF
  clear hF
  go_wp2_with (refine wpList_store_new rfl 42 _ _ rfl w1.heap.size rfl (cs F) rfl rfl zF.out iF.out oF ?_)
  generalize w1.alloc (.cells (cs F).toArray 42) = w2 at B2 t2 f2 ⊢
  refine (rtag_at F dom txt (some ⟨w1.heap.size, 0, none⟩) a 32 txt.length 32 c w2 lF rfl (by have := holds_range f2; rwa [lF] at this) (ha.below B2) (by decide) (by omega) (by omega)).mono ?_
  rintro _ w5 ⟨rfl, b5⟩
  have lT := Mm.tag_length F dom txt
  generalize hT : Mm.tag F dom txt = T at *
  have HT := hideP hT
  clear hT
  have iT : Hid ((Tryd.prog.info? 42).map (·.size) = some (cs T).length) := hideP (by rw [cs_length, lT]; exact Tryd.infoDigest)
  have oT := cs_one T
  have t5 : Hid (w5.there w.heap.size 0 (cs T).length) := hideP (by rw [cs_length, lT]; exact there_below t2 b5)
  have P6 := below_cells (Nat.le_refl _) (cs T) 0 w5 (Below.then B2 b5)
  have R6 := World.rangeAt_setCells_same w5 w.heap.size 0 (cs T) t5.out
  go_wp2_with (refine wpList_store_ex rfl 42 _ _ rfl w.heap.size 0 (cs T) rfl rfl t5.out iT.out oT ?_; intro w6 hw6; rw [hw6] at P6 R6; clear hw6)
  exact bodyPost_ret (results_cell (b := w.heap.size) (o := 0) (cs := cs T) rfl rfl R6 Tryd.underlying42 rfl iT.out) rfl ⟨by rw [HF.out, HT.out], P6⟩

theorem eqPair (p p' : P3) (w : World) : (Op.equalIn 10000 71 (sg p) (sg p')).run Tryd.prog w = .ok (decide (p = p')) w := by
  rw [run_equalIn_struct w 9999 71 _ _ (by kernel_rfl) (by kernel_rfl)]
  simp only [Program.fieldsOf, Tryd.underlying71, Op.eqFields]
  obtain ⟨a, b, c⟩ := p; obtain ⟨a', b', c'⟩ := p'
  simp [part, Tryd.isAgg9, run_equalIn_string w 9998 _ _ _ Tryd.underlying9]
  by_cases h1 : a = a' <;> by_cases h2 : b = b' <;> by_cases h3 : c = c' <;> simp [h1, h2, h3]

set_option maxRecDepth 100000 in
set_option maxHeartbeats 1600000 in
theorem rmade6 (w : World) (base qb : Nat) (na : Option Addr) (nc : Nat) (v : Value) (seed : Int) (N : List (List UInt8)) (L : List P3) (who dom txt : List UInt8) (a : Option Addr) (c : Nat) (q : QAt w base qb na nc v seed N L) (ha : Holds w a c txt) (hf : L.length ≤ 9000000) :
    Calls Tryd.prog 24 #[.pointer (some ⟨qb, 0, none⟩), str who, str dom, .slice a txt.length c] w fun e w' => e = .returned (.bool (decide ((who, dom, txt) ∈ L))) ∧ Below w.heap.size w w' := by
  have cv := conv ha
  go_enter Tryd.func24, Tryd.ntmps24
  have B0 := below_alloc w (.cells #[str who, str dom, str txt] 71)
  have x0 : (w.alloc (.cells #[str who, str dom, str txt] 71)).heap[w.heap.size]? = some (.cells #[str who, str dom, str txt] 71) := heap_alloc_new w _
  obtain ⟨ba0, bc0, rfl, hb0, _⟩ := own_row (D := qK) q.book (by omega)
  go_wp2_with fail
  go_loopw [10] (fun u wr => ∃ k : Nat, u = .int .i64 (k : Int) ∧ k ≤ L.length ∧ Hid ((who, dom, txt) ∉ L.take k) ∧ Below w.heap.size w wr ∧ wr.heap[w.heap.size]? = some (.cells #[str who, str dom, str txt] 71)) (fun u _ => L.length - (intOf u).toNat)
  case atStart => exact ⟨0, rfl, by omega, hideP (by simp), B0, x0⟩
  case round =>
    obtain ⟨k, rfl, hk, hno, hbel, hx⟩ := hrel
    clear B0 x0
    have c2 := (q.below hbel).c2
    by_cases hlt : k < L.length
    · have q0 : (k : Int) < (L.length : Int) := by omega
      obtain ⟨b, o, rfl⟩ := hb0.row.addr (by omega)
      have rr := (hb0.row.below hbel (Nat.le_refl _)).range k hlt
      have e0 : wr.cell? ⟨w.heap.size, 0, none⟩ = some (str who) := by rw [heap_cell hx]; rfl
      have e1 : wr.cell? ⟨w.heap.size, 1, none⟩ = some (str dom) := by rw [heap_cell hx]; rfl
      have e2 : wr.cell? ⟨w.heap.size, 2, none⟩ = some (str txt) := by rw [heap_cell hx]; rfl
      have hE := eqPair L[k] (who, dom, txt)
      have HN : Hid (L[k] ≠ (who, dom, txt) → (who, dom, txt) ∉ L.take (k + 1)) := hideP fun hq => by
        rw [← List.take_append_getElem hlt]
        simp only [List.mem_append, List.mem_singleton, not_or]
        exact ⟨hno.out, fun e => hq e.symm⟩
      have HM : Hid (L[k] = (who, dom, txt) → decide ((who, dom, txt) ∈ L) = true) := hideP fun hq => decide_eq_true (hq ▸ List.getElem_mem hlt)
      generalize L[k] = p at *
      obtain ⟨p1, p2, p3⟩ := p
      have f0 : wr.cell? ⟨b, o + k * 3, none⟩ = some (str p1) := rr 0 _ rfl
      have f1 : wr.cell? ⟨b, o + k * 3 + 1, none⟩ = some (str p2) := rr 1 _ rfl
      have f2 : wr.cell? ⟨b, o + k * 3 + 2, none⟩ = some (str p3) := rr 2 _ rfl
      clear rr hno
      by_cases hq : (p1, p2, p3) = (who, dom, txt)
      · have hd : decide ((p1, p2, p3) = (who, dom, txt)) = true := by simpa using hq
        rw [hd] at hE
        have HM' := hideP (HM.out hq)
        clear hq hd HM HN
        go_wp2_with fail
        go_quiet (fail)
        go_wp2_with fail
        go_ret
        exact ⟨by rw [HM'.out]; rfl, Below.then hbel (below_drewN (Below.refl _ _) _)⟩
      · have hd : decide ((p1, p2, p3) = (who, dom, txt)) = false := by simpa using hq
        rw [hd] at hE
        have HN' := hideP (HN.out hq)
        clear hq hd HM HN
        go_wp2_with fail
        go_quiet (fail)
        go_wp2_with fail
        exact ⟨⟨k + 1, rfl, hlt, HN', Below.then hbel (below_drewN (Below.refl _ _) _), hx⟩, by simp [intOf]; omega⟩
    · have q0 : ¬ (k : Int) < (L.length : Int) := by omega
      obtain rfl : k = L.length := by omega
      have hno' := hno.out
      rw [List.take_length] at hno'
      have HM := hideP (decide_eq_false hno')
      clear hno'
      go_wp2_with fail
      go_ret
      exact ⟨by rw [HM.out]; rfl, hbel⟩
end Go.Proofs.YtfpdiafedoppnaaDoor
