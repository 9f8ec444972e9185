/-
  The reference's ring in memory; New.
-/
import Derived.Laws.StructEq
import Derived.Test.YtfpdiafedoppnaaDoorRp
import Derived.Test.YtfpdiafedoppnaaDoorRo
import Derived.Test.YtfpdiafedoppnaaDoorEqual
import Derived.Test.YtfpdiafedoppnaaDoorRTag
import Derived.Test.YtfpdiafedoppnaaDoorMKey
import Derived.Test.YtfpdiafedoppnaaDoorRl
namespace Go.Proofs.YtfpdiafedoppnaaDoor
open Go.RowKit

/-- what was signed, as the reference's book has it -/
def qK : Kd P3 := ⟨fun p => [str p.1, str p.2.1, str p.2.2], 3, fun _ => rfl, fun _ => rfl, by decide⟩
/-- THE REFERENCE's RING in the world w: block qb is it; its book is a row of its own, from block base on -/
structure QAt (w : World) (base qb : Nat) (na : Option Addr) (nc : Nat) (v : Value) (seed : Int) (N : List (List UInt8)) (L : List P3) : Prop where
  ring : w.heap[qb]? = some (.cells #[.int .i64 seed, .slice na N.length nc, v] 50)
  names : RowT sK 9 w na nc N
  book : w.ownsRow base 71 qK.k v L.length (L.flatMap qK.enc)
  low : base ≤ qb
  few : N.length ≤ 6
  s0 : -9223372036854775808 ≤ seed
  s1 : seed ≤ 9223372036854775807
theorem QAt.lt {w : World} {base qb : Nat} {na : Option Addr} {nc : Nat} {v : Value} {seed : Int} {N : List (List UInt8)} {L : List P3} (h : QAt w base qb na nc v seed N L) : qb < w.heap.size := heap_lt h.ring
theorem QAt.c0 {w : World} {base qb : Nat} {na : Option Addr} {nc : Nat} {v : Value} {seed : Int} {N : List (List UInt8)} {L : List P3} (h : QAt w base qb na nc v seed N L) : w.cell? ⟨qb, 0, none⟩ = some (.int .i64 seed) := by rw [heap_cell h.ring]; rfl
theorem QAt.c1 {w : World} {base qb : Nat} {na : Option Addr} {nc : Nat} {v : Value} {seed : Int} {N : List (List UInt8)} {L : List P3} (h : QAt w base qb na nc v seed N L) : w.cell? ⟨qb, 1, none⟩ = some (.slice na N.length nc) := by rw [heap_cell h.ring]; rfl
theorem QAt.c2 {w : World} {base qb : Nat} {na : Option Addr} {nc : Nat} {v : Value} {seed : Int} {N : List (List UInt8)} {L : List P3} (h : QAt w base qb na nc v seed N L) : w.cell? ⟨qb, 2, none⟩ = some v := by rw [heap_cell h.ring]; rfl
/-- blocks of its types stay -/
theorem QAt.safe {w w' : World} {base qb : Nat} {na : Option Addr} {nc : Nat} {v : Value} {seed : Int} {N : List (List UInt8)} {L : List P3} (h : QAt w base qb na nc v seed N L) (s1 : Safe 50 w w') (s2 : Safe 9 w w') (s3 : Safe 71 w w') : QAt w' base qb na nc v seed N L :=
  ⟨s1 _ _ h.ring, h.names.safe s2, ownsRow_keep h.book s3, h.low, h.few, h.s0, h.s1⟩
theorem QAt.below {w w' : World} {base qb : Nat} {na : Option Addr} {nc : Nat} {v : Value} {seed : Int} {N : List (List UInt8)} {L : List P3} (h : QAt w base qb na nc v seed N L) (b : Below w.heap.size w w') : QAt w' base qb na nc v seed N L :=
  h.safe (Safe.below b) (Safe.below b) (Safe.below b)

set_option maxRecDepth 100000 in
set_option maxHeartbeats 1600000 in
theorem rnew6_big (w : World) (a : Option Addr) (c : Nat) (seed : Int) (N : List (List UInt8)) (hb : ¬ N.length ≤ 6) :
    Calls Tryd.prog 10 #[.int .i64 seed, .slice a N.length c] w fun e w' => e = .returned (.tuple #[.pointer none, .int .i64 3]) ∧ w = w' := by
  have q0 : (6 : Int) < (N.length : Int) := by omega
  clear hb
  go_enter Tryd.func10, Tryd.ntmps10
  go_wp2_with fail
  go_ret2
  exact ⟨rfl, rfl⟩

/-- what New answers to at most six names -/
def NewQ (w w' : World) (seed : Int) (N : List (List UInt8)) (e : Ending) : Prop :=
  (¬ may N ∧ e = .returned (.tuple #[.pointer none, .int .i64 2])) ∨ (may N ∧ ∃ qb na nc, e = .returned (.tuple #[.pointer (some ⟨qb, 0, none⟩), .int .i64 0]) ∧ QAt w' w.heap.size qb na nc (.slice none 0 0) seed N [])
theorem NewQ.no {w w' : World} {seed : Int} {N : List (List UInt8)} (h : ¬ may N) : NewQ w w' seed N (.returned (.tuple #[.pointer none, .int .i64 2])) := .inl ⟨h, rfl⟩
theorem own_new_str (w : World) : (w.alloc (.cells #[] 9)).ownsRow w.heap.size 9 sK.k (.slice (some ⟨w.heap.size, 0, none⟩) 0 0) ([] : List (List UInt8)).length (([] : List (List UInt8)).flatMap sK.enc) :=
  ⟨rfl, .inr ⟨w.heap.size, 0, #[], rfl, Nat.le_refl _, heap_alloc_new w _, Nat.le_refl _, Nat.zero_le _, rfl, rfl⟩⟩

set_option maxRecDepth 100000 in
set_option maxHeartbeats 1600000 in
theorem rnew6 (w : World) (a : Option Addr) (c : Nat) (seed : Int) (N : List (List UInt8)) (h : Row sK w a c N) (hb : N.length ≤ 6) (s0 : -9223372036854775808 ≤ seed) (s1 : seed ≤ 9223372036854775807) :
    Calls Tryd.prog 10 #[.int .i64 seed, .slice a N.length c] w fun e w' => NewQ w w' seed N e ∧ Below w.heap.size w w' := by
  have q0 : ¬ (6 : Int) < (N.length : Int) := by omega
  by_cases h0 : N.length = 0
  · have q1 : ((N.length : Int) == 0) = true := by simpa using h0
    have hn : ¬ may N := fun m => by have := m.1; omega
    have HN := hideP hn
    clear hn h0
    go_enter Tryd.func10, Tryd.ntmps10
    go_wp2_with fail
    go_ret2
    exact ⟨NewQ.no HN.out, Below.refl _ _⟩
  have q1 : ((N.length : Int) == 0) = false := by simpa using h0
  go_enter Tryd.func10, Tryd.ntmps10
  go_wp2_with fail
  go_loopw [6] (fun v wr => ∃ i : Nat, v = .int .i64 (i : Int) ∧ i ≤ N.length ∧ Hid (okN N i) ∧ Below w.heap.size w wr) (fun v _ => N.length - (intOf v).toNat)
  case atStart => exact ⟨0, rfl, by omega, hideP (okN_zero N), Below.refl _ _⟩
  case round =>
    obtain ⟨i, rfl, hi, hok, hbel⟩ := hrel
    by_cases hlt : i < N.length
    · have q2 : (i : Int) < (N.length : Int) := by omega
      obtain ⟨b, o, rfl⟩ := h.addr (by omega)
      have c1 := (h.below hbel (Nat.le_refl _)).text i hlt
      have HS : Hid (1 ≤ N[i].length ∧ N[i].length ≤ 32 ∧ N[i] ∉ N.take i → okN N (i + 1)) := hideP (okN_step hok.out hlt)
      have HX : Hid (¬ (1 ≤ N[i].length ∧ N[i].length ≤ 32 ∧ N[i] ∉ N.take i) → ¬ may N) := hideP (not_may hlt)
      generalize hN : N[i] = n at *
      have Hn := hideP hN
      clear hN
      have hsz : (⟨n.toArray⟩ : ByteArray).size = n.length := by simp [ByteArray.size]
      by_cases h1 : n.length < 1
      · have q3 : (n.length : Int) < 1 := by omega
        have HX' := hideP (HX.out (by omega))
        clear HX HS
        go_wp2_with fail
        go_ret2
        exact ⟨NewQ.no HX'.out, hbel⟩
      have q3 : ¬ (n.length : Int) < 1 := by omega
      by_cases h2 : 32 < n.length
      · have q4 : (32 : Int) < (n.length : Int) := by omega
        have HX' := hideP (HX.out (by omega))
        clear HX HS
        go_wp2_with fail
        go_ret2
        exact ⟨NewQ.no HX'.out, hbel⟩
      have q4 : ¬ (32 : Int) < (n.length : Int) := by omega
      go_wp2_with fail
      go_loopw [7] (fun v wr => ∃ k : Nat, v = .int .i64 (k : Int) ∧ k ≤ i ∧ Hid (n ∉ N.take k) ∧ Below w.heap.size w wr) (fun v _ => i - (intOf v).toNat)
      case atStart => exact ⟨0, rfl, by omega, hideP (by simp), hbel⟩
      case round =>
        obtain ⟨k, rfl, hk, hno, hbel2⟩ := hrel
        clear c1 hbel
        by_cases hki : k < i
        · have q5 : (k : Int) < (i : Int) := by omega
          have q6 : (k : Int) < (N.length : Int) := by omega
          have d1 := (h.below hbel2 (Nat.le_refl _)).text i hlt
          have d2 := (h.below hbel2 (Nat.le_refl _)).text k (by omega)
          rw [Hn.out] at d1
          by_cases hq : N[k] = n
          · have q7 : (N[k] == n) = true := by simpa using hq
            have HX' := hideP (HX.out fun hh => hh.2.2 (by
              rw [← hq]
              exact List.mem_take_iff_getElem.2 ⟨k, by omega, rfl⟩))
            clear hq HX HS
            go_wp2_with fail
            go_quiet (fail)
            go_wp2_with fail
            go_ret2
            exact ⟨NewQ.no HX'.out, Below.then hbel2 (below_drewN (Below.refl _ _) _)⟩
          · have q7 : (N[k] == n) = false := by simpa using hq
            have HN : Hid (n ∉ N.take (k + 1)) := hideP (by
              rw [← List.take_append_getElem (show k < N.length by omega)]
              simp only [List.mem_append, List.mem_singleton, not_or]
              exact ⟨hno.out, fun e => hq e.symm⟩)
            clear hq
            go_wp2_with fail
            go_quiet (fail)
            go_wp2_with fail
            exact ⟨⟨k + 1, rfl, hki, HN, Below.then hbel2 (below_drewN (Below.refl _ _) _)⟩, by simp [intOf]; omega⟩
        · have q5 : ¬ (k : Int) < (i : Int) := by omega
          obtain rfl : k = i := by omega
          have HS' := hideP (HS.out ⟨by omega, by omega, hno.out⟩)
          go_wp2_with fail
          exact ⟨⟨k + 1, rfl, hlt, HS', hbel2⟩, by simp [intOf]; omega⟩
    · have q2 : ¬ (i : Int) < (N.length : Int) := by omega
      obtain rfl : i = N.length := by omega
      have HM : Hid (may N) := hideP ⟨by omega, hok.out⟩
      have few := h.few
      have b1 := below_alloc wr (.cells #[] 9)
      have B1 := Below.then hbel b1
      have o1 := own_new_str wr
      go_wp2_with (at_builtin; refine wpList_append_rec sK _ rfl _ _ 22 9 rfl _ 16 Tryd.underlying22 Tryd.infoStr3 rfl wr.heap.size (.slice (some ⟨wr.heap.size, 0, none⟩) 0 0) [] N a N.length c rfl o1 rfl rfl (h.below B1 (Nat.le_refl _)) b1.size (by simp; omega) (by simp; omega) ?_; intro v2 w2 o2 g2; have b2 := own_grown b1 o1 g2 b1.size; rw [List.nil_append] at o2; clear g2 o1; obtain ⟨na, nc, rfl, h2, _⟩ := own_row (D := sK) o2 few)
      have B2 : Below w.heap.size w w2 := hbel.trans (b2.mono hbel.size)
      clear b1 b2 B1
      go_ret2
      have b3 := below_alloc w2 (.cells #[.int .i64 seed, .slice na N.length nc, .slice none 0 0] 50)
      refine ⟨.inr ⟨HM.out, w2.heap.size, na, nc, rfl, ⟨heap_alloc_new w2 _, h2.safe (Safe.below b3), ⟨rfl, .inl ⟨rfl, rfl⟩⟩, B2.size, hb, s0, s1⟩⟩, Below.then B2 b3⟩
end Go.Proofs.YtfpdiafedoppnaaDoor

/-
  The reference's Is, Tag, Made, Verify.
-/
namespace Go.Proofs.YtfpdiafedoppnaaDoor
open Go.RowKit

set_option maxRecDepth 100000 in
set_option maxHeartbeats 1600000 in
theorem ris6 (w : World) (base qb : Nat) (na : Option Addr) (nc : Nat) (v : Value) (seed : Int) (N : List (List UInt8)) (L : List P3) (who : List UInt8) (q : QAt w base qb na nc v seed N L) :
    Calls Tryd.prog 15 #[.pointer (some ⟨qb, 0, none⟩), str who] w fun e w' => e = .returned (.bool (decide (who ∈ N))) ∧ w = w' := by
  have few := q.few
  have c1 := q.c1
  go_enter Tryd.func15, Tryd.ntmps15
  go_wp2_with fail
  go_loopw [5] (fun u wr => ∃ k : Nat, u = .int .i64 (k : Int) ∧ k ≤ N.length ∧ Hid (who ∉ N.take k) ∧ w = wr) (fun u _ => N.length - (intOf u).toNat)
  case atStart => exact ⟨0, rfl, by omega, hideP (by simp), rfl⟩
  case round =>
    obtain ⟨k, rfl, hk, hno, rfl⟩ := hrel
    by_cases hlt : k < N.length
    · have q0 : (k : Int) < (N.length : Int) := by omega
      obtain ⟨b, o, rfl⟩ := q.names.row.addr (by omega)
      have c2 := q.names.row.text k hlt
      by_cases hq : N[k] = who
      · have q1 : (N[k] == who) = true := by simpa using hq
        have HM := hideP (decide_eq_true (show who ∈ N from hq ▸ List.getElem_mem hlt))
        clear hq
        go_wp2_with fail
        go_ret
        exact ⟨by rw [HM.out]; rfl, rfl⟩
      · have q1 : (N[k] == who) = false := by simpa using hq
        have HN : Hid (who ∉ N.take (k + 1)) := hideP (by
          rw [← List.take_append_getElem hlt]
          simp only [List.mem_append, List.mem_singleton, not_or]
          exact ⟨hno.out, fun e => hq e.symm⟩)
        clear hq
        go_wp2_with fail
        exact ⟨⟨k + 1, rfl, hlt, HN, by first | rfl | trivial⟩, by simp [intOf]; omega⟩
    · have q0 : ¬ (k : Int) < (N.length : Int) := by omega
      obtain rfl : k = N.length := by omega
      have hno' := hno.out
      rw [List.take_length] at hno'
      have HM := hideP (decide_eq_false hno')
      clear hno'
      go_wp2_with fail
      go_ret
      exact ⟨by rw [HM.out]; rfl, rfl⟩

set_option maxRecDepth 100000 in
set_option maxHeartbeats 1600000 in
theorem rtag6 (w : World) (base qb : Nat) (na : Option Addr) (nc : Nat) (v : Value) (seed : Int) (N : List (List UInt8)) (L : List P3) (who dom txt : List UInt8) (a : Option Addr) (c : Nat) (q : QAt w base qb na nc v seed N L) (ha : Holds w a c txt) (lw : who.length ≤ 140737488351232) (ld : dom.length ≤ 10000000000) (lt : txt.length ≤ 10000000000) :
    Calls Tryd.prog 22 #[.pointer (some ⟨qb, 0, none⟩), str who, str dom, .slice a txt.length c] w fun e w' => e = .returned (ba (Mm.tag (Mm.pkey seed who) dom txt)) ∧ Below w.heap.size w w' := by
  have lF := Mm.pkey_length seed who
  have iF : Hid ((Tryd.prog.info? 42).map (·.size) = some (cs (Mm.pkey seed who)).length) := hideP (by rw [cs_length, lF]; exact Tryd.infoDigest)
  have oF := cs_one (Mm.pkey seed who)
  have zF : Hid (32 = (cs (Mm.pkey seed who)).length) := hideP (by rw [cs_length, lF])
  go_enter Tryd.func22, Tryd.ntmps22
  have B0 := below_alloc w (.cells (cs (Sm.zeros 32)).toArray 42)
  have t0 := there_new w (cs (Sm.zeros 32)).toArray 42 32 rfl
  have c0 : ∀ o, (w.alloc o).cell? ⟨qb, 0, none⟩ = some (.int .i64 seed) := fun o => (q.below (below_alloc w o)).c0
  go_wp2_with fail
  change Calls _ _ _ (w.alloc (.cells (cs (Sm.zeros 32)).toArray 42)) _
  generalize w.alloc (.cells (cs (Sm.zeros 32)).toArray 42) = w0 at B0 t0 ⊢
  refine (rkey_any seed who w0 q.s0 q.s1 lw).mono ?_
  rintro _ w1 ⟨rfl, b1⟩
  have B2 := Below.then (Below.then B0 b1) (below_alloc w1 (.cells (cs (Mm.pkey seed who)).toArray 42))
  have t2 := there_below (there_below t0 b1) (below_alloc w1 (.cells (cs (Mm.pkey seed who)).toArray 42))
  have f2 := rangeAt_new w1 (cs (Mm.pkey seed who)).toArray 42 (cs (Mm.pkey seed who)) (by simp)
  clear b1 B0 t0 c0
  generalize hF : Mm.pkey seed who = F at *
  have HF := hideP hF
  clear hF
  go_wp2_with (refine wpList_store_new rfl 42 _ _ rfl w1.heap.size rfl (cs F) rfl rfl zF.out iF.out oF ?_)
  generalize w1.alloc (.cells (cs F).toArray 42) = w2 at B2 t2 f2 ⊢
  refine (rtag_at F dom txt (some ⟨w1.heap.size, 0, none⟩) a 32 txt.length 32 c w2 lF rfl (by have := holds_range f2; rwa [lF] at this) (ha.below B2) (by decide) (by omega) (by omega)).mono ?_
  rintro _ w5 ⟨rfl, b5⟩
  have lT := Mm.tag_length F dom txt
  generalize hT : Mm.tag F dom txt = T at *
  have HT := hideP hT
  clear hT
  have iT : Hid ((Tryd.prog.info? 42).map (·.size) = some (cs T).length) := hideP (by rw [cs_length, lT]; exact Tryd.infoDigest)
  have oT := cs_one T
  have t5 : Hid (w5.there w.heap.size 0 (cs T).length) := hideP (by rw [cs_length, lT]; exact there_below t2 b5)
  have P6 := below_cells (Nat.le_refl _) (cs T) 0 w5 (Below.then B2 b5)
  have R6 := World.rangeAt_setCells_same w5 w.heap.size 0 (cs T) t5.out
  go_wp2_with (refine wpList_store_ex rfl 42 _ _ rfl w.heap.size 0 (cs T) rfl rfl t5.out iT.out oT ?_; intro w6 hw6; rw [hw6] at P6 R6; clear hw6)
  exact bodyPost_ret (results_cell (b := w.heap.size) (o := 0) (cs := cs T) rfl rfl R6 Tryd.underlying42 rfl iT.out) rfl ⟨by rw [HF.out, HT.out], P6⟩

theorem eqPair (p p' : P3) (w : World) : (Op.equalIn 10000 71 (sg p) (sg p')).run Tryd.prog w = .ok (decide (p = p')) w := by
  rw [run_equalIn_struct w 9999 71 _ _ (by kernel_rfl) (by kernel_rfl)]
  simp only [Program.fieldsOf, Tryd.underlying71, Op.eqFields]
  obtain ⟨a, b, c⟩ := p; obtain ⟨a', b', c'⟩ := p'
  simp [part, Tryd.isAgg9, run_equalIn_string w 9998 _ _ _ Tryd.underlying9]
  by_cases h1 : a = a' <;> by_cases h2 : b = b' <;> by_cases h3 : c = c' <;> simp [h1, h2, h3]

set_option maxRecDepth 100000 in
set_option maxHeartbeats 1600000 in
theorem rmade6 (w : World) (base qb : Nat) (na : Option Addr) (nc : Nat) (v : Value) (seed : Int) (N : List (List UInt8)) (L : List P3) (who dom txt : List UInt8) (a : Option Addr) (c : Nat) (q : QAt w base qb na nc v seed N L) (ha : Holds w a c txt) (hf : L.length ≤ 9000000) :
    Calls Tryd.prog 24 #[.pointer (some ⟨qb, 0, none⟩), str who, str dom, .slice a txt.length c] w fun e w' => e = .returned (.bool (decide ((who, dom, txt) ∈ L))) ∧ Below w.heap.size w w' := by
  have cv := conv ha
  go_enter Tryd.func24, Tryd.ntmps24
  have B0 := below_alloc w (.cells #[str who, str dom, str txt] 71)
  have x0 : (w.alloc (.cells #[str who, str dom, str txt] 71)).heap[w.heap.size]? = some (.cells #[str who, str dom, str txt] 71) := heap_alloc_new w _
  obtain ⟨ba0, bc0, rfl, hb0, _⟩ := own_row (D := qK) q.book (by omega)
  go_wp2_with fail
  go_loopw [10] (fun u wr => ∃ k : Nat, u = .int .i64 (k : Int) ∧ k ≤ L.length ∧ Hid ((who, dom, txt) ∉ L.take k) ∧ Below w.heap.size w wr ∧ wr.heap[w.heap.size]? = some (.cells #[str who, str dom, str txt] 71)) (fun u _ => L.length - (intOf u).toNat)
  case atStart => exact ⟨0, rfl, by omega, hideP (by simp), B0, x0⟩
  case round =>
    obtain ⟨k, rfl, hk, hno, hbel, hx⟩ := hrel
    clear B0 x0
    have c2 := (q.below hbel).c2
    by_cases hlt : k < L.length
    · have q0 : (k : Int) < (L.length : Int) := by omega
      obtain ⟨b, o, rfl⟩ := hb0.row.addr (by omega)
      have rr := (hb0.row.below hbel (Nat.le_refl _)).range k hlt
      have e0 : wr.cell? ⟨w.heap.size, 0, none⟩ = some (str who) := by rw [heap_cell hx]; rfl
      have e1 : wr.cell? ⟨w.heap.size, 1, none⟩ = some (str dom) := by rw [heap_cell hx]; rfl
      have e2 : wr.cell? ⟨w.heap.size, 2, none⟩ = some (str txt) := by rw [heap_cell hx]; rfl
      have hE := eqPair L[k] (who, dom, txt)
      have HN : Hid (L[k] ≠ (who, dom, txt) → (who, dom, txt) ∉ L.take (k + 1)) := hideP fun hq => by
        rw [← List.take_append_getElem hlt]
        simp only [List.mem_append, List.mem_singleton, not_or]
        exact ⟨hno.out, fun e => hq e.symm⟩
      have HM : Hid (L[k] = (who, dom, txt) → decide ((who, dom, txt) ∈ L) = true) := hideP fun hq => decide_eq_true (hq ▸ List.getElem_mem hlt)
      generalize L[k] = p at *
      obtain ⟨p1, p2, p3⟩ := p
      have f0 : wr.cell? ⟨b, o + k * 3, none⟩ = some (str p1) := rr 0 _ rfl
      have f1 : wr.cell? ⟨b, o + k * 3 + 1, none⟩ = some (str p2) := rr 1 _ rfl
      have f2 : wr.cell? ⟨b, o + k * 3 + 2, none⟩ = some (str p3) := rr 2 _ rfl
      clear rr hno
      by_cases hq : (p1, p2, p3) = (who, dom, txt)
      · have hd : decide ((p1, p2, p3) = (who, dom, txt)) = true := by simpa using hq
        rw [hd] at hE
        have HM' := hideP (HM.out hq)
        clear hq hd HM HN
        go_wp2_with fail
        go_quiet (fail)
        go_wp2_with fail
        go_ret
        exact ⟨by rw [HM'.out]; rfl, Below.then hbel (below_drewN (Below.refl _ _) _)⟩
      · have hd : decide ((p1, p2, p3) = (who, dom, txt)) = false := by simpa using hq
        rw [hd] at hE
        have HN' := hideP (HN.out hq)
        clear hq hd HM HN
        go_wp2_with fail
        go_quiet (fail)
        go_wp2_with fail
        exact ⟨⟨k + 1, rfl, hlt, HN', Below.then hbel (below_drewN (Below.refl _ _) _), hx⟩, by simp [intOf]; omega⟩
    · have q0 : ¬ (k : Int) < (L.length : Int) := by omega
      obtain rfl : k = L.length := by omega
      have hno' := hno.out
      rw [List.take_length] at hno'
      have HM := hideP (decide_eq_false hno')
      clear hno'
      go_wp2_with fail
      go_ret
      exact ⟨by rw [HM.out]; rfl, hbel⟩
end Go.Proofs.YtfpdiafedoppnaaDoor

/-
  The reference's Sign and Verify.
-/
namespace Go.Proofs.YtfpdiafedoppnaaDoor
open Go.RowKit

/-- of what was there, only the reference's rings and rows of pairs turned -/
structure QKeep (w w' : World) : Prop where
  size : w.heap.size ≤ w'.heap.size
  block : ∀ (k : Nat) (o : Obj), w.heap[k]? = some o → (∀ C : Array Value, o ≠ .cells C 50) → (∀ C : Array Value, o ≠ .cells C 71) → w'.heap[k]? = some o
theorem QKeep.of_below {w w' : World} (b : Below w.heap.size w w') : QKeep w w' := ⟨b.size, fun _ _ h _ _ => below_heap b h⟩
theorem QKeep.trans {a b c : World} (x : QKeep a b) (y : QKeep b c) : QKeep a c := ⟨Nat.le_trans x.size y.size, fun k o h h1 h2 => y.block k o (x.block k o h h1 h2) h1 h2⟩
theorem QKeep.safe {w w' : World} (x : QKeep w w') (ty : TypeId) (h1 : ty ≠ 50) (h2 : ty ≠ 71) : Safe ty w w' := fun k cur h => x.block k _ h (fun C e => by cases e; exact h1 rfl) (fun C e => by cases e; exact h2 rfl)
theorem QKeep.book {w w' : World} {bm : Nat} {L : List P3} (x : QKeep w w') (h : BookAt w bm L) : w'.heap[bm]? = w.heap[bm]? := by
  obtain ⟨es, clock, hb⟩ := h.map
  rw [hb]
  exact x.block bm _ hb (fun C e => by cases e) (fun C e => by cases e)
theorem QKeep.ring {w w' : World} (x : QKeep w w') {rb g cap bm : Nat} {seed : Int} {N : List (List UInt8)} {L : List P3} (r : RingAt w rb g cap bm seed N L) : RingAt w' rb g cap bm seed N L :=
  r.stays ⟨x.safe _ (by decide) (by decide), x.safe _ (by decide) (by decide), x.book r.book⟩

/-- one more in the book -/
theorem QAt.next {w w' : World} {base qb : Nat} {na : Option Addr} {nc : Nat} {v v' : Value} {seed : Int} {N : List (List UInt8)} {L : List P3} {p : P3} (q : QAt w base qb na nc v seed N L) (ho : w'.ownsRow base 71 qK.k v' (L ++ [p]).length ((L ++ [p]).flatMap qK.enc)) (hg : w.grownBy w' v.ownBlock) :
    v'.oneCell' = true ∧ w'.heap[qb]? = some (.cells #[.int .i64 seed, .slice na N.length nc, v] 50) ∧ ∀ w5 : World, w5.heap[qb]? = some (.cells #[.int .i64 seed, .slice na N.length nc, v'] 50) → But qb w' w5 → QAt w5 base qb na nc v' seed N (L ++ [p]) ∧ QKeep w w5 ∧ Below base w w5 := by
  have h1 : v'.oneCell' = true := by
    rcases ho.2 with ⟨h0, _⟩ | ⟨g, cap, cur, hv, hb, _⟩
    · rw [h0]; rfl
    · rw [hv]; rfl
  have hpair : ∀ k, v.ownBlock = some k → base ≤ k ∧ ∃ C : Array Value, w.heap[k]? = some (.cells C 71) := fun k hk => by
    rcases q.book.2 with ⟨h0, _⟩ | ⟨g, cap, cur, hv, hb, hh, _⟩
    · rw [h0] at hk; cases hk
    · rw [hv] at hk; cases hk; exact ⟨hb, cur, hh⟩
  have keep : QKeep w w' := ⟨hg.size, fun k o h _ h2 => by
    rw [hg.block k (heap_lt h) (fun e => by
      obtain ⟨_, C, hC⟩ := hpair k e.symm
      rw [h] at hC; cases hC; exact h2 _ rfl)]
    exact h⟩
  have hr : w'.heap[qb]? = some (.cells #[.int .i64 seed, .slice na N.length nc, v] 50) := by
    rw [hg.block qb q.lt (fun e => by
      obtain ⟨_, C, hC⟩ := hpair qb e.symm
      rw [q.ring] at hC; cases hC)]
    exact q.ring
  have hbase : base ≤ w.heap.size := Nat.le_trans q.low (Nat.le_of_lt q.lt)
  have hB : Below base w w' := (Below.refl _ _).grown hg hbase fun k hk => (hpair k hk).1
  refine ⟨h1, hr, fun w5 h5 x5 => ⟨⟨h5, (q.names.safe (keep.safe _ (by decide) (by decide))).safe (Safe.but x5 hr (by decide)), ownsRow_keep ho (Safe.but x5 hr (by decide)), q.low, q.few, q.s0, q.s1⟩, keep.trans ⟨x5.size, fun k o h h1 _ => x5.heap (fun e => by
    subst e; rw [hr] at h; cases h; exact h1 _ rfl) h⟩, hB.trans (x5.lower q.low (Nat.le_trans hbase hB.size))⟩⟩

theorem wp_conv {P : Program} {Q : Exit → Act → World → Prop} {K : Act → World → Prop} {a : Act} {w : World} {o : Oper} (s d : TypeId) (x : Operand) (ho : o.op = .convert s d x) (vx v : Value) (hx : a.eval x = vx) (hr : (convert s d vx).run P w = .ok v w) (h : K (a.put o.dst v) w) : o.wp P a w K Q := by
  unfold Oper.wp execOp
  simp [ho, hx, hr, Result.andThen]
  exact h
theorem wpOp_conv {P : Program} {ops : Array Oper} {Q : Exit → Act → World → Prop} {i : Nat} {K : Act → World → Prop} {a : Act} {w : World} {o : Oper} (hi : ops[i]? = some o) (hgd : o.guard = none) (s d : TypeId) (x : Operand) (ho : o.op = .convert s d x) (vx v : Value) (hx : a.eval x = vx) (hr : (convert s d vx).run P w = .ok v w) (h : K (a.put o.dst v) w) : wpOp P ops Q i K a w :=
  wpOp_of hi hgd (wp_conv s d x ho vx v hx hr h)
theorem wpOp_val {P : Program} {ops : Array Oper} {Q : Exit → Act → World → Prop} {i : Nat} {K : Act → World → Prop} {a : Act} {w : World} {o : Oper} (hi : ops[i]? = some o) (hgd : o.guard = none) (v : Value) (he : (execOp a.eval o).run P w = .ok (.value v) w) (h : K (a.put o.dst v) w) : wpOp P ops Q i K a w := wpOp_of hi hgd (wp_value he h)
theorem wpOp_one {P : Program} {ops : Array Oper} {Q : Exit → Act → World → Prop} {i : Nat} {K : Act → World → Prop} {a : Act} {w : World} {o : Oper} (hi : ops[i]? = some o) (hgd : o.guard = none) (t e : TypeId) (x : Operand) (ho : o.op = .buildSlice t 1 #[(0, x)])
    (vs : List Value) (z : Value) (k bytes : Nat) (hx : a.eval x = .agg vs.toArray) (hk : vs.length = k) (hk0 : 0 < k) (hk1 : k ≤ 1000) (hu : P.underlying t = some (.slice e)) (hin : (P.info? e).map (fun i => (i.zero, i.size, i.bytes)) = some (some z, k, bytes))
    (h : K (a.put o.dst (.slice (some ⟨w.heap.size, 0, none⟩) 1 1)) (w.alloc (.cells vs.toArray e))) : wpOp P ops Q i K a w := wpOp_of hi hgd (wp_build_one t e x ho vs z k bytes hx hk hk0 hk1 hu hin h)
theorem wpOp_app {α : Type} {P : Program} {ops : Array Oper} {Q : Exit → Act → World → Prop} {i : Nat} {K : Act → World → Prop} {a : Act} {w : World} {o : Oper} (D : Kd α) (hi : ops[i]? = some o) (hgd : o.guard = none) (s x : Operand) (t e : TypeId)
    (ho : o.op = .call { callee := .builtin .append, args := #[s, x], argTypes := #[t, t] }) (z : Value) (bytes : Nat) (ht : P.underlying t = some (.slice e)) (hinfo : (P.info? e).map (fun i => (i.zero, i.size, i.bytes)) = some (some z, D.k, bytes)) (hzs : z.cells.size = D.k)
    (base : Nat) (v : Value) (ys xs : List α) (ad : Addr) (m c : Nat) (hs : a.eval s = v) (hown : w.ownsRow base e D.k v ys.length (ys.flatMap D.enc)) (hx : a.eval x = .slice (some ad) m c) (hm : xs.length = m) (hl : Row D w (some ad) c xs) (hbase : base ≤ w.heap.size)
    (hfew : bytes * (ys.length + xs.length) ≤ 140737488355328) (hmax : ys.length + xs.length ≤ 9000000000000)
    (h : ∀ v' w', w'.ownsRow base e D.k v' (ys ++ xs).length ((ys ++ xs).flatMap D.enc) → w.grownBy w' v.ownBlock → K (a.put o.dst v') w') : wpOp P ops Q i K a w := wpOp_of hi hgd (wp_append_rec D w s x t e ho z bytes ht hinfo hzs base v ys xs ad m c hs hown hx hm hl hbase hfew hmax h)
theorem Tryd.infoPair3 : (Tryd.prog.info? 71).map (fun i => (i.zero, i.size, i.bytes)) = some (some (.agg #[str [], str [], str []]), 3, 48) := by kernel_rfl

set_option maxRecDepth 100000 in
set_option maxHeartbeats 1600000 in
theorem rverify6 (w : World) (base qb : Nat) (na : Option Addr) (nc : Nat) (v : Value) (seed : Int) (N : List (List UInt8)) (L : List P3) (who dom txt tg : List UInt8) (a b : Option Addr) (c d : Nat) (q : QAt w base qb na nc v seed N L) (ha : Holds w a c txt) (hb : Holds w b d tg) (lw : who.length ≤ 140737488351232) (ld : dom.length ≤ 10000000000) (lt : txt.length ≤ 10000000000) :
    Calls Tryd.prog 21 #[.pointer (some ⟨qb, 0, none⟩), str who, str dom, .slice a txt.length c, .slice b tg.length d] w fun e w' => e = .returned (.bool (vf seed N who dom txt tg)) ∧ Below w.heap.size w w' := by
  go_enter Tryd.func21, Tryd.ntmps21
  go_wp2_with fail
  refine (ris6 w base qb na nc v seed N L who q).mono ?_
  rintro _ w1 ⟨rfl, rfl⟩
  by_cases hw : who ∈ N
  rotate_left
  · have hd : decide (who ∈ N) = false := by simpa using hw
    have E : Hid (vf seed N who dom txt tg = false) := hideP (by unfold vf; rw [hd]; rfl)
    rw [hd]
    clear hd hw
    go_wp2_with fail
    go_ret
    exact ⟨by rw [E.out]; rfl, Below.refl _ _⟩
  have hd : decide (who ∈ N) = true := by simpa using hw
  have E : Hid (vf seed N who dom txt tg = (Mm.tag (Mm.pkey seed who) dom txt == tg)) := hideP (by unfold vf; rw [hd]; rfl)
  rw [hd]
  clear hd hw
  go_wp2_with fail
  refine (rtag6 w base qb na nc v seed N L who dom txt a c q ha lw ld lt).mono ?_
  rintro _ w5 ⟨rfl, b5⟩
  have lT := Mm.tag_length (Mm.pkey seed who) dom txt
  generalize Mm.tag (Mm.pkey seed who) dom txt = T at *
  have iT : Hid ((Tryd.prog.info? 42).map (·.size) = some (cs T).length) := hideP (by rw [cs_length, lT]; exact Tryd.infoDigest)
  have oT := cs_one T
  have zT : Hid (32 = (cs T).length) := hideP (by rw [cs_length, lT])
  have B6 := Below.then b5 (below_alloc w5 (.cells (cs T).toArray 42))
  have f6 := rangeAt_new w5 (cs T).toArray 42 (cs T) (by simp)
  go_wp2_with (refine wpList_store_new rfl 42 _ _ rfl w5.heap.size rfl (cs T) rfl rfl zT.out iT.out oT ?_)
  generalize w5.alloc (.cells (cs T).toArray 42) = w6 at B6 f6 ⊢
  have v1 : ∀ n, (convert 38 9 (.slice (some ⟨w5.heap.size, 0, none⟩) 32 32)).run Tryd.prog (w6.drewN n) = .ok (str T) (w6.drewN n) := fun n => by
    have h1 := conv ((holds_range f6).below (below_drewN (Below.refl _ _) n))
    rwa [lT] at h1
  have v2 : ∀ n, (convert 38 9 (.slice b tg.length d)).run Tryd.prog (w6.drewN n) = .ok (str tg) (w6.drewN n) := fun n => conv ((hb.below B6).below (below_drewN (Below.refl _ _) n))
  go_quiet (fail)
  go_wp2_with fail
  go_ret
  exact ⟨by rw [E.out]; rfl, Below.then B6 (below_drewN (Below.refl _ _) _)⟩
end Go.Proofs.YtfpdiafedoppnaaDoor

/-
  The reference's Sign.
-/
namespace Go.Proofs.YtfpdiafedoppnaaDoor
open Go.RowKit

set_option maxRecDepth 100000 in
set_option maxHeartbeats 3200000 in
theorem rsign6 (w : World) (base qb : Nat) (na : Option Addr) (nc : Nat) (v : Value) (seed : Int) (N : List (List UInt8)) (L : List P3) (who dom txt : List UInt8) (a : Option Addr) (c : Nat) (q : QAt w base qb na nc v seed N L) (ha : Holds w a c txt) (hbl : ∀ ad, a = some ad → 0 < txt.length → ad.block < base) (hfull : L.length ≤ 4096) (lw : who.length ≤ 140737488351232) (ld : dom.length ≤ 140737488355328) (lt : txt.length ≤ 140737488355328) :
    Calls Tryd.prog 19 #[.pointer (some ⟨qb, 0, none⟩), str who, str dom, .slice a txt.length c] w fun e w' => e = .returned (.tuple #[ba (sgT seed N L who dom txt), .int .i64 (sgE N L who dom txt : Int)]) ∧ (∃ v', QAt w' base qb na nc v' seed N (sgL N L who dom txt)) ∧ QKeep w w' ∧ Below base w w' := by
  have iZ : (Tryd.prog.info? 42).map (·.size) = some (cs (Sm.zeros 32)).length := Tryd.infoDigest
  have oZ := cs_one (Sm.zeros 32)
  have hsz : (⟨dom.toArray⟩ : ByteArray).size = dom.length := by simp [ByteArray.size]
  have hbase : base ≤ w.heap.size := Nat.le_trans q.low (Nat.le_of_lt q.lt)
  go_enter Tryd.func19, Tryd.ntmps19
  go_wp2_with fail
  have B0 := below_alloc w (.cells (cs (Sm.zeros 32)).toArray 42)
  have t0 : (w.alloc (.cells (cs (Sm.zeros 32)).toArray 42)).heap[w.heap.size]? = some (.cells (cs (Sm.zeros 32)).toArray 42) := heap_alloc_new w _
  change Calls _ _ _ (w.alloc (.cells (cs (Sm.zeros 32)).toArray 42)) _
  generalize w.alloc (.cells (cs (Sm.zeros 32)).toArray 42) = w0 at B0 t0 ⊢
  have q0 := q.below B0
  refine (ris6 w0 base qb na nc v seed N L who q0).mono ?_
  rintro _ w1 ⟨rfl, rfl⟩
  have Z0 : Hid (w0.there w.heap.size 0 (cs (Sm.zeros 32)).length) := hideP (there_block t0 0 32 (Nat.le_refl 32))
  have PZ := below_cells (Nat.le_refl _) (cs (Sm.zeros 32)) 0 _ B0
  have RZ := World.rangeAt_setCells_same _ w.heap.size 0 (cs (Sm.zeros 32)) Z0.out
  by_cases hw : who ∈ N
  rotate_left
  · have hd : decide (who ∈ N) = false := by simpa using hw
    have e1 : sgE N L who dom txt = 60 := if_neg hw
    have e2 : sgT seed N L who dom txt = Sm.zeros 32 := if_neg (by rw [e1]; decide)
    have e3 : sgL N L who dom txt = L := if_neg (by rw [e1]; simp)
    rw [hd]
    have E1 := hideP e1; have E2 := hideP e2; have E3 := hideP e3
    clear e1 e2 e3 hd hw
    go_wp2_with (refine wpList_store_ex rfl 42 _ _ rfl w.heap.size 0 (cs (Sm.zeros 32)) rfl rfl Z0.out iZ oZ ?_; intro w6 hw6; rw [hw6] at PZ RZ; clear hw6)
    exact bodyPost_ret (results_cs (v := .int .i64 60) (b := w.heap.size) (o := 0) (cs := cs (Sm.zeros 32)) rfl rfl rfl RZ Tryd.underlying42 rfl iZ) rfl ⟨by rw [E1.out, E2.out]; rfl, ⟨v, by rw [E3.out]; exact q.below PZ⟩, QKeep.of_below PZ, PZ.mono hbase⟩
  have hd : decide (who ∈ N) = true := by simpa using hw
  rw [hd]
  by_cases hb : 65536 < dom.length + txt.length
  · have e1 : sgE N L who dom txt = 3 := by unfold sgE; rw [if_pos hw, if_pos hb]
    have e2 : sgT seed N L who dom txt = Sm.zeros 32 := if_neg (by rw [e1]; decide)
    have e3 : sgL N L who dom txt = L := if_neg (by rw [e1]; simp)
    have E1 := hideP e1; have E2 := hideP e2; have E3 := hideP e3
    clear e1 e2 e3 hd hw
    by_cases h1 : 65536 < txt.length
    · have q1 : (65536 : Int) < (txt.length : Int) := by omega
      clear hb h1
      go_wp2_with (refine wpList_store_ex rfl 42 _ _ rfl w.heap.size 0 (cs (Sm.zeros 32)) rfl rfl Z0.out iZ oZ ?_; intro w6 hw6; rw [hw6] at PZ RZ; clear hw6)
      exact bodyPost_ret (results_cs (v := .int .i64 3) (b := w.heap.size) (o := 0) (cs := cs (Sm.zeros 32)) rfl rfl rfl RZ Tryd.underlying42 rfl iZ) rfl ⟨by rw [E1.out, E2.out]; rfl, ⟨v, by rw [E3.out]; exact q.below PZ⟩, QKeep.of_below PZ, PZ.mono hbase⟩
    · have q1 : ¬ (65536 : Int) < (txt.length : Int) := by omega
      have q2 : (65536 : Int) < (dom.length : Int) + (txt.length : Int) := by omega
      clear hb h1
      go_wp2_with (refine wpList_store_ex rfl 42 _ _ rfl w.heap.size 0 (cs (Sm.zeros 32)) rfl rfl Z0.out iZ oZ ?_; intro w6 hw6; rw [hw6] at PZ RZ; clear hw6)
      exact bodyPost_ret (results_cs (v := .int .i64 3) (b := w.heap.size) (o := 0) (cs := cs (Sm.zeros 32)) rfl rfl rfl RZ Tryd.underlying42 rfl iZ) rfl ⟨by rw [E1.out, E2.out]; rfl, ⟨v, by rw [E3.out]; exact q.below PZ⟩, QKeep.of_below PZ, PZ.mono hbase⟩
  have q1 : ¬ (65536 : Int) < (txt.length : Int) := by omega
  have q2 : ¬ (65536 : Int) < (dom.length : Int) + (txt.length : Int) := by omega
  clear PZ RZ Z0
  go_wp2_with fail
  refine (rmade6 w0 base qb na nc v seed N L who dom txt a c q0 (ha.below B0) (by omega)).mono ?_
  rintro _ w3 ⟨rfl, b3⟩
  have B3 := Below.then B0 b3
  have q3 := q.below B3
  have t3 := below_heap b3 t0
  clear b3 q0 t0 B0
  by_cases hm : (who, dom, txt) ∈ L
  · have hdm : decide ((who, dom, txt) ∈ L) = true := by simpa using hm
    have e1 : sgE N L who dom txt = 0 := by unfold sgE; rw [if_pos hw, if_neg hb, if_pos hm]
    have e2 : sgT seed N L who dom txt = Mm.tag (Mm.pkey seed who) dom txt := if_pos e1
    have e3 : sgL N L who dom txt = L := if_neg (by rw [e1]; simp [hm])
    rw [hdm]
    have E1 := hideP e1; have E2 := hideP e2; have E3 := hideP e3
    clear e1 e2 e3 hdm hm hw
    go_wp2_with fail
    refine (rtag6 w3 base qb na nc v seed N L who dom txt a c q3 (ha.below B3) lw (by omega) (by omega)).mono ?_
    rintro _ w6 ⟨rfl, b6⟩
    have lT := Mm.tag_length (Mm.pkey seed who) dom txt
    generalize hT : Mm.tag (Mm.pkey seed who) dom txt = T at *
    have HT := hideP hT
    clear hT
    have iT : Hid ((Tryd.prog.info? 42).map (·.size) = some (cs T).length) := hideP (by rw [cs_length, lT]; exact Tryd.infoDigest)
    have oT := cs_one T
    have t6 := below_heap b6 t3
    have Z6 : Hid (w6.there w.heap.size 0 (cs T).length) := hideP (by rw [cs_length, lT]; exact there_block t6 0 32 (Nat.le_refl 32))
    have P7 := below_cells (Nat.le_refl _) (cs T) 0 _ (Below.then B3 b6)
    have R7 := World.rangeAt_setCells_same _ w.heap.size 0 (cs T) Z6.out
    go_wp2_with (refine wpList_store_ex rfl 42 _ _ rfl w.heap.size 0 (cs T) rfl rfl Z6.out iT.out oT ?_; intro w7 hw7; rw [hw7] at P7 R7; clear hw7)
    exact bodyPost_ret (results_cs (v := .int .i64 0) (b := w.heap.size) (o := 0) (cs := cs T) rfl rfl rfl R7 Tryd.underlying42 rfl iT.out) rfl ⟨by rw [E1.out, E2.out]; rfl, ⟨v, by rw [E3.out]; exact q.below P7⟩, QKeep.of_below P7, P7.mono hbase⟩
  have hdm : decide ((who, dom, txt) ∈ L) = false := by simpa using hm
  rw [hdm]
  obtain ⟨a9, c9, e9, _, _⟩ := own_row (D := qK) q3.book (by omega)
  have c2 := q3.c2
  have c2' := c2
  rw [e9] at c2'
  by_cases hfl : 4096 ≤ L.length
  · have q4 : (4096 : Int) ≤ (L.length : Int) := by omega
    have e1 : sgE N L who dom txt = 150 := by unfold sgE; rw [if_pos hw, if_neg hb, if_neg hm, if_pos hfl]
    have e2 : sgT seed N L who dom txt = Sm.zeros 32 := if_neg (by rw [e1]; decide)
    have e3 : sgL N L who dom txt = L := if_neg (by rw [e1]; simp)
    have E1 := hideP e1; have E2 := hideP e2; have E3 := hideP e3
    clear e1 e2 e3 hm hw hb hfl hdm c2
    have Z3 : Hid (w3.there w.heap.size 0 (cs (Sm.zeros 32)).length) := hideP (there_block t3 0 32 (Nat.le_refl 32))
    have P6 := below_cells (Nat.le_refl _) (cs (Sm.zeros 32)) 0 _ B3
    have R6 := World.rangeAt_setCells_same _ w.heap.size 0 (cs (Sm.zeros 32)) Z3.out
    go_wp2_with (refine wpList_store_ex rfl 42 _ _ rfl w.heap.size 0 (cs (Sm.zeros 32)) rfl rfl Z3.out iZ oZ ?_; intro w6 hw6; rw [hw6] at P6 R6; clear hw6)
    exact bodyPost_ret (results_cs (v := .int .i64 150) (b := w.heap.size) (o := 0) (cs := cs (Sm.zeros 32)) rfl rfl rfl R6 Tryd.underlying42 rfl iZ) rfl ⟨by rw [E1.out, E2.out]; rfl, ⟨v, by rw [E3.out]; exact q.below P6⟩, QKeep.of_below P6, P6.mono hbase⟩
  have q4 : ¬ (4096 : Int) ≤ (L.length : Int) := by omega
  have e1 : sgE N L who dom txt = 0 := by unfold sgE; rw [if_pos hw, if_neg hb, if_neg hm, if_neg hfl]
  have e2 : sgT seed N L who dom txt = Mm.tag (Mm.pkey seed who) dom txt := if_pos e1
  have e3 : sgL N L who dom txt = L ++ [(who, dom, txt)] := if_pos ⟨e1, hm⟩
  have E1 := hideP e1; have E2 := hideP e2; have E3 := hideP e3
  clear e1 e2 e3 hm hw hdm
  have C2 := hideP c2
  have HV9 := hideP e9
  clear c2 e9
  go_wp2_with fail
  have bD : Below w3.heap.size w3 w3.drew := (Below.refl _ _).drew
  have cvD := conv ((ha.below B3).below bD)
  have c2D : w3.drew.cell? ⟨qb, 2, none⟩ = some v := (q3.below bD).c2
  have bA := below_alloc w3.drew (.cells [str who, str dom, str txt].toArray 71)
  have QD := (q3.below bD).below bA
  have hR := row_new qK w3.drew [str who, str dom, str txt].toArray 71 (who, dom, txt) rfl
  have hRs : w3.drew.heap.size = w3.heap.size := rfl
  rw [hRs] at hR
  have B4 : Below w.heap.size w (w3.drew.alloc (.cells [str who, str dom, str txt].toArray 71)) := Below.then (Below.then B3 bD) bA
  have t4 := below_heap bA (below_heap bD t3)
  clear q4 c2' C2 HV9 bD bA B3 q3 t3 hRs
  refine wp_region_any (by kernel_rfl) ?_
  change wpAny _ _ _ _ _ _ _ w3.drew
  refine wpAny_take (i := 0) (v := (.pointer (some ⟨qb, 0, none⟩))) rfl (by kernel_rfl) (by kernel_rfl) (by kernel_rfl) (fun _ _ _ h => h) (.inl ⟨by kernel_rfl, fun w => by kernel_rfl⟩) ?_
  refine wpAny_take (i := 1) (v := (.pointer (some ⟨qb, 0, none⟩))) rfl (by kernel_rfl) (by kernel_rfl) (by kernel_rfl) (fun _ _ _ h => h) (.inl ⟨by kernel_rfl, fun w => by kernel_rfl⟩) ?_
  refine wpAny_take (i := 2) (v := (.pointer (some ⟨qb, 0, none⟩))) rfl (by kernel_rfl) (by kernel_rfl) (by kernel_rfl) (fun _ _ _ h => h) (.inl ⟨by kernel_rfl, fun w => by kernel_rfl⟩) ?_
  refine wpAny_take (i := 3) (v := (.pointer (some ⟨qb, 2, none⟩))) rfl (by kernel_rfl) (by kernel_rfl) (by kernel_rfl) (fun _ _ _ h => h) (.inl ⟨by kernel_rfl, fun w => by kernel_rfl⟩) ?_
  refine wpAny_take (i := 5) (v := str who) rfl (by kernel_rfl) (by kernel_rfl) (by kernel_rfl) (fun _ _ _ h => h) (.inl ⟨by kernel_rfl, fun w => by kernel_rfl⟩) ?_
  refine wpAny_take (i := 6) (v := str dom) rfl (by kernel_rfl) (by kernel_rfl) (by kernel_rfl) (fun _ _ _ h => h) (.inl ⟨by kernel_rfl, fun w => by kernel_rfl⟩) ?_
  refine wpAny_take (i := 7) (v := (.slice a txt.length c)) rfl (by kernel_rfl) (by kernel_rfl) (by kernel_rfl) (fun _ _ _ h => h) (.inl ⟨by kernel_rfl, fun w => by kernel_rfl⟩) ?_
  refine wpAny_all (rs := [4, 8]) (by kernel_rfl) (by decide) ?_
  intro i hi
  have hi2 : i = 4 ∨ i = 8 := by simpa using hi
  clear hi
  rcases hi2 with rfl | rfl
  · refine wpOp_load_cel rfl rfl 48 _ rfl qb 2 v (by kernel_rfl) Tryd.isAgg48 c2D ?_
    refine wpAny_all (rs := [8]) (by kernel_rfl) (by decide) ?_
    intro i hi
    obtain rfl := List.mem_singleton.1 hi
    clear hi
    refine wpOp_conv rfl rfl 38 9 _ rfl (.slice a txt.length c) (str txt) (by kernel_rfl) cvD ?_
    refine wpAny_all (rs := [9]) (by kernel_rfl) (by decide) ?_
    intro i hi
    obtain rfl := List.mem_singleton.1 hi
    clear hi
    refine wpOp_val rfl rfl (.agg #[str who, str dom, str txt]) (by kernel_rfl) ?_
    refine wpAny_all (rs := [10]) (by kernel_rfl) (by decide) ?_
    intro i hi
    obtain rfl := List.mem_singleton.1 hi
    clear hi
    refine wpOp_one rfl rfl 48 71 _ rfl [str who, str dom, str txt] _ 3 48 (by kernel_rfl) rfl (by decide) (by decide) Tryd.underlying48 Tryd.infoPair3 ?_
    refine wpAny_all (rs := [11]) (by kernel_rfl) (by decide) ?_
    intro i hi
    obtain rfl := List.mem_singleton.1 hi
    clear hi
    refine wpOp_app qK rfl rfl _ _ 48 71 rfl _ 48 Tryd.underlying48 Tryd.infoPair3 rfl base v L [(who, dom, txt)] ⟨w3.heap.size, 0, none⟩ 1 1 (by kernel_rfl) QD.book (by kernel_rfl) rfl hR (Nat.le_trans QD.low (Nat.le_of_lt QD.lt)) (by simp; omega) (by simp; omega) ?_
    intro v4 w4 o4 g4
    obtain ⟨o5, r5, Q5⟩ := QD.next o4 g4
    refine wpAny_take (i := 12) (v := (.pointer (some ⟨qb, 0, none⟩))) rfl (by kernel_rfl) (by kernel_rfl) (by kernel_rfl) (fun _ _ _ h => h) (.inl ⟨by kernel_rfl, fun w => by kernel_rfl⟩) ?_
    refine wpAny_take (i := 13) (v := (.pointer (some ⟨qb, 2, none⟩))) rfl (by kernel_rfl) (by kernel_rfl) (by kernel_rfl) (fun _ _ _ h => h) (.inl ⟨by kernel_rfl, fun w => by kernel_rfl⟩) ?_
    refine wpAny_all (rs := [14]) (by kernel_rfl) (by decide) ?_
    intro i hi
    obtain rfl := List.mem_singleton.1 hi
    clear hi
    refine wpOp_store_cel rfl rfl 48 _ _ rfl qb 2 3 50 v4 #[.int .i64 seed, .slice na N.length nc, v4] (by kernel_rfl) (by kernel_rfl) r5 rfl (by decide) (by kernel_rfl) o5 rfl ?_
    intro w5 r6 x6
    obtain ⟨Q6, K6, L6⟩ := Q5 w5 r6 x6
    refine wpAny_done (by kernel_rfl) ?_ _
    clear Q5 r5 r6 x6 g4 o4 hR QD cvD c2D
    have K5 : QKeep w w5 := (QKeep.of_below B4).trans K6
    have U5 : Below base w w5 := (B4.mono hbase).trans L6
    have ha5 := ha.lower U5 hbl
    have t5 := K6.safe 42 (by decide) (by decide) _ _ t4
    clear K6 L6 B4 t4
    go_wp2_with fail
    refine (rtag6 w5 base qb na nc v4 seed N (L ++ [(who, dom, txt)]) who dom txt a c Q6 ha5 lw (by omega) (by omega)).mono ?_
    rintro _ w6 ⟨rfl, b6⟩
    have lT := Mm.tag_length (Mm.pkey seed who) dom txt
    generalize hT : Mm.tag (Mm.pkey seed who) dom txt = T at *
    have HT := hideP hT
    clear hT
    have iT : Hid ((Tryd.prog.info? 42).map (·.size) = some (cs T).length) := hideP (by rw [cs_length, lT]; exact Tryd.infoDigest)
    have oT := cs_one T
    have t6 := below_heap b6 t5
    have Z6 : Hid (w6.there w.heap.size 0 (cs T).length) := hideP (by rw [cs_length, lT]; exact there_block t6 0 32 (Nat.le_refl 32))
    have R7 := World.rangeAt_setCells_same _ w.heap.size 0 (cs T) Z6.out
    have x7 := But.cells (h := w.heap.size) (cs T) 0 w6 (But.refl _ w6)
    go_wp2_with (refine wpList_store_ex rfl 42 _ _ rfl w.heap.size 0 (cs T) rfl rfl Z6.out iT.out oT ?_; intro w7 hw7; rw [hw7] at x7 R7; clear hw7)
    have Q7 := (Q6.below b6).safe (Safe.but x7 t6 (by decide)) (Safe.but x7 t6 (by decide)) (Safe.but x7 t6 (by decide))
    have s6 : w.heap.size ≤ w6.heap.size := Nat.le_of_lt (heap_lt t6)
    have K7 : QKeep w w7 := ⟨Nat.le_trans s6 x7.size, fun k o h h1 h2 => x7.heap (by have := heap_lt h; omega) ((K5.trans (QKeep.of_below b6)).block k o h h1 h2)⟩
    have U7 : Below base w w7 := (U5.trans (b6.mono (Nat.le_trans hbase K5.size))).trans (x7.lower hbase (Nat.le_trans hbase s6))
    exact bodyPost_ret (results_cs (v := .int .i64 0) (b := w.heap.size) (o := 0) (cs := cs T) rfl rfl rfl R7 Tryd.underlying42 rfl iT.out) rfl ⟨by rw [E1.out, E2.out]; rfl, ⟨v4, by rw [E3.out]; exact Q7⟩, K7, U7⟩
  · refine wpOp_conv rfl rfl 38 9 _ rfl (.slice a txt.length c) (str txt) (by kernel_rfl) cvD ?_
    refine wpAny_take (i := 9) (v := .agg #[str who, str dom, str txt]) rfl (by kernel_rfl) (by kernel_rfl) (by kernel_rfl) (fun _ _ _ h => h) (.inl ⟨by kernel_rfl, fun w => by kernel_rfl⟩) ?_
    refine wpAny_all (rs := [4, 10]) (by kernel_rfl) (by decide) ?_
    intro i hi
    have hi2 : i = 4 ∨ i = 10 := by simpa using hi
    clear hi
    rcases hi2 with rfl | rfl
    · refine wpOp_load_cel rfl rfl 48 _ rfl qb 2 v (by kernel_rfl) Tryd.isAgg48 c2D ?_
      refine wpAny_all (rs := [10]) (by kernel_rfl) (by decide) ?_
      intro i hi
      obtain rfl := List.mem_singleton.1 hi
      clear hi
      refine wpOp_one rfl rfl 48 71 _ rfl [str who, str dom, str txt] _ 3 48 (by kernel_rfl) rfl (by decide) (by decide) Tryd.underlying48 Tryd.infoPair3 ?_
      refine wpAny_all (rs := [11]) (by kernel_rfl) (by decide) ?_
      intro i hi
      obtain rfl := List.mem_singleton.1 hi
      clear hi
      refine wpOp_app qK rfl rfl _ _ 48 71 rfl _ 48 Tryd.underlying48 Tryd.infoPair3 rfl base v L [(who, dom, txt)] ⟨w3.heap.size, 0, none⟩ 1 1 (by kernel_rfl) QD.book (by kernel_rfl) rfl hR (Nat.le_trans QD.low (Nat.le_of_lt QD.lt)) (by simp; omega) (by simp; omega) ?_
      intro v4 w4 o4 g4
      obtain ⟨o5, r5, Q5⟩ := QD.next o4 g4
      refine wpAny_take (i := 12) (v := (.pointer (some ⟨qb, 0, none⟩))) rfl (by kernel_rfl) (by kernel_rfl) (by kernel_rfl) (fun _ _ _ h => h) (.inl ⟨by kernel_rfl, fun w => by kernel_rfl⟩) ?_
      refine wpAny_take (i := 13) (v := (.pointer (some ⟨qb, 2, none⟩))) rfl (by kernel_rfl) (by kernel_rfl) (by kernel_rfl) (fun _ _ _ h => h) (.inl ⟨by kernel_rfl, fun w => by kernel_rfl⟩) ?_
      refine wpAny_all (rs := [14]) (by kernel_rfl) (by decide) ?_
      intro i hi
      obtain rfl := List.mem_singleton.1 hi
      clear hi
      refine wpOp_store_cel rfl rfl 48 _ _ rfl qb 2 3 50 v4 #[.int .i64 seed, .slice na N.length nc, v4] (by kernel_rfl) (by kernel_rfl) r5 rfl (by decide) (by kernel_rfl) o5 rfl ?_
      intro w5 r6 x6
      obtain ⟨Q6, K6, L6⟩ := Q5 w5 r6 x6
      refine wpAny_done (by kernel_rfl) ?_ _
      clear Q5 r5 r6 x6 g4 o4 hR QD cvD c2D
      have K5 : QKeep w w5 := (QKeep.of_below B4).trans K6
      have U5 : Below base w w5 := (B4.mono hbase).trans L6
      have ha5 := ha.lower U5 hbl
      have t5 := K6.safe 42 (by decide) (by decide) _ _ t4
      clear K6 L6 B4 t4
      go_wp2_with fail
      refine (rtag6 w5 base qb na nc v4 seed N (L ++ [(who, dom, txt)]) who dom txt a c Q6 ha5 lw (by omega) (by omega)).mono ?_
      rintro _ w6 ⟨rfl, b6⟩
      have lT := Mm.tag_length (Mm.pkey seed who) dom txt
      generalize hT : Mm.tag (Mm.pkey seed who) dom txt = T at *
      have HT := hideP hT
      clear hT
      have iT : Hid ((Tryd.prog.info? 42).map (·.size) = some (cs T).length) := hideP (by rw [cs_length, lT]; exact Tryd.infoDigest)
      have oT := cs_one T
      have t6 := below_heap b6 t5
      have Z6 : Hid (w6.there w.heap.size 0 (cs T).length) := hideP (by rw [cs_length, lT]; exact there_block t6 0 32 (Nat.le_refl 32))
      have R7 := World.rangeAt_setCells_same _ w.heap.size 0 (cs T) Z6.out
      have x7 := But.cells (h := w.heap.size) (cs T) 0 w6 (But.refl _ w6)
      go_wp2_with (refine wpList_store_ex rfl 42 _ _ rfl w.heap.size 0 (cs T) rfl rfl Z6.out iT.out oT ?_; intro w7 hw7; rw [hw7] at x7 R7; clear hw7)
      have Q7 := (Q6.below b6).safe (Safe.but x7 t6 (by decide)) (Safe.but x7 t6 (by decide)) (Safe.but x7 t6 (by decide))
      have s6 : w.heap.size ≤ w6.heap.size := Nat.le_of_lt (heap_lt t6)
      have K7 : QKeep w w7 := ⟨Nat.le_trans s6 x7.size, fun k o h h1 h2 => x7.heap (by have := heap_lt h; omega) ((K5.trans (QKeep.of_below b6)).block k o h h1 h2)⟩
      have U7 : Below base w w7 := (U5.trans (b6.mono (Nat.le_trans hbase K5.size))).trans (x7.lower hbase (Nat.le_trans hbase s6))
      exact bodyPost_ret (results_cs (v := .int .i64 0) (b := w.heap.size) (o := 0) (cs := cs T) rfl rfl rfl R7 Tryd.underlying42 rfl iT.out) rfl ⟨by rw [E1.out, E2.out]; rfl, ⟨v4, by rw [E3.out]; exact Q7⟩, K7, U7⟩
    · refine wpOp_one rfl rfl 48 71 _ rfl [str who, str dom, str txt] _ 3 48 (by kernel_rfl) rfl (by decide) (by decide) Tryd.underlying48 Tryd.infoPair3 ?_
      refine wpAny_all (rs := [4]) (by kernel_rfl) (by decide) ?_
      intro i hi
      obtain rfl := List.mem_singleton.1 hi
      clear hi
      refine wpOp_load_cel rfl rfl 48 _ rfl qb 2 v (by kernel_rfl) Tryd.isAgg48 QD.c2 ?_
      refine wpAny_all (rs := [11]) (by kernel_rfl) (by decide) ?_
      intro i hi
      obtain rfl := List.mem_singleton.1 hi
      clear hi
      refine wpOp_app qK rfl rfl _ _ 48 71 rfl _ 48 Tryd.underlying48 Tryd.infoPair3 rfl base v L [(who, dom, txt)] ⟨w3.heap.size, 0, none⟩ 1 1 (by kernel_rfl) QD.book (by kernel_rfl) rfl hR (Nat.le_trans QD.low (Nat.le_of_lt QD.lt)) (by simp; omega) (by simp; omega) ?_
      intro v4 w4 o4 g4
      obtain ⟨o5, r5, Q5⟩ := QD.next o4 g4
      refine wpAny_take (i := 12) (v := (.pointer (some ⟨qb, 0, none⟩))) rfl (by kernel_rfl) (by kernel_rfl) (by kernel_rfl) (fun _ _ _ h => h) (.inl ⟨by kernel_rfl, fun w => by kernel_rfl⟩) ?_
      refine wpAny_take (i := 13) (v := (.pointer (some ⟨qb, 2, none⟩))) rfl (by kernel_rfl) (by kernel_rfl) (by kernel_rfl) (fun _ _ _ h => h) (.inl ⟨by kernel_rfl, fun w => by kernel_rfl⟩) ?_
      refine wpAny_all (rs := [14]) (by kernel_rfl) (by decide) ?_
      intro i hi
      obtain rfl := List.mem_singleton.1 hi
      clear hi
      refine wpOp_store_cel rfl rfl 48 _ _ rfl qb 2 3 50 v4 #[.int .i64 seed, .slice na N.length nc, v4] (by kernel_rfl) (by kernel_rfl) r5 rfl (by decide) (by kernel_rfl) o5 rfl ?_
      intro w5 r6 x6
      obtain ⟨Q6, K6, L6⟩ := Q5 w5 r6 x6
      refine wpAny_done (by kernel_rfl) ?_ _
      clear Q5 r5 r6 x6 g4 o4 hR QD cvD c2D
      have K5 : QKeep w w5 := (QKeep.of_below B4).trans K6
      have U5 : Below base w w5 := (B4.mono hbase).trans L6
      have ha5 := ha.lower U5 hbl
      have t5 := K6.safe 42 (by decide) (by decide) _ _ t4
      clear K6 L6 B4 t4
      go_wp2_with fail
      refine (rtag6 w5 base qb na nc v4 seed N (L ++ [(who, dom, txt)]) who dom txt a c Q6 ha5 lw (by omega) (by omega)).mono ?_
      rintro _ w6 ⟨rfl, b6⟩
      have lT := Mm.tag_length (Mm.pkey seed who) dom txt
      generalize hT : Mm.tag (Mm.pkey seed who) dom txt = T at *
      have HT := hideP hT
      clear hT
      have iT : Hid ((Tryd.prog.info? 42).map (·.size) = some (cs T).length) := hideP (by rw [cs_length, lT]; exact Tryd.infoDigest)
      have oT := cs_one T
      have t6 := below_heap b6 t5
      have Z6 : Hid (w6.there w.heap.size 0 (cs T).length) := hideP (by rw [cs_length, lT]; exact there_block t6 0 32 (Nat.le_refl 32))
      have R7 := World.rangeAt_setCells_same _ w.heap.size 0 (cs T) Z6.out
      have x7 := But.cells (h := w.heap.size) (cs T) 0 w6 (But.refl _ w6)
      go_wp2_with (refine wpList_store_ex rfl 42 _ _ rfl w.heap.size 0 (cs T) rfl rfl Z6.out iT.out oT ?_; intro w7 hw7; rw [hw7] at x7 R7; clear hw7)
      have Q7 := (Q6.below b6).safe (Safe.but x7 t6 (by decide)) (Safe.but x7 t6 (by decide)) (Safe.but x7 t6 (by decide))
      have s6 : w.heap.size ≤ w6.heap.size := Nat.le_of_lt (heap_lt t6)
      have K7 : QKeep w w7 := ⟨Nat.le_trans s6 x7.size, fun k o h h1 h2 => x7.heap (by have := heap_lt h; omega) ((K5.trans (QKeep.of_below b6)).block k o h h1 h2)⟩
      have U7 : Below base w w7 := (U5.trans (b6.mono (Nat.le_trans hbase K5.size))).trans (x7.lower hbase (Nat.le_trans hbase s6))
      exact bodyPost_ret (results_cs (v := .int .i64 0) (b := w.heap.size) (o := 0) (cs := cs T) rfl rfl rfl R7 Tryd.underlying42 rfl iT.out) rfl ⟨by rw [E1.out, E2.out]; rfl, ⟨v4, by rw [E3.out]; exact Q7⟩, K7, U7⟩
end Go.Proofs.YtfpdiafedoppnaaDoor
