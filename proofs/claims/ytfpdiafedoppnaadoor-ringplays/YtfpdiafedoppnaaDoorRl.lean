/-
  Sign: the tag of a principal's key, or why not; the book takes what was signed.
-/
import Derived.StillTailTactics
import Derived.Test.YtfpdiafedoppnaaDoorRi
import Derived.Test.YtfpdiafedoppnaaDoorTag
import Derived.Test.YtfpdiafedoppnaaDoorEqual
namespace Go.Proofs.YtfpdiafedoppnaaDoor
open Go.RowKit

/-! what signing answers -/
def sgE (N : List (List UInt8)) (L : List P3) (who dom txt : List UInt8) : Nat :=
  if who ∈ N then (if 65536 < dom.length + txt.length then 3 else if (who, dom, txt) ∈ L then 0 else if 4096 ≤ L.length then 150 else 0) else 60
def sgT (seed : Int) (N : List (List UInt8)) (L : List P3) (who dom txt : List UInt8) : List UInt8 := if sgE N L who dom txt = 0 then Mm.tag (Mm.pkey seed who) dom txt else Sm.zeros 32
def sgL (N : List (List UInt8)) (L : List P3) (who dom txt : List UInt8) : List P3 := if sgE N L who dom txt = 0 ∧ (who, dom, txt) ∉ L then L ++ [(who, dom, txt)] else L
theorem sgT_length (seed : Int) (N : List (List UInt8)) (L : List P3) (who dom txt : List UInt8) : (sgT seed N L who dom txt).length = 32 := by
  unfold sgT; split
  · exact Mm.tag_length _ _ _
  · exact Sm.zeros_length _

/-! what a change of the book leaves -/
theorem BookAt.one_lt {w : World} {bm : Nat} {L : List P3} (h : BookAt w bm L) (l : Laid w) : 1 < bm := by
  have h0 := h.apart (range_word l.start 0 (by decide))
  have h1 := h.apart (range_word l.mix 0 (by decide))
  simp only at h0 h1
  omega
theorem BookAt.holds {w w' : World} {bm : Nat} {L : List P3} (h : BookAt w bm L) (x : But bm w w') {a : Option Addr} {c : Nat} {l : List UInt8} (ha : Holds w a c l) : Holds w' a c l :=
  x.holds ha fun ad had h0 => by
    have := h.apart (ha.2.2 ad had 0 _ (cs_get l 0 h0))
    rwa [addr_add_block] at this
theorem BookAt.safe {w w' : World} {bm : Nat} {L : List P3} (h : BookAt w bm L) (x : But bm w w') (ty : TypeId) : Safe ty w w' := fun k cur hk => x.heap (fun e => by
  obtain ⟨es, clock, hb⟩ := h.map
  rw [e, hb] at hk; cases hk) hk
theorem RingAt.put {w w' : World} {rb g cap bm : Nat} {seed : Int} {N : List (List UInt8)} {L L' : List P3} (r : RingAt w rb g cap bm seed N L) (x : But bm w w') (b : BookAt w' bm L') (h : L'.length ≤ 4096) : RingAt w' rb g cap bm seed N L' :=
  ⟨r.book.safe x _ _ _ r.ring, r.row.safe (r.book.safe x _), b, r.few, r.lens, r.s0, r.s1, h⟩

theorem But.since {h : Nat} {a b c : World} (x : But h a b) (y : Below a.heap.size b c) : But h a c :=
  ⟨y.os.trans x.os, y.tape.trans x.tape, y.output.trans x.output, Nat.le_trans x.size y.size, fun k hk hn => (y.block k hk).trans (x.block k hk hn)⟩
theorem RingAt.glt {w : World} {rb g cap bm : Nat} {seed : Int} {N : List (List UInt8)} {L : List P3} (h : RingAt w rb g cap bm seed N L) : g < w.heap.size := by
  obtain ⟨cur, hc⟩ := h.row.tag _ rfl
  exact heap_lt hc
theorem RingAt.lower {w w' : World} {rb g cap bm B : Nat} {seed : Int} {N : List (List UInt8)} {L : List P3} (h : RingAt w rb g cap bm seed N L) (b : Below B w w') (h1 : rb < B) (h2 : g < B) (h3 : bm < B) : RingAt w' rb g cap bm seed N L := by
  refine ⟨(b.block _ h1).trans h.ring, ⟨⟨h.row.row.room, h.row.row.few, h.row.row.void, fun ad ha j u hu => ?_⟩, fun ad ha => ?_⟩, h.book.block (b.block _ h3), h.few, h.lens, h.s0, h.s1, h.full⟩
  · rw [b.cell (by rw [addr_add_block]; cases ha; exact h2)]
    exact h.row.row.cells ad ha j u hu
  · obtain ⟨cur, hc⟩ := h.row.tag ad ha
    exact ⟨cur, (b.block _ (by cases ha; exact h2)).trans hc⟩

theorem wpList_book_put {w : World} {ops : Array Oper} {rest : List Oper} {o : Oper} {a : Act} {Q : Exit → Act → World → Prop} (hgd : o.guard = none) (m x v : Operand) (ho : o.op = .mapUpdate 56 m x v)
    (bm : Nat) (L : List P3) (p : P3) (hb : BookAt w bm L) (hm : a.eval m = .map (some bm)) (hx : a.eval x = .agg #[str p.1, str p.2.1, str p.2.2]) (hv : a.eval v = .agg #[]) (hp : Fits p) (hn : p ∉ L) (hL : L.length < 1000000)
    (h : ∀ w', BookAt w' bm (L ++ [p]) → But bm w w' → wpList Tryd.prog ops Q rest (a.put o.dst undef) w') : wpList Tryd.prog ops Q (o :: rest) a w := by
  refine wpList_plain hgd fun K' hK' => ?_
  obtain ⟨w', hr, h1, h2⟩ := hb.put p hp hn hL
  unfold Oper.wp
  simp [execOp, ho, hm, hx, hv, hr, Result.andThen]
  exact hK' _ _ (h w' h1 h2)

set_option maxRecDepth 100000 in
set_option maxHeartbeats 3200000 in
theorem sign6 (w : World) (rb g cap bm : Nat) (seed : Int) (N : List (List UInt8)) (L : List P3) (who dom txt : List UInt8) (a : Option Addr) (c : Nat) (r : RingAt w rb g cap bm seed N L) (hL : Laid w) (ha : Holds w a c txt) (hf : Fits (who, dom, txt)) (ld : dom.length ≤ 140737488355328) (lt : txt.length ≤ 140737488355328) :
    Calls Tryd.prog 18 #[.pointer (some ⟨rb, 0, none⟩), str who, str dom, .slice a txt.length c] w fun e w' => e = .returned (.tuple #[ba (sgT seed N L who dom txt), .int .i64 (sgE N L who dom txt : Int)]) ∧ RingAt w' rb g cap bm seed N (sgL N L who dom txt) ∧ But bm w w' := by
  have lF := foundKey_length seed N who
  have iF : Hid ((Tryd.prog.info? 42).map (·.size) = some (cs (foundKey seed N who)).length) := hideP (by rw [cs_length, lF]; exact Tryd.infoDigest)
  have oF := cs_one (foundKey seed N who)
  have zF : Hid (32 = (cs (foundKey seed N who)).length) := hideP (by rw [cs_length, lF])
  have iZ : (Tryd.prog.info? 42).map (·.size) = some (cs (Sm.zeros 32)).length := Tryd.infoDigest
  have oZ := cs_one (Sm.zeros 32)
  have hsz : (⟨dom.toArray⟩ : ByteArray).size = dom.length := by simp [ByteArray.size]
  go_enter Tryd.func18, Tryd.ntmps18
  go_wp2_with fail
  have B0 := below_alloc w (.cells (cs (Sm.zeros 32)).toArray 42)
  have t0 := there_new w (cs (Sm.zeros 32)).toArray 42 32 rfl
  change Calls _ _ _ (w.alloc (.cells (cs (Sm.zeros 32)).toArray 42)) _
  generalize w.alloc (.cells (cs (Sm.zeros 32)).toArray 42) = w0 at B0 t0 ⊢
  have r0 := r.below B0
  refine (fromNew6 w0 rb bm r0.c1).mono ?_
  rintro _ w1 ⟨rfl, rfl⟩
  go_wp2_with fail
  refine (key6 w0 rb g cap bm seed N L who r0).mono ?_
  rintro _ w1 ⟨rfl, b1⟩
  have B2 := Below.then (Below.then B0 b1) (below_alloc w1 (.cells (cs (foundKey seed N who)).toArray 42))
  have t2 := there_below (there_below t0 b1) (below_alloc w1 (.cells (cs (foundKey seed N who)).toArray 42))
  have f2 := rangeAt_new w1 (cs (foundKey seed N who)).toArray 42 (cs (foundKey seed N who)) (by simp)
  have HK : Hid (who ∈ N → foundKey seed N who = Mm.pkey seed who) := hideP fun h => if_pos h
  clear b1 r0 B0 t0
  generalize foundKey seed N who = F at *
  by_cases hw : who ∈ N
  rotate_left
  · have hd : decide (who ∈ N) = false := by simpa using hw
    have e1 : sgE N L who dom txt = 60 := if_neg hw
    have e2 : sgT seed N L who dom txt = Sm.zeros 32 := if_neg (by rw [e1]; decide)
    have e3 : sgL N L who dom txt = L := if_neg (by rw [e1]; simp)
    rw [hd]
    have E1 := hideP e1; have E2 := hideP e2; have E3 := hideP e3
    clear e1 e2 e3 hd hw
    have tZ : Hid ((w1.alloc (.cells (cs F).toArray 42)).there w.heap.size 0 (cs (Sm.zeros 32)).length) := hideP (by rw [cs_length, Sm.zeros_length]; exact t2)
    have P6 := below_cells (Nat.le_refl _) (cs (Sm.zeros 32)) 0 _ B2
    have R6 := World.rangeAt_setCells_same _ w.heap.size 0 (cs (Sm.zeros 32)) tZ.out
    go_wp2_with (first
      | (refine wpList_store_new rfl 42 _ _ rfl w1.heap.size rfl (cs F) rfl rfl zF.out iF.out oF ?_)
      | (refine wpList_store_ex rfl 42 _ _ rfl w.heap.size 0 (cs (Sm.zeros 32)) rfl rfl tZ.out iZ oZ ?_; intro w6 hw6; rw [hw6] at P6 R6; clear hw6))
    exact bodyPost_ret (results_cs (v := .int .i64 60) (b := w.heap.size) (o := 0) (cs := cs (Sm.zeros 32)) rfl rfl rfl R6 Tryd.underlying42 rfl iZ) rfl ⟨by rw [E1.out, E2.out]; rfl, by rw [E3.out]; exact r.below P6, But.of_below P6⟩
  have hd : decide (who ∈ N) = true := by simpa using hw
  rw [hd]
  have HE : Hid (F = Mm.pkey seed who) := hideP (HK.out hw)
  by_cases hb : 65536 < dom.length + txt.length
  · have q0 : (65536 : Int) - (dom.length : Int) < (txt.length : Int) := by omega
    have e1 : sgE N L who dom txt = 3 := by unfold sgE; rw [if_pos hw, if_pos hb]
    have e2 : sgT seed N L who dom txt = Sm.zeros 32 := if_neg (by rw [e1]; decide)
    have e3 : sgL N L who dom txt = L := if_neg (by rw [e1]; simp)
    have E1 := hideP e1; have E2 := hideP e2; have E3 := hideP e3
    clear e1 e2 e3 hd hw hb
    have tZ : Hid ((w1.alloc (.cells (cs F).toArray 42)).there w.heap.size 0 (cs (Sm.zeros 32)).length) := hideP (by rw [cs_length, Sm.zeros_length]; exact t2)
    have P6 := below_cells (Nat.le_refl _) (cs (Sm.zeros 32)) 0 _ B2
    have R6 := World.rangeAt_setCells_same _ w.heap.size 0 (cs (Sm.zeros 32)) tZ.out
    go_wp2_with (first
      | (refine wpList_store_new rfl 42 _ _ rfl w1.heap.size rfl (cs F) rfl rfl zF.out iF.out oF ?_)
      | (refine wpList_store_ex rfl 42 _ _ rfl w.heap.size 0 (cs (Sm.zeros 32)) rfl rfl tZ.out iZ oZ ?_; intro w6 hw6; rw [hw6] at P6 R6; clear hw6))
    exact bodyPost_ret (results_cs (v := .int .i64 3) (b := w.heap.size) (o := 0) (cs := cs (Sm.zeros 32)) rfl rfl rfl R6 Tryd.underlying42 rfl iZ) rfl ⟨by rw [E1.out, E2.out]; rfl, by rw [E3.out]; exact r.below P6, But.of_below P6⟩
  have q0 : ¬ (65536 : Int) - (dom.length : Int) < (txt.length : Int) := by omega
  go_wp2_with (refine wpList_store_new rfl 42 _ _ rfl w1.heap.size rfl (cs F) rfl rfl zF.out iF.out oF ?_)
  generalize w1.alloc (.cells (cs F).toArray 42) = w2 at B2 t2 f2 ⊢
  refine (made6 w2 rb g cap bm seed N L who dom txt a c (r.below B2) (ha.below B2) hf).mono ?_
  rintro _ w3 ⟨rfl, b3⟩
  have B3 := Below.then B2 b3
  have t3 := there_below t2 b3
  have f3 := rangeAt_below f2 b3
  clear B2 t2 f2 b3
  have r3 := r.below B3
  have L3 := hL.below B3
  have ha3 := ha.below B3
  have hsF : w1.heap.size ≠ bm := fun e => by
    obtain ⟨v, hv⟩ : ∃ v, (cs F)[0]? = some v := ⟨_, List.getElem?_eq_getElem (by rw [cs_length, lF]; decide)⟩
    exact r3.book.apart (f3 0 v hv) e
  have hsS : w.heap.size ≠ bm := fun e => by
    obtain ⟨h1, _⟩ := t3 0 (by decide)
    obtain ⟨v, hv⟩ := Option.isSome_iff_exists.1 h1
    exact r3.book.apart hv e
  by_cases hm : (who, dom, txt) ∈ L
  · have hdm : decide ((who, dom, txt) ∈ L) = true := by simpa using hm
    have e1 : sgE N L who dom txt = 0 := by unfold sgE; rw [if_pos hw, if_neg hb, if_pos hm]
    have e2 : sgT seed N L who dom txt = Mm.tag (Mm.pkey seed who) dom txt := if_pos e1
    have e3 : sgL N L who dom txt = L := if_neg (by rw [e1]; simp [hm])
    rw [hdm]
    have E1 := hideP e1; have E2 := hideP e2; have E3 := hideP e3
    clear e1 e2 e3 hdm hm hw
    go_wp2_with fail
    refine (tag_at F dom txt (some ⟨w1.heap.size, 0, none⟩) a 32 txt.length 32 c w3 lF rfl (by have := holds_range f3; rwa [lF] at this) ha3 L3 (by decide) (by omega) (by omega)).mono ?_
    rintro _ w5 ⟨rfl, b5⟩
    have lT := Mm.tag_length F dom txt
    have HT : Hid (Mm.tag F dom txt = Mm.tag (Mm.pkey seed who) dom txt) := hideP (by rw [HE.out])
    generalize Mm.tag F dom txt = T at *
    have iT : Hid ((Tryd.prog.info? 42).map (·.size) = some (cs T).length) := hideP (by rw [cs_length, lT]; exact Tryd.infoDigest)
    have oT := cs_one T
    have t5 : Hid (w5.there w.heap.size 0 (cs T).length) := hideP (by rw [cs_length, lT]; exact there_below t3 b5)
    have P6 := below_cells (Nat.le_refl _) (cs T) 0 w5 ((Below.refl _ _) : Below w.heap.size w5 w5)
    have R6 := World.rangeAt_setCells_same w5 w.heap.size 0 (cs T) t5.out
    have s5 := Nat.le_trans B3.size b5.size
    go_wp2_with (refine wpList_store_ex rfl 42 _ _ rfl w.heap.size 0 (cs T) rfl rfl t5.out iT.out oT ?_; intro w6 hw6; rw [hw6] at P6 R6; clear hw6)
    exact bodyPost_ret (results_cs (v := .int .i64 0) (b := w.heap.size) (o := 0) (cs := cs T) rfl rfl rfl R6 Tryd.underlying42 rfl iT.out) rfl ⟨by rw [E1.out, E2.out, ← HT.out]; rfl, by rw [E3.out]; exact r.below (B3.trans ((b5.mono B3.size).trans P6)), But.of_below (B3.trans ((b5.mono B3.size).trans P6))⟩
  have hdm : decide ((who, dom, txt) ∈ L) = false := by simpa using hm
  rw [hdm]
  have c1 := r3.c1
  have hl := r3.book.len (ty := 3)
  by_cases hfull : 4096 ≤ L.length
  · have q1 : (4096 : Int) ≤ (L.length : Int) := by omega
    have e1 : sgE N L who dom txt = 150 := by unfold sgE; rw [if_pos hw, if_neg hb, if_neg hm, if_pos hfull]
    have e2 : sgT seed N L who dom txt = Sm.zeros 32 := if_neg (by rw [e1]; decide)
    have e3 : sgL N L who dom txt = L := if_neg (by rw [e1]; simp)
    have E1 := hideP e1; have E2 := hideP e2; have E3 := hideP e3
    clear e1 e2 e3 hm hw hb hfull hdm
    have tZ : Hid (w3.there w.heap.size 0 (cs (Sm.zeros 32)).length) := hideP (by rw [cs_length, Sm.zeros_length]; exact t3)
    have P6 := below_cells (Nat.le_refl _) (cs (Sm.zeros 32)) 0 _ B3
    have R6 := World.rangeAt_setCells_same _ w.heap.size 0 (cs (Sm.zeros 32)) tZ.out
    go_wp2_with (refine wpList_store_ex rfl 42 _ _ rfl w.heap.size 0 (cs (Sm.zeros 32)) rfl rfl tZ.out iZ oZ ?_; intro w6 hw6; rw [hw6] at P6 R6; clear hw6)
    exact bodyPost_ret (results_cs (v := .int .i64 150) (b := w.heap.size) (o := 0) (cs := cs (Sm.zeros 32)) rfl rfl rfl R6 Tryd.underlying42 rfl iZ) rfl ⟨by rw [E1.out, E2.out]; rfl, by rw [E3.out]; exact r.below P6, But.of_below P6⟩
  have q1 : ¬ (4096 : Int) ≤ (L.length : Int) := by omega
  have e1 : sgE N L who dom txt = 0 := by unfold sgE; rw [if_pos hw, if_neg hb, if_neg hm, if_neg hfull]
  have e2 : sgT seed N L who dom txt = Mm.tag (Mm.pkey seed who) dom txt := if_pos e1
  have e3 : sgL N L who dom txt = L ++ [(who, dom, txt)] := if_pos ⟨e1, hm⟩
  have E1 := hideP e1; have E2 := hideP e2; have E3 := hideP e3; have HM := hideP hm
  clear e1 e2 e3 hm hw
  go_wp2_with fail
  have cv := conv (ha3.below (Below.refl _ _).drew)
  have c1d := (r3.below (Below.refl _ _).drew).c1
  go_still_tail 10, (by kernel_rfl)
  have rD := r3.below ((Below.refl _ _).drew : Below w3.heap.size w3 w3.drew)
  go_wp2_with (refine wpList_book_put rfl _ _ _ rfl bm L (who, dom, txt) rD.book rfl rfl rfl hf HM.out (by omega) ?_; intro w4 k4 x4)
  have y4 : But bm w w4 := (But.of_below (Below.then B3 (Below.refl _ _).drew)).trans x4
  have r4 : RingAt w4 rb g cap bm seed N (L ++ [(who, dom, txt)]) := rD.put x4 k4 (by rw [List.length_append, List.length_singleton]; omega)
  have LD := L3.below ((Below.refl _ _).drew : Below w3.heap.size w3 w3.drew)
  have L4 : Laid w4 := x4.laid (rD.book.one_lt LD) LD
  have ha4 := rD.book.holds x4 (ha3.below (Below.refl _ _).drew)
  have f4 := x4.range hsF (rangeAt_below f3 (Below.refl _ _).drew)
  have t4 := x4.there hsS (there_below t3 (Below.refl _ _).drew)
  have s4 := y4.size
  clear x4 k4 LD rD B3 f3 t3 r3 L3 ha3 c1 c1d cv hl
  refine (tag_at F dom txt (some ⟨w1.heap.size, 0, none⟩) a 32 txt.length 32 c w4 lF rfl (by have := holds_range f4; rwa [lF] at this) ha4 L4 (by decide) (by omega) (by omega)).mono ?_
  rintro _ w5 ⟨rfl, b5⟩
  have lT := Mm.tag_length F dom txt
  have HT : Hid (Mm.tag F dom txt = Mm.tag (Mm.pkey seed who) dom txt) := hideP (by rw [HE.out])
  generalize Mm.tag F dom txt = T at *
  have iT : Hid ((Tryd.prog.info? 42).map (·.size) = some (cs T).length) := hideP (by rw [cs_length, lT]; exact Tryd.infoDigest)
  have oT := cs_one T
  have t5 : Hid (w5.there w.heap.size 0 (cs T).length) := hideP (by rw [cs_length, lT]; exact there_below t4 b5)
  have P6 := below_cells (Nat.le_refl _) (cs T) 0 w5 ((Below.refl _ _) : Below w.heap.size w5 w5)
  have R6 := World.rangeAt_setCells_same w5 w.heap.size 0 (cs T) t5.out
  have s5 := Nat.le_trans s4 b5.size
  go_wp2_with (refine wpList_store_ex rfl 42 _ _ rfl w.heap.size 0 (cs T) rfl rfl t5.out iT.out oT ?_; intro w6 hw6; rw [hw6] at P6 R6; clear hw6)
  exact bodyPost_ret (results_cs (v := .int .i64 0) (b := w.heap.size) (o := 0) (cs := cs T) rfl rfl rfl R6 Tryd.underlying42 rfl iT.out) rfl ⟨by rw [E1.out, E2.out, ← HT.out]; rfl, by rw [E3.out]; exact r4.lower ((b5.mono s4).trans P6) r.lt r.glt r.book.lt, y4.since ((b5.mono s4).trans P6)⟩

end Go.Proofs.YtfpdiafedoppnaaDoor

/-
  Verify; and what a ring answers that New did not make.
-/
namespace Go.Proofs.YtfpdiafedoppnaaDoor
open Go.RowKit

def vf (seed : Int) (N : List (List UInt8)) (who dom txt tg : List UInt8) : Bool := decide (who ∈ N) && (Mm.tag (Mm.pkey seed who) dom txt == tg)

set_option maxRecDepth 100000 in
set_option maxHeartbeats 3200000 in
theorem verify6 (w : World) (rb g cap bm : Nat) (seed : Int) (N : List (List UInt8)) (L : List P3) (who dom txt tg : List UInt8) (a b : Option Addr) (q c d : Nat) (r : RingAt w rb g cap bm seed N L) (hL : Laid w) (ha : Holds w a c txt) (hq : tg.length = q) (hb : Holds w b d tg) (ld : dom.length ≤ 10000000000) (lt : txt.length ≤ 10000000000) :
    Calls Tryd.prog 20 #[.pointer (some ⟨rb, 0, none⟩), str who, str dom, .slice a txt.length c, .slice b q d] w fun e w' => e = .returned (.bool (vf seed N who dom txt tg)) ∧ Below w.heap.size w w' := by
  have lF := foundKey_length seed N who
  have iF : Hid ((Tryd.prog.info? 42).map (·.size) = some (cs (foundKey seed N who)).length) := hideP (by rw [cs_length, lF]; exact Tryd.infoDigest)
  have oF := cs_one (foundKey seed N who)
  have zF : Hid (32 = (cs (foundKey seed N who)).length) := hideP (by rw [cs_length, lF])
  go_enter Tryd.func20, Tryd.ntmps20
  go_wp2_with fail
  refine (key6 w rb g cap bm seed N L who r).mono ?_
  rintro _ w1 ⟨rfl, b1⟩
  have B2 := Below.then b1 (below_alloc w1 (.cells (cs (foundKey seed N who)).toArray 42))
  have f2 := rangeAt_new w1 (cs (foundKey seed N who)).toArray 42 (cs (foundKey seed N who)) (by simp)
  have HK : Hid (who ∈ N → foundKey seed N who = Mm.pkey seed who) := hideP fun h => if_pos h
  generalize foundKey seed N who = F at *
  by_cases hw : who ∈ N
  rotate_left
  · have hd : decide (who ∈ N) = false := by simpa using hw
    have E : Hid (vf seed N who dom txt tg = false) := hideP (by unfold vf; rw [hd]; rfl)
    rw [hd]
    clear hd hw
    go_wp2_with (refine wpList_store_new rfl 42 _ _ rfl w1.heap.size rfl (cs F) rfl rfl zF.out iF.out oF ?_)
    go_ret
    exact ⟨by rw [E.out]; rfl, B2⟩
  have hd : decide (who ∈ N) = true := by simpa using hw
  have E : Hid (vf seed N who dom txt tg = (Mm.tag F dom txt == tg)) := hideP (by unfold vf; rw [hd, HK.out hw]; rfl)
  rw [hd]
  clear hd hw HK
  go_wp2_with (refine wpList_store_new rfl 42 _ _ rfl w1.heap.size rfl (cs F) rfl rfl zF.out iF.out oF ?_)
  generalize w1.alloc (.cells (cs F).toArray 42) = w2 at B2 f2 ⊢
  refine (tag_at F dom txt (some ⟨w1.heap.size, 0, none⟩) a 32 txt.length 32 c w2 lF rfl (by have := holds_range f2; rwa [lF] at this) (ha.below B2) (hL.below B2) (by decide) (by omega) (by omega)).mono ?_
  rintro _ w5 ⟨rfl, b5⟩
  have lT := Mm.tag_length F dom txt
  generalize Mm.tag F dom txt = T at *
  have iT : Hid ((Tryd.prog.info? 42).map (·.size) = some (cs T).length) := hideP (by rw [cs_length, lT]; exact Tryd.infoDigest)
  have oT := cs_one T
  have zT : Hid (32 = (cs T).length) := hideP (by rw [cs_length, lT])
  have B6 := Below.then (Below.then B2 b5) (below_alloc w5 (.cells (cs T).toArray 42))
  have f6 := rangeAt_new w5 (cs T).toArray 42 (cs T) (by simp)
  go_wp2_with (refine wpList_store_new rfl 42 _ _ rfl w5.heap.size rfl (cs T) rfl rfl zT.out iT.out oT ?_)
  generalize w5.alloc (.cells (cs T).toArray 42) = w6 at B6 f6 ⊢
  refine (equal_at (some ⟨w5.heap.size, 0, none⟩) b 32 q 32 d T tg w6 lT hq (by have := holds_range f6; rwa [lT] at this) (hb.below B6) (by decide)).mono ?_
  rintro _ w7 ⟨rfl, b7⟩
  go_wp2_with fail
  go_ret
  exact ⟨by rw [E.out]; rfl, Below.then B6 b7⟩

/-! a ring that New did not make -/
/-- nil, or a ring without a book -/
def NoRing (w : World) (v : Value) : Prop := v = .pointer none ∨ ∃ rb, v = .pointer (some ⟨rb, 0, none⟩) ∧ w.cell? ⟨rb, 1, none⟩ = some (.map none)
theorem NoRing.below {w w' : World} {v : Value} (h : NoRing w v) (b : Below w.heap.size w w') : NoRing w' v := by
  rcases h with h | ⟨rb, h, hc⟩
  · exact .inl h
  · exact .inr ⟨rb, h, by rw [b.cell (p := ⟨rb, 1, none⟩) (cell_block hc)]; exact hc⟩
theorem fromNew6_no (w : World) (v : Value) (h : NoRing w v) : Calls Tryd.prog 27 #[v] w fun e w' => e = .returned (.bool false) ∧ w = w' := by
  rcases h with rfl | ⟨rb, rfl, hc⟩
  · exact fromNew6_nil w
  · exact fromNew6_zero w rb hc
set_option maxRecDepth 100000 in
theorem len6_no (w : World) (v : Value) (h : NoRing w v) : Calls Tryd.prog 16 #[v] w fun e w' => e = .returned (.int .i64 0) ∧ w = w' := by
  go_enter Tryd.func16, Tryd.ntmps16
  go_wp2_with fail
  refine (fromNew6_no w v h).mono ?_
  rintro _ w1 ⟨rfl, rfl⟩
  go_wp2_with fail
  go_ret
  exact ⟨rfl, rfl⟩
set_option maxRecDepth 100000 in
theorem names6_no (w : World) (v : Value) (h : NoRing w v) : Calls Tryd.prog 13 #[v] w fun e w' => e = .returned (.slice none 0 0) ∧ w = w' := by
  go_enter Tryd.func13, Tryd.ntmps13
  go_wp2_with fail
  refine (fromNew6_no w v h).mono ?_
  rintro _ w1 ⟨rfl, rfl⟩
  go_wp2_with fail
  go_ret
  exact ⟨rfl, rfl⟩
set_option maxRecDepth 100000 in
theorem made6_no (w : World) (v x1 x2 x3 : Value) (h : NoRing w v) : Calls Tryd.prog 23 #[v, x1, x2, x3] w fun e w' => e = .returned (.bool false) ∧ w = w' := by
  go_enter Tryd.func23, Tryd.ntmps23
  go_wp2_with fail
  refine (fromNew6_no w v h).mono ?_
  rintro _ w1 ⟨rfl, rfl⟩
  go_wp2_with fail
  go_ret
  exact ⟨rfl, rfl⟩
set_option maxRecDepth 100000 in
set_option maxHeartbeats 1600000 in
theorem key6_no (w : World) (v x : Value) (h : NoRing w v) : Calls Tryd.prog 28 #[v, x] w fun e w' => e = .returned (.tuple #[ba (Sm.zeros 32), .bool false]) ∧ Below w.heap.size w w' := by
  have iZ : (Tryd.prog.info? 42).map (·.size) = some (cs (Sm.zeros 32)).length := Tryd.infoDigest
  have oZ := cs_one (Sm.zeros 32)
  go_enter Tryd.func28, Tryd.ntmps28
  go_wp2_with fail
  have B0 := below_alloc w (.cells (cs (Sm.zeros 32)).toArray 42)
  have t0 := there_new w (cs (Sm.zeros 32)).toArray 42 32 rfl
  change Calls _ _ _ (w.alloc (.cells (cs (Sm.zeros 32)).toArray 42)) _
  generalize w.alloc (.cells (cs (Sm.zeros 32)).toArray 42) = w0 at B0 t0 ⊢
  refine (fromNew6_no w0 v (h.below B0)).mono ?_
  rintro _ w1 ⟨rfl, rfl⟩
  have tZ : Hid (w0.there w.heap.size 0 (cs (Sm.zeros 32)).length) := hideP (by rw [cs_length, Sm.zeros_length]; exact t0)
  have P6 := below_cells (Nat.le_refl _) (cs (Sm.zeros 32)) 0 _ B0
  have R6 := World.rangeAt_setCells_same _ w.heap.size 0 (cs (Sm.zeros 32)) tZ.out
  go_wp2_with (refine wpList_store_ex rfl 42 _ _ rfl w.heap.size 0 (cs (Sm.zeros 32)) rfl rfl tZ.out iZ oZ ?_; intro w6 hw6; rw [hw6] at P6 R6; clear hw6)
  exact bodyPost_ret (results_cs (v := .bool false) (b := w.heap.size) (o := 0) (cs := cs (Sm.zeros 32)) rfl rfl rfl R6 Tryd.underlying42 rfl iZ) rfl ⟨rfl, P6⟩
set_option maxRecDepth 100000 in
set_option maxHeartbeats 1600000 in
theorem is6_no (w : World) (v x : Value) (h : NoRing w v) : Calls Tryd.prog 14 #[v, x] w fun e w' => e = .returned (.bool false) ∧ Below w.heap.size w w' := by
  have iZ : (Tryd.prog.info? 42).map (·.size) = some (cs (Sm.zeros 32)).length := Tryd.infoDigest
  have oZ := cs_one (Sm.zeros 32)
  go_enter Tryd.func14, Tryd.ntmps14
  go_wp2_with fail
  refine (key6_no w v x h).mono ?_
  rintro _ w1 ⟨rfl, b1⟩
  have B2 := Below.then b1 (below_alloc w1 (.cells (cs (Sm.zeros 32)).toArray 42))
  go_wp2_with (refine wpList_store_new rfl 42 _ _ rfl w1.heap.size rfl (cs (Sm.zeros 32)) rfl rfl rfl iZ oZ ?_)
  go_ret
  exact ⟨rfl, B2⟩
set_option maxRecDepth 100000 in
set_option maxHeartbeats 1600000 in
theorem verify6_no (w : World) (v x1 x2 x3 x4 : Value) (h : NoRing w v) : Calls Tryd.prog 20 #[v, x1, x2, x3, x4] w fun e w' => e = .returned (.bool false) ∧ Below w.heap.size w w' := by
  have iZ : (Tryd.prog.info? 42).map (·.size) = some (cs (Sm.zeros 32)).length := Tryd.infoDigest
  have oZ := cs_one (Sm.zeros 32)
  go_enter Tryd.func20, Tryd.ntmps20
  go_wp2_with fail
  refine (key6_no w v x1 h).mono ?_
  rintro _ w1 ⟨rfl, b1⟩
  have B2 := Below.then b1 (below_alloc w1 (.cells (cs (Sm.zeros 32)).toArray 42))
  go_wp2_with (refine wpList_store_new rfl 42 _ _ rfl w1.heap.size rfl (cs (Sm.zeros 32)) rfl rfl rfl iZ oZ ?_)
  go_ret
  exact ⟨rfl, B2⟩
set_option maxRecDepth 100000 in
set_option maxHeartbeats 1600000 in
theorem sign6_no (w : World) (v x1 x2 x3 : Value) (h : NoRing w v) : Calls Tryd.prog 18 #[v, x1, x2, x3] w fun e w' => e = .returned (.tuple #[ba (Sm.zeros 32), .int .i64 1]) ∧ Below w.heap.size w w' := by
  have iZ : (Tryd.prog.info? 42).map (·.size) = some (cs (Sm.zeros 32)).length := Tryd.infoDigest
  have oZ := cs_one (Sm.zeros 32)
  go_enter Tryd.func18, Tryd.ntmps18
  go_wp2_with fail
  have B0 := below_alloc w (.cells (cs (Sm.zeros 32)).toArray 42)
  have t0 := there_new w (cs (Sm.zeros 32)).toArray 42 32 rfl
  change Calls _ _ _ (w.alloc (.cells (cs (Sm.zeros 32)).toArray 42)) _
  generalize w.alloc (.cells (cs (Sm.zeros 32)).toArray 42) = w0 at B0 t0 ⊢
  refine (fromNew6_no w0 v (h.below B0)).mono ?_
  rintro _ w1 ⟨rfl, rfl⟩
  have tZ : Hid (w0.there w.heap.size 0 (cs (Sm.zeros 32)).length) := hideP (by rw [cs_length, Sm.zeros_length]; exact t0)
  have P6 := below_cells (Nat.le_refl _) (cs (Sm.zeros 32)) 0 _ B0
  have R6 := World.rangeAt_setCells_same _ w.heap.size 0 (cs (Sm.zeros 32)) tZ.out
  go_wp2_with (refine wpList_store_ex rfl 42 _ _ rfl w.heap.size 0 (cs (Sm.zeros 32)) rfl rfl tZ.out iZ oZ ?_; intro w6 hw6; rw [hw6] at P6 R6; clear hw6)
  exact bodyPost_ret (results_cs (v := .int .i64 1) (b := w.heap.size) (o := 0) (cs := cs (Sm.zeros 32)) rfl rfl rfl R6 Tryd.underlying42 rfl iZ) rfl ⟨rfl, P6⟩
end Go.Proofs.YtfpdiafedoppnaaDoor
