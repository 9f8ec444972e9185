/-
  step: what is bound behind a literal and asked later, if the walk did not come to the same before.
-/
import Derived.Deep.LoopGhost
import Derived.BigQuiet
import Derived.TacticsInMore
import Derived.OwnWalkIn
import Derived.WalkKit
import Derived.Test.YtdehimbfcilhpaaGreatDoorQSt
namespace Go.Proofs.YtdehimbfcilhpaaGreatDoor
open Go.RowKit Go.Lib Go.Shelf

/-- what a step tells -/
def StepAns (x : Wv) (k : Nat) (y : Lv) (z : Fv) (p : List Bd) (met : List (List UInt8)) (B : Nat) (e : Ending) (w' : World) : Prop :=
  (e = .returned (.tuple #[.slice none 0 0, .bool false]) ∧ MetAt w' x.bt met ∧ ∀ q, Ml.stp x.r.home (Ml.laOf (Ml.spans x.r.r)) k y.l z.f p = some q → Ml.keyT Lib.itoa k q ∈ met) ∨
  (∃ q a' c' met', Ml.stp x.r.home (Ml.laOf (Ml.spans x.r.r)) k y.l z.f p = some q ∧ e = .returned (.tuple #[.slice a' q.length c', .bool true]) ∧ RowT bK 99 w' a' c' q ∧ From B a' ∧ MetAt w' x.bt met' ∧ (met' = met ∨ met' = met ++ [Ml.keyT Lib.itoa k q]))
theorem StepAns.no {x : Wv} {B k : Nat} {y : Lv} {z : Fv} {p : List Bd} {met : List (List UInt8)} {w' : World} (h1 : MetAt w' x.bt met) (h2 : ∀ q, Ml.stp x.r.home (Ml.laOf (Ml.spans x.r.r)) k y.l z.f p = some q → Ml.keyT Lib.itoa k q ∈ met) : StepAns x k y z p met B (.returned (.tuple #[.slice none 0 0, .bool false])) w' := .inl ⟨rfl, h1, h2⟩
theorem StepAns.yes {x : Wv} {B k : Nat} {y : Lv} {z : Fv} {p q : List Bd} {met met' : List (List UInt8)} {w' : World} {a' : Option Addr} {c' : Nat} (h0 : Ml.stp x.r.home (Ml.laOf (Ml.spans x.r.r)) k y.l z.f p = some q) (h1 : RowT bK 99 w' a' c' q) (hf : From B a') (h2 : MetAt w' x.bt met') (h3 : met' = met ∨ met' = met ++ [Ml.keyT Lib.itoa k q]) : StepAns x k y z p met B (.returned (.tuple #[.slice a' q.length c', .bool true])) w' := .inr ⟨q, a', c', met', h0, rfl, h1, hf, h2, h3⟩
theorem TabB.now {B : Nat} {w w' : World} (h : TabB B w) (hb : Below B w w') (hB : B ≤ w'.heap.size) : TabB w'.heap.size w' := fun W hW => h W (hb.trans (hW.mono hB))
/-- the cells that a step reads -/
def ClS (S b o k : Nat) (x : Wv) (y : Lv) (z : Fv) (W : World) : Prop :=
  W.cell? ⟨S, 0, none⟩ = some (str x.r.home.v) ∧ W.cell? ⟨S, 1, none⟩ = some (.bool x.r.home.k.num) ∧ W.cell? ⟨S, 2, none⟩ = some (.int .i64 x.r.home.k.n) ∧ W.cell? ⟨S, 3, none⟩ = some (str x.r.home.k.s) ∧ W.cell? ⟨S, 10, none⟩ = some (.slice (some ⟨b, o, none⟩) x.r.body.length x.r.bcap) ∧ W.cell? ⟨S + 1, 0, none⟩ = some (.int .i64 (k : Int)) ∧
  W.cell? ⟨b, o + k * 10, none⟩ = some (str y.by_.v) ∧ W.cell? ⟨b, o + k * 10 + 1, none⟩ = some (.bool y.by_.k.num) ∧ W.cell? ⟨b, o + k * 10 + 2, none⟩ = some (.int .i64 y.by_.k.n) ∧ W.cell? ⟨b, o + k * 10 + 3, none⟩ = some (str y.by_.k.s) ∧ W.cell? ⟨b, o + k * 10 + 4, none⟩ = some (str y.pred) ∧ W.cell? ⟨b, o + k * 10 + 5, none⟩ = some (.slice y.a y.args.length y.cap) ∧
  W.cell? ⟨b, o + k * 10 + 6, none⟩ = some (str y.at_.v) ∧ W.cell? ⟨b, o + k * 10 + 7, none⟩ = some (.bool y.at_.k.num) ∧ W.cell? ⟨b, o + k * 10 + 8, none⟩ = some (.int .i64 y.at_.k.n) ∧ W.cell? ⟨b, o + k * 10 + 9, none⟩ = some (str y.at_.k.s) ∧
  W.cell? ⟨S + 2, 0, none⟩ = some (str z.at_) ∧ W.cell? ⟨S + 2, 1, none⟩ = some (str z.by_) ∧ W.cell? ⟨S + 2, 2, none⟩ = some (str z.pred) ∧ W.cell? ⟨S + 2, 3, none⟩ = some (.slice z.a z.ks.length z.cap)
theorem clS_of {S b o k : Nat} {x : Wv} {y : Lv} {z : Fv} {W : World} (hba : x.r.ba = some ⟨b, o, none⟩) (h0 : W.heap[S]? = some (.cells x.cells 136)) (h1 : W.heap[S + 1]? = some (.cells #[.int .i64 (k : Int)] 3)) (h2 : W.heap[S + 2]? = some (.cells (fv z).toArray 36)) (r : W.rangeAt b (o + k * 10) (lv y)) : ClS S b o k x y z W := by
  have f := fun j => heap_cell h0 j
  refine ⟨f 0, f 1, f 2, f 3, (by rw [f 10, ← hba]; rfl), heap_cell h1 0, r 0 _ rfl, r 1 _ rfl, r 2 _ rfl, r 3 _ rfl, r 4 _ rfl, r 5 _ rfl, r 6 _ rfl, r 7 _ rfl, r 8 _ rfl, r 9 _ rfl, heap_cell h2 0, heap_cell h2 1, heap_cell h2 2, heap_cell h2 3⟩

set_option maxRecDepth 100000 in
set_option maxHeartbeats 2000000 in
theorem step_at (x : Wv) (k : Nat) (y : Lv) (z : Fv) (a : Option Addr) (c : Nat) (p : List Bd) (n : Nat) (met : List (List UInt8)) (w : World) (hr : Rv.Aw w x.r) (hky : x.r.body[k]? = some y) (hz : Fv.At w z) (hp : Row bK w a c p) (SP : SpansAt w x.bs (Ml.spans x.r.r) n) (M : MetAt w x.bt met)
    (hk : k ≤ 1000) (hok : ∀ b ∈ p, b.1.length ≤ maxLen) (hokz : ∀ q, Mt.lit x.r.home y.l z.f p = some q → ∀ b ∈ q, b.1.length ≤ maxLen ∧ OkB b) (hpl : p.length + y.args.length ≤ 95000) (hmet : met.length < 1000000) (ht : TabB w.heap.size w) :
    Calls Tryz.prog 115 #[x.val, .int .i64 (k : Int), z.val, .slice a p.length c] w fun e w' => StepAns x k y z p met w.heap.size e w' ∧ But x.bt w w' := by
  obtain ⟨hlt, hgy⟩ := List.getElem?_eq_some_iff.1 hky
  obtain ⟨b, o, hba⟩ := hr.body.addr (by omega)
  have hrow := hr.body
  rw [hba] at hrow
  have few := hrow.few
  have ry0 : w.rangeAt b (o + k * 10) (lv y) := by have := hrow.range k hlt; rw [hgy] at this; exact this
  have yAt := hr.each y (by rw [← hgy]; exact List.getElem_mem hlt)
  have UL : (litE x.r.home y.l z.f p).length ≤ p.length + (y.args.length + 2) := litE_len x.r.home y.l z.f p
  obtain ⟨h0, h1, h2, A0⟩ := boxes3 w (.cells x.cells 136) (.cells #[.int .i64 (k : Int)] 3) (.cells #[str z.at_, str z.by_, str z.pred, .slice z.a z.ks.length z.cap] 36)
  have rb : ∀ W, Below w.heap.size w W → W.rangeAt b (o + k * 10) (lv y) := fun W hW => by
    have := (hrow.below hW (Nat.le_refl _)).range k hlt; rw [hgy] at this; exact this
  have q0 : (k : Int) < (x.r.body.length : Int) := by omega
  have HBA := hideP hba
  have HOK := hideP hok
  have HOZ := hideP hokz
  have SZ := A0.size
  clear hba hok hokz hgy hky ry0 hrow hr
  go_enter Tryz.func115, Tryz.ntmps115
  go_wp2_with fail
  generalize hW : ((w.alloc (.cells x.cells 136)).alloc (.cells #[.int .i64 (k : Int)] 3)).alloc (.cells #[str z.at_, str z.by_, str z.pred, .slice z.a z.ks.length z.cap] 36) = W at *
  clear hW
  have gD := (Below.refl W.heap.size W).drew
  have Ad := Below.then A0 gD
  have H0 := below_heap gD h0
  have H1 := below_heap gD h1
  have H2 := below_heap gD h2
  have TLt := hideP (mLiteralO_at x.r.home y z a c p W.drew (hp.below Ad (Nat.le_refl _)) (by omega) (yAt.below Ad (Nat.le_refl _)) (hz.below Ad (Nat.le_refl _)))
  have RD := rb _ Ad
  have RBH := hideP rb
  clear rb h0 h1 h2
  go_region_held3 (fun W => W.cell? ⟨w.heap.size, 0, none⟩ = some (str x.r.home.v) ∧ W.cell? ⟨w.heap.size, 1, none⟩ = some (.bool x.r.home.k.num) ∧ W.cell? ⟨w.heap.size, 2, none⟩ = some (.int .i64 x.r.home.k.n) ∧ W.cell? ⟨w.heap.size, 3, none⟩ = some (str x.r.home.k.s) ∧ W.cell? ⟨w.heap.size, 10, none⟩ = some (.slice (some ⟨b, o, none⟩) x.r.body.length x.r.bcap) ∧ W.cell? ⟨w.heap.size + 1, 0, none⟩ = some (.int .i64 (k : Int)) ∧  W.cell? ⟨b, o + k * 10, none⟩ = some (str y.by_.v) ∧ W.cell? ⟨b, o + k * 10 + 1, none⟩ = some (.bool y.by_.k.num) ∧ W.cell? ⟨b, o + k * 10 + 2, none⟩ = some (.int .i64 y.by_.k.n) ∧ W.cell? ⟨b, o + k * 10 + 3, none⟩ = some (str y.by_.k.s) ∧ W.cell? ⟨b, o + k * 10 + 4, none⟩ = some (str y.pred) ∧ W.cell? ⟨b, o + k * 10 + 5, none⟩ = some (.slice y.a y.args.length y.cap) ∧  W.cell? ⟨b, o + k * 10 + 6, none⟩ = some (str y.at_.v) ∧ W.cell? ⟨b, o + k * 10 + 7, none⟩ = some (.bool y.at_.k.num) ∧ W.cell? ⟨b, o + k * 10 + 8, none⟩ = some (.int .i64 y.at_.k.n) ∧ W.cell? ⟨b, o + k * 10 + 9, none⟩ = some (str y.at_.k.s) ∧  W.cell? ⟨w.heap.size + 1 + 1, 0, none⟩ = some (str z.at_) ∧ W.cell? ⟨w.heap.size + 1 + 1, 1, none⟩ = some (str z.by_) ∧ W.cell? ⟨w.heap.size + 1 + 1, 2, none⟩ = some (str z.pred) ∧ W.cell? ⟨w.heap.size + 1 + 1, 3, none⟩ = some (.slice z.a z.ks.length z.cap)) (first | exact clS_of HBA.out J0 J1 J2 RJ | exact clS_of HBA.out H0 H1 H2 RD) (first | (go_at_call 142; refine TLt.out.mono ?_; rintro e w4 ⟨⟨a4, c4, rfl, o4⟩, b4⟩; have J0 := below_heap b4 H0; have J1 := below_heap b4 H1; have J2 := below_heap b4 H2; have B4 := Below.then Ad b4; have RJ := RBH.out _ B4))
  have s4 := b4.size
  have SP4 := SP.next B4
  have M4 := M.next B4
  clear TLt RJ RBH RD H0 H1 H2
  have STP : Hid (Ml.stp x.r.home (Ml.laOf (Ml.spans x.r.r)) k y.l z.f p = (Mt.lit x.r.home y.l z.f p).map fun e => e.filter fun b => !decide (Ml.laOf (Ml.spans x.r.r) b.1 ≤ k)) := rfl
  cases hl : Mt.lit x.r.home y.l z.f p with
  | none =>
    obtain ⟨l1, l2⟩ := lit_of_none hl
    have Z : Hid (∀ q, Ml.stp x.r.home (Ml.laOf (Ml.spans x.r.r)) k y.l z.f p = some q → Ml.keyT Lib.itoa k q ∈ met) := fun q hq => by rw [STP.out, hl] at hq; cases hq
    rw [l1, l2]
    clear hl l1 l2 o4 STP
    go_wp2_with fail
    go_ret2
    exact ⟨StepAns.no M4 Z.out, But.of_below B4⟩
  | some e1 =>
    obtain ⟨l1, l2⟩ := lit_of_some hl
    rw [l1] at o4 UL
    rw [l1, l2]
    have OKE := hideP (HOZ.out e1 hl)
    have HQ : Hid (Ml.stp x.r.home (Ml.laOf (Ml.spans x.r.r)) k y.l z.f p = some (e1.filter fun b => !decide (Ml.laOf (Ml.spans x.r.r) b.1 ≤ k))) := by show _ = _; rw [STP.out, hl]; rfl
    have FN := done_fn x w.heap.size (w.heap.size + 1) k n (Ml.spans x.r.r) w4 J0 J1 SP4
    have TD := hideP (delB_at W.drew.heap.size _ e1 w4 o4 s4 FN (fun b hb => (OKE.out b hb).1) (by omega))
    have FLN : (e1.filter fun b => !decide (Ml.laOf (Ml.spans x.r.r) b.1 ≤ k)).length ≤ e1.length := List.length_filter_le _ _
    have OKQ : Hid (∀ b ∈ e1.filter fun b => !decide (Ml.laOf (Ml.spans x.r.r) b.1 ≤ k), OkB b) := fun b hb => (OKE.out b (List.mem_filter.1 hb).1).2
    clear hl l1 l2 STP OKE HOZ o4
    generalize (e1.filter fun b => !decide (Ml.laOf (Ml.spans x.r.r) b.1 ≤ k)) = q at *
    go_wp2_with fail
    refine TD.out.mono ?_
    rintro e w5 ⟨⟨a5, c5, rfl, R5, F5⟩, b5, n5⟩
    have F6 : From w.heap.size a5 := From.mono F5 Ad.size
    clear F5
    have B5 : Below w.heap.size w w5 := B4.trans (b5.mono (by have := Ad.size; omega))
    have hp5 := hp.below B5 (Nat.le_refl _)
    have X0 := n5 _ _ J0 (fun _ _ e => by cases e)
    have X1 := n5 _ _ J1 (fun _ _ e => by cases e)
    obtain ⟨es4, ck4, hm4⟩ := M4.map
    have M5 := M4.block ((n5 _ _ hm4 (fun _ _ e => by cases e)).trans hm4.symm)
    have FN5 := FN.next n5
    have TH := hideP (hasB_at a c p w5 hp5 FN5 HOK.out)
    clear TD FN FN5 J0 J1 J2 SP4 M4 hm4 n5 b5 hp5 hp
    go_wp2_with fail
    refine TH.out.mono ?_
    rintro e w6 ⟨rfl, b6⟩
    have B6 : Below w.heap.size w w6 := Below.then B5 b6
    have R6 := R5.safe (Safe.below b6 : Safe 99 _ _)
    have Y0 := below_heap b6 X0
    have Y1 := below_heap b6 X1
    have M6 := M5.next b6
    clear TH X0 X1 M5 R5
    cases hany : p.any fun b => decide (Ml.laOf (Ml.spans x.r.r) b.1 ≤ k) with
    | false =>
      clear hany
      go_wp2_with fail
      go_ret2
      exact ⟨StepAns.yes HQ.out R6 F6 M6 (.inl rfl), But.of_below B6⟩
    | true =>
      clear hany
      have c1 : w6.cell? ⟨w.heap.size + 1, 0, none⟩ = some (.int .i64 (k : Int)) := by rw [heap_cell Y1]; rfl
      have TK := hideP (key_at k a5 c5 q w6 R6.row OKQ.out (by omega) (by omega) (ht.now B6 B6.size))
      clear OKQ
      go_wp2_with fail
      refine TK.out.mono ?_
      rintro e w7 ⟨rfl, hkl, b7⟩
      have B7 : Below w.heap.size w w7 := Below.then B6 b7
      have R7 := R6.safe (Safe.below b7 : Safe 99 _ _)
      have Z0 := below_heap b7 Y0
      have M7 := M6.next b7
      have c14 : w7.cell? ⟨w.heap.size, 14, none⟩ = some (.map (some x.bt)) := by rw [heap_cell Z0]; rfl
      have HKL := hideP hkl
      have LK := M7.look (Ml.keyT Lib.itoa k q) (by unfold maxLen; omega)
      have A8 := below_alloc w7 (.cells #[] 201)
      have M8 := M7.next A8
      have d14 : (w7.alloc (.cells #[] 201)).cell? ⟨w.heap.size, 14, none⟩ = some (.map (some x.bt)) := by rw [heap_cell (below_heap A8 Z0)]; rfl
      have B8 : Below w.heap.size w (w7.alloc (.cells #[] 201)) := Below.then B7 A8
      have R8 := R7.safe (Safe.below A8 : Safe 99 _ _)
      have KQ : Hid (Ml.keyT Lib.itoa k q = Ml.keyT Lib.itoa k q) := rfl
      obtain ⟨w9, hput, M9, b9⟩ := M8.put (Ml.keyT Lib.itoa k q) (by unfold maxLen; omega) hmet
      obtain ⟨es8, ck8, hm8⟩ := M8.map
      have R9 := R8.safe (fun kk cur hkk => b9.heap (fun e => by subst e; rw [hm8] at hkk; cases hkk) hkk : Safe 99 _ _)
      have B9 : But x.bt w w9 := (But.of_below B8).trans b9
      clear TK hkl M7 M8 b9 R7 R8 R6 M6 hm8 A8
      by_cases hin : Ml.keyT Lib.itoa k q ∈ met
      · have ZZ : Hid (∀ q', Ml.stp x.r.home (Ml.laOf (Ml.spans x.r.r)) k y.l z.f p = some q' → Ml.keyT Lib.itoa k q' ∈ met) := fun q' hq' => by rw [HQ.out] at hq'; cases hq'; exact hin
        rw [show decide (Ml.keyT Lib.itoa k q ∈ met) = true by simpa using hin] at LK
        clear hin HQ M9 R9 hput
        have M10 := (M.next B8)
        go_wp2_with fail
        go_ret2
        exact ⟨StepAns.no M10 ZZ.out, But.of_below B8⟩
      · rw [show decide (Ml.keyT Lib.itoa k q ∈ met) = false by simpa using hin] at LK
        clear hin
        go_wp2_with fail
        go_ret2
        exact ⟨StepAns.yes HQ.out R9 F6 M9 (.inr rfl), B9⟩
end Go.Proofs.YtdehimbfcilhpaaGreatDoor

/-
  What a round keeps; points of the walk in memory.
-/
namespace Go.Proofs.YtdehimbfcilhpaaGreatDoor
open Go.RowKit Go.Lib Go.Shelf

def isF : Obj → Bool
  | .cells _ t _ => t == 36
  | _ => false
/-- A ROUND's WORD: of what was there nothing turned but X, and facts from n0 on -/
structure Rnd (n0 : Nat) (X : Nat → Prop) (W W' : World) : Prop where
  os : W'.os = W.os
  tape : W'.tape = W.tape
  output : W'.output = W.output
  size : W.heap.size ≤ W'.heap.size
  same : ∀ (k : Nat) (o : Obj), W.heap[k]? = some o → ¬ X k → (k < n0 ∨ isF o = false) → W'.heap[k]? = some o
theorem Rnd.refl (n0 : Nat) (X : Nat → Prop) (W : World) : Rnd n0 X W W := ⟨rfl, rfl, rfl, Nat.le_refl _, fun _ _ h _ _ => h⟩
theorem Rnd.trans {n0 : Nat} {X : Nat → Prop} {A B C : World} (h : Rnd n0 X A B) (k : Rnd n0 X B C) : Rnd n0 X A C :=
  ⟨k.os.trans h.os, k.tape.trans h.tape, k.output.trans h.output, Nat.le_trans h.size k.size, fun i o hi hx ho => k.same i o (h.same i o hi hx ho) hx ho⟩
theorem Rnd.of_below {n0 : Nat} {X : Nat → Prop} {W W' : World} (h : Below W.heap.size W W') : Rnd n0 X W W' := ⟨h.os, h.tape, h.output, h.size, fun _ _ hk _ _ => below_heap h hk⟩
theorem Rnd.mono {n0 : Nat} {X Y : Nat → Prop} {W W' : World} (h : Rnd n0 X W W') (hx : ∀ k, X k → Y k) : Rnd n0 Y W W' := ⟨h.os, h.tape, h.output, h.size, fun k o hk hy ho => h.same k o hk (fun q => hy (hx k q)) ho⟩
theorem Rnd.but {n0 R : Nat} {X : Nat → Prop} {W W' : World} (h : But R W W') (hR : X R) : Rnd n0 X W W' := ⟨h.os, h.tape, h.output, h.size, fun _ _ hk hx _ => h.heap (fun e => hx (e ▸ hR)) hk⟩
theorem Rnd.butF {n0 R : Nat} {X : Nat → Prop} {W W' : World} {C : Array Value} {z : Nat × Nat} (h : But R W W') (hF : W.heap[R]? = some (.cells C 36 z)) (hn : n0 ≤ R) : Rnd n0 X W W' := ⟨h.os, h.tape, h.output, h.size, fun k o hk _ ho => h.heap (fun e => by
  subst e; rw [hF] at hk; cases hk
  rcases ho with ho | ho
  · omega
  · simp [isF] at ho) hk⟩
theorem Rnd.below {n0 : Nat} {X : Nat → Prop} {W W' : World} (h : Rnd n0 X W W') (hX : ∀ k, X k → n0 ≤ k) (hn : n0 ≤ W.heap.size) : Below n0 W W' :=
  ⟨h.os, h.tape, h.output, h.size, fun k hk => by
    have hlt : k < W.heap.size := by omega
    rw [Array.getElem?_eq_getElem hlt]
    exact h.same k _ (Array.getElem?_eq_getElem hlt) (fun hx => by have := hX k hx; omega) (.inl hk)⟩
theorem Rnd.safe {n0 : Nat} {X : Nat → Prop} {W W' : World} {ty : TypeId} (h : Rnd n0 X W W') (hn : ty ≠ 36) : ∀ (k : Nat) (cur : Array Value), W.heap[k]? = some (.cells cur ty) → ¬ X k → W'.heap[k]? = some (.cells cur ty) := fun k cur hk hx => h.same k _ hk hx (.inr (by simp [isF, hn]))
theorem Rnd.other {n0 : Nat} {X : Nat → Prop} {W W' : World} {k : Nat} {o : Obj} (h : Rnd n0 X W W') (hk : W.heap[k]? = some o) (hx : ¬ X k) (ho : isF o = false) : W'.heap[k]? = some o := h.same k o hk hx (.inr ho)
/-- rows from B on -/
theorem RowT.rnd {α : Type} {D : Kd α} {ty : TypeId} {n0 : Nat} {X : Nat → Prop} {W W' : World} {a : Option Addr} {c : Nat} {xs : List α} (h : RowT D ty W a c xs) (r : Rnd n0 X W W') (hn : ty ≠ 36) (hx : ∀ ad, a = some ad → ¬ X ad.block) : RowT D ty W' a c xs :=
  ⟨⟨h.row.room, h.row.few, h.row.void, fun ad ha j u hu => by
      obtain ⟨cur, hc⟩ := h.tag ad ha
      rw [← h.row.cells ad ha j u hu]
      exact World.cell?_of_block (w := W) (by rw [addr_add_block, r.safe hn _ _ hc (hx ad ha), hc])⟩, fun ad ha => by
    obtain ⟨cur, hc⟩ := h.tag ad ha
    exact ⟨cur, r.safe hn _ _ hc (hx ad ha)⟩⟩
/-- A POINT of the walk in memory -/
structure Pv where
  a : Option Addr
  cap : Nat
  env : List Bd
  t : Nat
def pvl (x : Pv) : List Value := [.slice x.a x.env.length x.cap, .int .i64 (x.t : Int)]
def pK : Kd Pv := ⟨pvl, 2, fun _ => rfl, fun _ => rfl, by decide⟩
theorem Tryz.iPt : (Tryz.prog.info? 166).map (fun i => (i.zero, i.size, i.bytes)) = some (some (.agg #[.slice none 0 0, .int .i64 0]), pK.k, 32) := by kernel_rfl
theorem iPt2 : (Tryz.prog.info? 166).map (·.size) = some 2 := by kernel_rfl
abbrev Pv.pt (x : Pv) : Mt.Env × Nat := (x.env, x.t)
theorem own_prefix {α : Type} {D : Kd α} {ty : TypeId} {w : World} {base g n cap : Nat} {xs ys : List α} (h : w.ownsRow base ty D.k (.slice (some ⟨g, 0, none⟩) n cap) (xs ++ ys).length ((xs ++ ys).flatMap D.enc)) : w.ownsRow base ty D.k (.slice (some ⟨g, 0, none⟩) xs.length cap) xs.length (xs.flatMap D.enc) := by
  obtain ⟨h1, h2⟩ := h
  refine ⟨by rw [flat_len D.enc D.k D.len], .inr ?_⟩
  rcases h2 with ⟨hv, _⟩ | ⟨g', cap', cur, hv, hb, hg, hnc, hcm, hcs, ht⟩
  · cases hv
  · cases hv
    refine ⟨g, cap, cur, rfl, hb, hg, by rw [List.length_append] at hnc; omega, hcm, hcs, ?_⟩
    have := congrArg (List.take (xs.length * D.k)) ht
    rw [List.take_take, List.flatMap_append, List.length_append, Nat.min_eq_left (by rw [Nat.add_mul]; omega)] at this
    rw [this, List.take_append_of_le_length (by rw [flat_len D.enc D.k D.len]; exact Nat.le_refl _), List.take_of_length_le (by rw [flat_len D.enc D.k D.len]; exact Nat.le_refl _)]
/-- a record of a row of the call's own stored over -/
theorem own_set {α : Type} {D : Kd α} {ty : TypeId} {w : World} {base g cap : Nat} {xs : List α} (h : w.ownsRow base ty D.k (.slice (some ⟨g, 0, none⟩) xs.length cap) xs.length (xs.flatMap D.enc)) (i : Nat) (hi : i < xs.length) (x : α) : (w.setCells g (i * D.k) (D.enc x)).ownsRow base ty D.k (.slice (some ⟨g, 0, none⟩) (xs.set i x).length cap) (xs.set i x).length ((xs.set i x).flatMap D.enc) := by
  rcases h.2 with ⟨hv, _⟩ | ⟨g', cap', cur, hv, hb, hg, hnc, hcm, hcs, ht⟩
  · cases hv
  · cases hv
    have hB : Blk D ty w g xs := ⟨cur, hg, by rw [hcs]; exact Nat.mul_le_mul_right _ hnc, fun j u hu => by
      have hj : j < xs.length * D.k := by have := (List.getElem?_eq_some_iff.1 hu).1; rwa [flat_len D.enc D.k D.len] at this
      rw [← ht, List.getElem?_take, if_pos hj] at hu
      simpa using hu⟩
    obtain ⟨cur', h1', h2', h3'⟩ := hB.set i hi x
    have h1 := heap_setCells g ty (D.enc x) (i * D.k) cur w hg
    rw [h1'] at h1
    cases h1
    refine ⟨by rw [flat_len D.enc D.k D.len], .inr ⟨g, cap, _, rfl, hb, h1', by rw [List.length_set]; exact hnc, hcm, by rw [splice_size]; exact hcs, ?_⟩⟩
    apply List.ext_getElem?
    intro j
    by_cases hj : j < (xs.set i x).length * D.k
    · have hj2 : j < ((xs.set i x).flatMap D.enc).length := by rw [flat_len D.enc D.k D.len]; exact hj
      rw [List.getElem?_take, if_pos hj, Array.getElem?_toList, List.getElem?_eq_getElem hj2]
      exact h3' j _ (List.getElem?_eq_getElem hj2)
    · rw [List.getElem?_take, if_neg hj, List.getElem?_eq_none (by rw [flat_len D.enc D.k D.len]; omega)]
end Go.Proofs.YtdehimbfcilhpaaGreatDoor

/-
  through: what is bound at each end of the body, told one by one.
-/
namespace Go.Proofs.YtdehimbfcilhpaaGreatDoor
namespace Ml
open Mt (Tx Env uni unis by1 lit nm nul)
theorem uni_vals {t : Tm} {c : K} {e e1 : Env} {P : K → Prop} (he : ∀ b ∈ e, P b.2) (hc : P c) (h : uni t c e = some e1) : ∀ b ∈ e1, P b.2 := by
  rw [uni_eq] at h
  obtain ⟨m, hm, rfl⟩ := Option.map_eq_some_iff.1 h
  intro b hb
  rcases List.mem_append.1 hb with hb | hb
  · exact he b hb
  · unfold uniM at hm
    split at hm
    · split at hm
      · cases hm; cases hb
      · cases hm
    · split at hm
      · cases hm
      · cases hm; rw [List.mem_singleton] at hb; subst hb; exact hc
theorem unis_vals {P : K → Prop} : ∀ {ts : List Tm} {cs : List K} {e e1 : Env}, (∀ b ∈ e, P b.2) → (∀ c ∈ cs, P c) → unis ts cs e = some e1 → ∀ b ∈ e1, P b.2
  | [], [], _, _, he, _, h => by cases h; exact he
  | t :: ts, c :: cs, e, e1, he, hc, h => by
    rw [unis] at h
    obtain ⟨e2, h1, h2⟩ := Option.bind_eq_some_iff.1 h
    exact unis_vals (uni_vals he (hc c (List.mem_cons_self ..)) h1) (fun c' h' => hc c' (List.mem_cons_of_mem _ h')) h2
  | [], _ :: _, _, _, _, _, h => by cases h
  | _ :: _, [], _, _, _, _, h => by cases h
theorem lit_vals {home : Tm} {l : Lt} {f : F} {e e1 : Env} {P : K → Prop} (he : ∀ b ∈ e, P b.2) (h1 : P (nm f.at_)) (h2 : P (nm f.by_)) (h3 : ∀ c ∈ f.ks, P c) (h : lit home l f e = some e1) : ∀ b ∈ e1, P b.2 := by
  unfold lit at h
  split at h
  · obtain ⟨e2, q1, h⟩ := Option.bind_eq_some_iff.1 h
    obtain ⟨e3, q2, q3⟩ := Option.bind_eq_some_iff.1 h
    have p1 := uni_vals he h1 q1
    refine unis_vals ?_ h3 q3
    unfold by1 at q2
    split at q2
    · split at q2
      · cases q2; exact p1
      · cases q2
    · exact uni_vals p1 h2 q2
  · cases h
end Ml
open Go.RowKit Go.Lib Go.Shelf

/-- a constant, a fact within bounds -/
def OkK (k : K) : Prop := -9223372036854775808 ≤ k.n ∧ k.n ≤ 9223372036854775807 ∧ k.s.length ≤ 1048576
structure SmF (f : F) : Prop where
  at_ : f.at_.length ≤ 1048576
  by_ : f.by_.length ≤ 1048576
  ks : ∀ k ∈ f.ks, OkK k
theorem okB_of {b : Bd} (h : OkK b.2) : OkB b := ⟨h.1, h.2.1, h.2.2⟩
theorem SmF.nmAt {f : F} (h : SmF f) : OkK (Mt.nm f.at_) := ⟨by show (-9223372036854775808 : Int) ≤ 0; omega, by show (0 : Int) ≤ 9223372036854775807; omega, h.at_⟩
theorem SmF.nmBy {f : F} (h : SmF f) : OkK (Mt.nm f.by_) := ⟨by show (-9223372036854775808 : Int) ≤ 0; omega, by show (0 : Int) ≤ 9223372036854775807; omega, h.by_⟩
/-- bindings within bounds, not too many -/
structure OkE (n : Nat) (p : List Bd) : Prop where
  each : ∀ b ∈ p, b.1.length ≤ maxLen ∧ OkK b.2
  nodup : (p.map (·.1)).Nodup
  len : p.length ≤ 1 + n * 302
theorem OkE.lit {n : Nat} {p q : List Bd} {home : Tm} {y : Lt} {f : F} (h : OkE n p) (hf : SmF f) (hh : home.v.length ≤ maxLen) (hy : ∀ v ∈ Ml.lvars y, v.length ≤ maxLen) (ha : y.args.length ≤ 300) (hl : Mt.lit home y f p = some q) : OkE (n + 1) q := by
  have hv := litE_vars (f := f) (fun b hb => (h.each b hb).1) hh hy h.nodup
  have hn := litE_len home y f p
  rw [(lit_of_some hl).1] at hv hn
  have hk := Ml.lit_vals (P := OkK) (fun b hb => (h.each b hb).2) hf.nmAt hf.nmBy hf.ks hl
  refine ⟨fun b hb => ⟨hv b hb, hk b hb⟩, (Ml.lit_nodup h.nodup hl).1, ?_⟩
  have := h.len
  rw [Nat.succ_mul]; omega
theorem OkE.stp {n : Nat} {p q : List Bd} {home : Tm} {la : List UInt8 → Nat} {k : Nat} {y : Lt} {f : F} (h : OkE n p) (hf : SmF f) (hh : home.v.length ≤ maxLen) (hy : ∀ v ∈ Ml.lvars y, v.length ≤ maxLen) (ha : y.args.length ≤ 300) (hl : Ml.stp home la k y f p = some q) : OkE (n + 1) q := by
  unfold Ml.stp at hl
  obtain ⟨e, he, rfl⟩ := Option.map_eq_some_iff.1 hl
  have o := h.lit hf hh hy ha he
  refine ⟨fun b hb => o.each b (List.mem_filter.1 hb).1, (List.Sublist.map _ List.filter_sublist).nodup o.nodup, Nat.le_trans (List.length_filter_le _ _) o.len⟩

/-- what is known of an end where a round begins -/
def EltE (B : Nat) (p : List Bd) (v : Value) (W : World) : Prop := ∃ a c, v = .slice a p.length c ∧ RowT bK 99 W a c p ∧ From B a ∧ p.length ≤ 100000
abbrev Wv.cx (x : Wv) : Ml.Cx := ⟨x.r.r, Ml.laOf (Ml.spans x.r.r), x.zs.map Fv.f, x.nvs.map Nv.ns⟩
/-- WHAT THE WALK READS, and what it is known of -/
structure WkIn (x : Wv) (w0 : World) (B : Nat) (e0 : List Bd) : Prop where
  rule : Rv.Aw w0 x.r
  sm : SmR x.r
  facts : Fts w0 x.fa x.fc x.zs
  small : ∀ z ∈ x.zs, SmF z.f
  tab : TabB w0.heap.size w0
  low : w0.heap.size ≤ B
  bs : B ≤ x.bs
  bt : B ≤ x.bt
  na : From B x.na
  nvs : ∀ y ∈ x.nvs, From B y.a
  chs : Ml.Chs x.r.home (Ml.fsOf (Ml.spans x.r.r)) (Ml.laOf (Ml.spans x.r.r)) e0 (x.zs.map Fv.f) 0 x.r.r.body (x.nvs.map Nv.ns)
  few : (x.cx.P 0 e0).length ≤ 60000
  e0k : OkE 0 e0
  zl : x.zs.length ≤ 1000000
  ne : x.bs ≠ x.bt
/-- the walk in the world W -/
structure WkW (x : Wv) (w0 : World) (B S n : Nat) (W : World) : Prop where
  below : Below w0.heap.size w0 W
  from_ : B ≤ W.heap.size
  box : W.heap[S]? = some (.cells x.cells 136)
  sp : SpansAt W x.bs (Ml.spans x.r.r) n
  nums : NumsAt W x.na x.nc x.nvs
theorem WkW.next {x : Wv} {w0 : World} {B S n : Nat} {W W' : World} (h : WkW x w0 B S n W) (hb : Below W.heap.size W W') (hB : w0.heap.size ≤ B) : WkW x w0 B S n W' :=
  ⟨h.below.trans (hb.mono (Nat.le_trans hB h.from_)), Nat.le_trans h.from_ hb.size, below_heap hb h.box, h.sp.next hb, h.nums.safe (Safe.below hb) (Safe.below hb)⟩
theorem WkW.round {x : Wv} {w0 : World} {B S n : Nat} {X : Nat → Prop} {W W' : World} {e0 : List Bd} (h : WkW x w0 B S n W) (hi : WkIn x w0 B e0) (r : Rnd w0.heap.size X W W') (hX : ∀ k, X k → w0.heap.size ≤ k ∧ k < B) (hS : B ≤ S) : WkW x w0 B S n W' := by
  have no : ∀ k, B ≤ k → ¬ X k := fun k hk hx => by have := (hX k hx).2; omega
  obtain ⟨es, ck, hm⟩ := h.sp.map
  have hlow : w0.heap.size ≤ W.heap.size := Nat.le_trans hi.low h.from_
  exact ⟨h.below.trans (r.below (fun k hk => (hX k hk).1) hlow), Nat.le_trans h.from_ r.size, r.other h.box (no _ hS) rfl, h.sp.block (by rw [hm]; exact r.other hm (no _ hi.bs) rfl),
    ⟨h.nums.row.rnd r (by decide) (fun ad ha => no _ (hi.na ad ha)), fun y hy => (h.nums.each y hy).rnd r (by decide) (fun ad ha => no _ (hi.nvs y hy ad ha))⟩⟩
/-- the points and what was met -/
structure WkP (x : Wv) (B : Nat) (e0 : List Bd) (ys : List Mt.Env) (L : List Pv) (met : List (Nat × Mt.Env)) (W : World) : Prop where
  pts : ∀ (j : Nat) (p : Pv), L[j]? = some p → RowT bK 99 W p.a p.cap p.env ∧ From B p.a ∧ OkE j p.env ∧ p.t ≤ (x.cx.ns j).length
  metA : MetAt W x.bt (met.map fun a => Ml.keyT Lib.itoa a.1 a.2)
  wk : Ml.Wk x.cx e0 ys (L.map Pv.pt) met
  wc : Ml.Wc x.cx e0 (L.map Pv.pt) met.length
  dep : L.length ≤ x.r.body.length + 1
theorem WkP.next {x : Wv} {B : Nat} {e0 : List Bd} {ys : List Mt.Env} {L : List Pv} {met : List (Nat × Mt.Env)} {W W' : World} (h : WkP x B e0 ys L met W) (hb : Below W.heap.size W W') : WkP x B e0 ys L met W' :=
  ⟨fun j p hp => ⟨(h.pts j p hp).1.safe (Safe.below hb), (h.pts j p hp).2⟩, h.metA.next hb, h.wk, h.wc, h.dep⟩
theorem ownsRow_rnd {n0 : Nat} {X : Nat → Prop} {W W' : World} {base : Nat} {e : TypeId} {size : Nat} {v : Value} {n : Nat} {xs : List Value} (h : W.ownsRow base e size v n xs) (r : Rnd n0 X W W') (hn : e ≠ 36) (hx : ∀ k, base ≤ k → ¬ X k) : W'.ownsRow base e size v n xs := by
  obtain ⟨h1, h2⟩ := h
  refine ⟨h1, ?_⟩
  rcases h2 with h2 | ⟨g, cap, cur, hv, hg, hh, rest⟩
  · exact .inl h2
  · exact .inr ⟨g, cap, cur, hv, hg, r.safe hn _ _ hh (hx g hg), rest⟩
theorem WkP.round {x : Wv} {w0 : World} {B : Nat} {X : Nat → Prop} {e0 : List Bd} {ys : List Mt.Env} {L : List Pv} {met : List (Nat × Mt.Env)} {W W' : World} (h : WkP x B e0 ys L met W) (hi : WkIn x w0 B e0) (r : Rnd w0.heap.size X W W') (hX : ∀ k, X k → w0.heap.size ≤ k ∧ k < B) : WkP x B e0 ys L met W' := by
  have no : ∀ k, B ≤ k → ¬ X k := fun k hk hx => by have := (hX k hx).2; omega
  obtain ⟨es, ck, hm⟩ := h.metA.map
  exact ⟨fun j p hp => ⟨(h.pts j p hp).1.rnd r (by decide) (fun ad ha => no _ ((h.pts j p hp).2.1 ad ha)), (h.pts j p hp).2⟩, h.metA.block (by rw [hm]; exact r.other hm (no _ hi.bt) rfl), h.wk, h.wc, h.dep⟩
end Go.Proofs.YtdehimbfcilhpaaGreatDoor

/-
  A cell of a record of a row of the call's own stored over.
-/
namespace Go.Proofs.YtdehimbfcilhpaaGreatDoor
open Go.RowKit Go.Lib Go.Shelf

theorem flat_set {α : Type} (D : Kd α) (xs : List α) (i c : Nat) (hi : i < xs.length) (hc : c < D.k) (x' : α) (v : Value) (hx : D.enc x' = (D.enc xs[i]).set c v) : (xs.set i x').flatMap D.enc = (xs.flatMap D.enc).set (i * D.k + c) v := by
  have hp := D.pos
  have hik : (i + 1) * D.k ≤ xs.length * D.k := Nat.mul_le_mul_right _ hi
  rw [Nat.succ_mul] at hik
  apply List.ext_getElem?
  intro j
  by_cases hj : j < xs.length * D.k
  · have e1 : j / D.k < xs.length := (Nat.div_lt_iff_lt_mul hp).2 hj
    have e2 : j % D.k < D.k := Nat.mod_lt _ hp
    have e3 : j / D.k * D.k + j % D.k = j := by rw [Nat.mul_comm]; exact Nat.div_add_mod j D.k
    have l1 := flat_get D.enc D.k D.len (xs.set i x') (j / D.k) (j % D.k) (by rw [List.length_set]; exact e1) e2
    have l2 := flat_get D.enc D.k D.len xs (j / D.k) (j % D.k) e1 e2
    rw [e3] at l1 l2
    rw [l1, List.getElem?_set, flat_len D.enc D.k D.len]
    by_cases hd : j / D.k = i
    · have hm : j = i * D.k + j % D.k := by rw [← hd]; exact e3.symm
      simp only [hd, List.getElem_set_self, hx, List.getElem?_set, D.len]
      simp only [hd] at l2
      by_cases hcc : c = j % D.k
      · rw [if_pos hcc, if_pos hc, if_pos (by rw [hcc]; exact hm.symm), if_pos (by omega)]
      · rw [if_neg hcc, if_neg (by omega), l2]
    · rw [List.getElem_set_ne (Ne.symm hd), if_neg (fun he => hd ?_), l2]
      rw [← he]
      exact Nat.div_eq_of_lt_le (by omega) (by rw [Nat.succ_mul]; omega)
  · rw [List.getElem?_eq_none (by rw [flat_len D.enc D.k D.len, List.length_set]; omega), List.getElem?_eq_none (by rw [List.length_set, flat_len D.enc D.k D.len]; omega)]
theorem own_cell {α : Type} {D : Kd α} {ty : TypeId} {w w' : World} {base g cap : Nat} {xs : List α} (h : w.ownsRow base ty D.k (.slice (some ⟨g, 0, none⟩) xs.length cap) xs.length (xs.flatMap D.enc)) (i c : Nat) (hi : i < xs.length) (hc : c < D.k) (x' : α) (v : Value) (hx : D.enc x' = (D.enc xs[i]).set c v)
    (hw : ∀ cur : Array Value, w.heap[g]? = some (.cells cur ty) → w'.heap[g]? = some (.cells (cur.setIfInBounds (i * D.k + c) v) ty)) : w'.ownsRow base ty D.k (.slice (some ⟨g, 0, none⟩) (xs.set i x').length cap) (xs.set i x').length ((xs.set i x').flatMap D.enc) := by
  rcases h.2 with ⟨hv, _⟩ | ⟨g', cap', cur, hv, hb, hg, hnc, hcm, hcs, ht⟩
  · cases hv
  · cases hv
    refine ⟨by rw [flat_len D.enc D.k D.len], .inr ⟨g, cap, _, rfl, hb, hw cur hg, by rw [List.length_set]; exact hnc, hcm, by rw [Array.size_setIfInBounds]; exact hcs, ?_⟩⟩
    rw [flat_set D xs i c hi hc x' v hx, ← ht, List.length_set, Array.toList_setIfInBounds, List.take_set]
theorem Ml.Chs.get {home : Tm} {fs la : List UInt8 → Nat} {e0 : Mt.Env} {m : List F} : ∀ {ls : List Lt} {nss : List (List Nat)} {k j : Nat} {l : Lt} {ns : List Nat}, Ml.Chs home fs la e0 m k ls nss → ls[j]? = some l → nss[j]? = some ns → Ml.Ch home fs la e0 m (k + j) l ns
  | [], _, _, _, _, _, _, h, _ => by cases h
  | _ :: _, [], _, _, _, _, h, _, _ => by cases h
  | l :: ls, ns :: nss, k, 0, _, _, h, h1, h2 => by cases h1; cases h2; exact h.1
  | l :: ls, ns :: nss, k, j + 1, _, _, h, h1, h2 => by
    have := Ml.Chs.get (ls := ls) (nss := nss) (k := k + 1) (j := j) h.2 h1 h2
    rw [show k + (j + 1) = k + 1 + j by omega]; exact this
theorem WkW.pt {x : Wv} {w0 : World} {B S n g : Nat} {W W' : World} {cur : Array Value} (h : WkW x w0 B S n W) (b : But g W W') (hc : W.heap[g]? = some (.cells cur 166)) (hg : B ≤ g) (hB : w0.heap.size ≤ B) : WkW x w0 B S n W' := by
  obtain ⟨es, ck, hm⟩ := h.sp.map
  exact ⟨h.below.trans (b.lower (Nat.le_trans hB hg) (Nat.le_trans hB h.from_)), Nat.le_trans h.from_ b.size, Safe.but b hc (by decide) _ _ h.box, h.sp.block (b.block _ (heap_lt hm) (fun e => by rw [e, hc] at hm; cases hm)), h.nums.safe (Safe.but b hc (by decide)) (Safe.but b hc (by decide))⟩
theorem WkP.pt {x : Wv} {B g : Nat} {e0 : List Bd} {ys : List Mt.Env} {L : List Pv} {met : List (Nat × Mt.Env)} {W W' : World} {cur : Array Value} (h : WkP x B e0 ys L met W) (b : But g W W') (hc : W.heap[g]? = some (.cells cur 166)) : WkP x B e0 ys L met W' := by
  obtain ⟨es, ck, hm⟩ := h.metA.map
  exact ⟨fun j p hp => ⟨(h.pts j p hp).1.safe (Safe.but b hc (by decide)), (h.pts j p hp).2⟩, h.metA.block (b.block _ (heap_lt hm) (fun e => by rw [e, hc] at hm; cases hm)), h.wk, h.wc, h.dep⟩
theorem WkW.met {x : Wv} {w0 : World} {B S n : Nat} {W W' : World} {es : Array MapEntry} {ck : Nat} (h : WkW x w0 B S n W) (b : But x.bt W W') (hm : W.heap[x.bt]? = some (.map es ck)) (hne : x.bs ≠ x.bt) (hg : B ≤ x.bt) (hB : w0.heap.size ≤ B) : WkW x w0 B S n W' := by
  have sf : ∀ ty : TypeId, Safe ty W W' := fun ty k cur hk => b.heap (fun e => by subst e; rw [hm] at hk; cases hk) hk
  exact ⟨h.below.trans (b.lower (Nat.le_trans hB hg) (Nat.le_trans hB h.from_)), Nat.le_trans h.from_ b.size, sf _ _ _ h.box, h.sp.block (b.block _ h.sp.lt hne), h.nums.safe (sf _) (sf _)⟩
theorem Itr.grown {pt : TypeId} {B base k n : Nat} {w w' : World} {v : Value} {xs : List Value} (hown : w.ownsRow base pt k v n xs) (hg : w.grownBy w' v.ownBlock) (hb : B ≤ base) (hB : B ≤ w.heap.size) : Itr pt B w w' := by
  have hlow : ∀ j, v.ownBlock = some j → B ≤ j := fun j hj => Nat.le_trans hb (hown.lt j hj).1
  refine ⟨hg.os, hg.tape, hg.output, hg.size, fun j hj => hg.block j (by omega) (fun e => by have := hlow j e.symm; omega), fun j c t z hj ht => ?_⟩
  rw [hg.block j (heap_lt hj) (fun e => ?_)]
  · exact hj
  · rcases hown.2 with ⟨h0, _⟩ | ⟨g, cap, cur', hv, _, hh, _⟩
    · rw [h0] at e; cases e
    · rw [hv] at e
      have e' : j = g := by cases e; rfl
      rw [e', hh] at hj
      cases hj; exact ht rfl
/-- a text that was met tells what was met -/
theorem met_mem {x : Wv} {B : Nat} {e0 p q : List Bd} {ys : List Mt.Env} {L : List Pv} {met : List (Nat × Mt.Env)} {W : World} {k i : Nat} (h : WkP x B e0 ys L met W) (hp : x.cx.V e0 k (p.map (·.1))) (hs : x.cx.st k i p = some q) (hm : Ml.keyT Lib.itoa k q ∈ met.map fun a => Ml.keyT Lib.itoa a.1 a.2) : (k, q) ∈ met := by
  obtain ⟨a, ha, he⟩ := List.mem_map.1 hm
  obtain ⟨h1, h2⟩ := Ml.key_inj Ml.dec_itoa (k := a.1) (j := k) (e := a.2) (p := q) (fun hk => by have h1 := (h.wk.met a ha).1; rw [hk] at h1; exact Ml.Cx.V_one h1 (Ml.Cx.V_next hp hs)) he
  have : a = (k, q) := by rw [← h1, ← h2]
  rw [← this]; exact ha
theorem met_few {x : Wv} {B : Nat} {e0 : List Bd} {ys : List Mt.Env} {L : List Pv} {met : List (Nat × Mt.Env)} {W : World} (h : WkP x B e0 ys L met W) (hf : (x.cx.P 0 e0).length ≤ 60000) : met.length ≤ 60000 := by
  have := h.wc
  unfold Ml.Wc at this
  omega
theorem st_eq {x : Wv} {k i : Nat} {y : Lv} {z : Fv} {p : List Bd} (hy : x.r.body[k]? = some y) (hz : x.zs[i]? = some z) : x.cx.st k i p = Ml.stp x.r.home (Ml.laOf (Ml.spans x.r.r)) k y.l z.f p := by
  unfold Ml.Cx.st
  rw [show x.cx.r.body[k]? = some y.l by show (x.r.body.map Lv.l)[k]? = _; rw [List.getElem?_map, hy]; rfl, show x.cx.m[i]? = some z.f by show (x.zs.map Fv.f)[i]? = _; rw [List.getElem?_map, hz]; rfl]
  rfl
theorem wk_skip {x : Wv} {e0 : List Bd} {ys : List Mt.Env} {L' : List Pv} {pp p1 : Pv} {met : List (Nat × Mt.Env)} {k i : Nat} (h : Ml.Wk x.cx e0 ys ((L' ++ [pp]).map Pv.pt) met) (hc : Ml.Wc x.cx e0 ((L' ++ [pp]).map Pv.pt) met.length) (hk : L'.length = k) (hn : k < x.cx.n) (hi : (x.cx.ns k)[pp.t]? = some i) (hp : p1.pt = (pp.env, pp.t + 1)) (hs : ∀ q, x.cx.st k i pp.env = some q → (k, q) ∈ met) :
    Ml.Wk x.cx e0 ys ((L' ++ [p1]).map Pv.pt) met ∧ Ml.Wc x.cx e0 ((L' ++ [p1]).map Pv.pt) met.length ∧ x.cx.lefts 0 ((L' ++ [p1]).map Pv.pt) < x.cx.lefts 0 ((L' ++ [pp]).map Pv.pt) := by
  subst hk
  obtain ⟨ht, hg⟩ := List.getElem?_eq_some_iff.1 hi
  have hl : (L'.map Pv.pt).length = L'.length := List.length_map _
  rw [List.map_append, List.map_cons, List.map_nil] at h hc ⊢
  rw [List.map_append, List.map_cons, List.map_nil, hp]
  rw [← hl] at hn
  have ht' : pp.t < (x.cx.ns (L'.map Pv.pt).length).length := by rw [hl]; exact ht
  have hg' : (x.cx.ns (L'.map Pv.pt).length)[pp.t] = i := by
    have : (x.cx.ns (L'.map Pv.pt).length)[pp.t]? = some i := by rw [hl]; exact hi
    exact (List.getElem?_eq_some_iff.1 this).2
  refine ⟨Ml.Wk.skip h hn ht' (fun q hq => ?_), Ml.Wc.skip hc hn ht', Ml.Cx.lefts_skip x.cx hn ht'⟩
  rw [hg', hl] at hq
  rw [hl]; exact hs q hq
theorem wk_push {x : Wv} (hnl : x.cx.nums.length = x.cx.n) {e0 q : List Bd} {ys : List Mt.Env} {L' : List Pv} {pp p1 p2 : Pv} {met met' : List (Nat × Mt.Env)} {k i : Nat} (h : Ml.Wk x.cx e0 ys ((L' ++ [pp]).map Pv.pt) met) (hc : Ml.Wc x.cx e0 ((L' ++ [pp]).map Pv.pt) met.length) (hk : L'.length = k) (hn : k < x.cx.n) (hi : (x.cx.ns k)[pp.t]? = some i) (hp : p1.pt = (pp.env, pp.t + 1)) (hp2 : p2.pt = (q, 0)) (hs : x.cx.st k i pp.env = some q) (hm : met' = met ∨ met' = met ++ [(k, q)]) :
    Ml.Wk x.cx e0 ys ((L' ++ [p1] ++ [p2]).map Pv.pt) met' ∧ Ml.Wc x.cx e0 ((L' ++ [p1] ++ [p2]).map Pv.pt) met'.length ∧ x.cx.lefts 0 ((L' ++ [p1] ++ [p2]).map Pv.pt) < x.cx.lefts 0 ((L' ++ [pp]).map Pv.pt) := by
  subst hk
  obtain ⟨ht, hg⟩ := List.getElem?_eq_some_iff.1 hi
  have hl : (L'.map Pv.pt).length = L'.length := List.length_map _
  rw [List.map_append, List.map_cons, List.map_nil] at h hc ⊢
  rw [List.map_append, List.map_append, List.map_cons, List.map_nil, List.map_cons, List.map_nil, hp, hp2]
  rw [← hl] at hn
  have ht' : pp.t < (x.cx.ns (L'.map Pv.pt).length).length := by rw [hl]; exact ht
  have hg' : (x.cx.ns (L'.map Pv.pt).length)[pp.t] = i := by
    have : (x.cx.ns (L'.map Pv.pt).length)[pp.t]? = some i := by rw [hl]; exact hi
    exact (List.getElem?_eq_some_iff.1 this).2
  have hs' : x.cx.st (L'.map Pv.pt).length (x.cx.ns (L'.map Pv.pt).length)[pp.t] pp.env = some q := by rw [hg', hl]; exact hs
  refine ⟨Ml.Wk.push hnl h hn ht' hs' (fun a ha => ?_), ?_, Ml.Cx.lefts_push x.cx hn ht'⟩
  · rcases hm with rfl | rfl
    · exact .inl ha
    · rcases List.mem_append.1 ha with ha | ha
      · exact .inl ha
      · rw [List.mem_singleton] at ha; exact .inr (by rw [hl]; exact ha)
  · refine (Ml.Wc.push hnl hc hn ht' hs').less ?_
    rcases hm with rfl | rfl
    · omega
    · simp
theorem own_not {w : World} {base k n b : Nat} {ty : TypeId} {v : Value} {xs : List Value} {es : Array MapEntry} {ck : Nat} (hown : w.ownsRow base ty k v n xs) (hm : w.heap[b]? = some (.map es ck)) : some b ≠ v.ownBlock := fun e => by
  rcases hown.2 with ⟨h0, _⟩ | ⟨g, cap, cur', hv, _, hh, _⟩
  · rw [h0] at e; cases e
  · rw [hv] at e
    have e' : b = g := by cases e; rfl
    rw [e', hh] at hm
    cases hm
theorem WkW.grown {x : Wv} {w0 : World} {B S n k m : Nat} {W W' : World} {v : Value} {xs : List Value} (h : WkW x w0 B S n W) (hown : W.ownsRow B 166 k v m xs) (hg : W.grownBy W' v.ownBlock) (hB : w0.heap.size ≤ B) : WkW x w0 B S n W' := by
  obtain ⟨es, ck, hm⟩ := h.sp.map
  have it := Itr.grown hown hg (Nat.le_refl _) h.from_
  exact ⟨h.below.trans ((it.mono hB).toBelow), Nat.le_trans h.from_ it.size, it.safe (by decide) _ _ h.box, h.sp.block (hg.block _ h.sp.lt (own_not hown hm)), h.nums.safe (it.safe (by decide)) (it.safe (by decide))⟩
theorem MetAt.grown {W W' : World} {bm B k m : Nat} {L : List (List UInt8)} {v : Value} {xs : List Value} (h : MetAt W bm L) (hown : W.ownsRow B 166 k v m xs) (hg : W.grownBy W' v.ownBlock) : MetAt W' bm L := by
  obtain ⟨es, ck, hm⟩ := h.map
  exact h.block (hg.block _ h.lt (own_not hown hm))
end Go.Proofs.YtdehimbfcilhpaaGreatDoor
