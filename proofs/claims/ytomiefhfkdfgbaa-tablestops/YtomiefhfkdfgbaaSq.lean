/-
  A range over a function whose iterator keeps a list and maps of its own while it runs: what the iterator and the rounds promise each other, and the statement's law.
-/
import Derived.RangeFuncNested
import Derived.RangeFuncCalls
import Derived.RangeFuncLeaves
import Derived.RangeFuncBound
import Derived.TacticsIn
import Derived.Shelf.Abstract
import Derived.Test.YtomiefhfkdfgbaaRw
namespace Go.Proofs.Ytomiefhfkdfgbaa
open Go.RowKit

/-- THE ITERATOR's WORD: from W on, till the next round begins, nothing below B turned, and of the rest no cells but those of the type pt -/
structure Itr (pt : TypeId) (B : Nat) (W W' : World) : Prop where
  os : W'.os = W.os
  tape : W'.tape = W.tape
  output : W'.output = W.output
  size : W.heap.size ≤ W'.heap.size
  low : ∀ k, k < B → W'.heap[k]? = W.heap[k]?
  same : ∀ (k : Nat) (c : Array Value) (t : TypeId) (z : Nat × Nat), W.heap[k]? = some (.cells c t z) → t ≠ pt → W'.heap[k]? = some (.cells c t z)
theorem Itr.refl (pt : TypeId) (B : Nat) (W : World) : Itr pt B W W := ⟨rfl, rfl, rfl, Nat.le_refl _, fun _ _ => rfl, fun _ _ _ _ h _ => h⟩
theorem Itr.trans {pt : TypeId} {B : Nat} {X Y Z : World} (h : Itr pt B X Y) (k : Itr pt B Y Z) : Itr pt B X Z :=
  ⟨k.os.trans h.os, k.tape.trans h.tape, k.output.trans h.output, Nat.le_trans h.size k.size, fun i hi => (k.low i hi).trans (h.low i hi), fun i c t z hi ht => k.same i c t z (h.same i c t z hi ht) ht⟩
theorem Itr.mono {pt : TypeId} {B B' : Nat} {W W' : World} (h : Itr pt B W W') (hB : B' ≤ B) : Itr pt B' W W' := ⟨h.os, h.tape, h.output, h.size, fun k hk => h.low k (Nat.lt_of_lt_of_le hk hB), h.same⟩
theorem Itr.below {pt : TypeId} {B : Nat} {W W' : World} (h : Below W.heap.size W W') (hB : B ≤ W.heap.size) : Itr pt B W W' :=
  ⟨h.os, h.tape, h.output, h.size, fun k hk => h.block k (Nat.lt_of_lt_of_le hk hB), fun _ _ _ _ hk _ => below_heap h hk⟩
theorem Itr.toBelow {pt : TypeId} {B : Nat} {W W' : World} (h : Itr pt B W W') : Below B W W' := ⟨h.os, h.tape, h.output, h.size, h.low⟩
theorem Itr.but {pt : TypeId} {B R : Nat} {W W' : World} {C : Array Value} (h : But R W W') (hR : W.heap[R]? = some (.cells C pt)) (hB : B ≤ R) : Itr pt B W W' :=
  ⟨h.os, h.tape, h.output, h.size, fun k hk => h.block k (by have := heap_lt hR; omega) (by omega), fun k c t z hk ht => h.heap (fun e => by subst e; rw [hR] at hk; cases hk; exact ht rfl) hk⟩
theorem Itr.butO {pt : TypeId} {B R : Nat} {W W' : World} {o : Obj} (h : But R W W') (hR : W.heap[R]? = some o) (ho : o.isCells = false) (hB : B ≤ R) : Itr pt B W W' :=
  ⟨h.os, h.tape, h.output, h.size, fun k hk => h.block k (by have := heap_lt hR; omega) (by omega), fun k c t z hk _ => h.heap (fun e => by subst e; rw [hR] at hk; cases hk; cases ho) hk⟩
theorem but_putObj (W : World) (l : Nat) (o : Obj) : But l W (W.putObj l o) := ⟨rfl, rfl, rfl, by simp, fun _ _ hk => World.putObj_heap_other hk⟩
theorem Itr.putObj {pt : TypeId} {B l : Nat} {W : World} {o : Obj} (o' : Obj) (hl : W.heap[l]? = some o) (ho : o.isCells = false) (hB : B ≤ l) : Itr pt B W (W.putObj l o') := Itr.butO (but_putObj W l o') hl ho hB
theorem Itr.safe {pt ty : TypeId} {B : Nat} {W W' : World} (h : Itr pt B W W') (hn : ty ≠ pt) : Safe ty W W' := fun k cur hk => h.same k cur ty _ hk hn

/-- AN ITERATOR's CONTRACT, at the world in which it is called: Elt: what is known of an element where a round begins; Kp l: what a round keeps, l being the loop's record -/
def SeqM {α : Type} (P : Program) (pt : TypeId) (g : Nat) (lb : Array Value) (Elt : α → Value → World → Prop) (Kp : Nat → World → World → Prop) (S Sp : List α → Prop) (N : Nat) (W : World) : Prop :=
  ∀ (l : Nat) (J Jx : List α → World → Prop), l < W.heap.size → (∃ o : Obj, W.heap[l]? = some o ∧ o.isCells = false) → (∀ s X Y, J s X → Itr pt W.heap.size X Y → J s Y) → (∀ s X Y, Jx s X → Itr pt W.heap.size X Y → Jx s Y) →
    (∀ pre x v W1, J pre W1 → Elt x v W1 → pre.length < N → YieldAt Fence.wide 0 P l #[v] W1 fun e W' =>
      (e = .returned (.bool true) ∧ J (pre ++ [x]) W' ∧ Kp l W1 W') ∨ (e = .returned (.bool false) ∧ Jx (pre ++ [x]) W' ∧ KeepsFrom W.heap.size W1 W')) →
    J [] W →
    CallsIn Fence.wide 0 P g (#[.func (.yield l) #[] #[]] ++ lb) W fun e W' => (∃ v, e = .returned v) ∧ ((∃ xs, S xs ∧ J xs W') ∨ (∃ pre, Sp pre ∧ Jx pre W'))

/-- what a round's body owes: where it goes on, and where it leaves -/
def rndPost {α : Type} (B : Nat) (Kp : World → World → Prop) (I : List α → World → Prop) (Ix : Code → List α → World → Prop) (xs : List α) (W : World) : Exit → Act → World → Prop
  | .normal, _, W' => KeepsFrom B W W' ∧ Kp W W' ∧ I xs W'
  | .ret, _, W' => KeepsFrom B W W' ∧ Ix .ret xs W'
  | .exit id, _, W' => KeepsFrom B W W' ∧ Ix (.exit id) xs W'
  | .goto t, _, W' => KeepsFrom B W W' ∧ Ix (.goto t) xs W'
  | .panic _, _, _ => False
  | .outgrown, _, _ => False
theorem keeps_up {B C : Nat} {W W' : World} (h : KeepsFrom B W W') (hB : B ≤ C) : KeepsFrom C W W' := ⟨h.size, fun k o hk => h.same k o (Nat.le_trans hB hk)⟩
theorem keeps_put1 {C l : Nat} (W : World) (o : Obj) (hl : l < C) : KeepsFrom C W (W.putObj l o) := ⟨by simp, fun k o' hk h _ => by rw [World.putObj_heap_other (by omega)]; exact h⟩
/-- what a round that leaves keeps, its record aside -/
theorem keeps_put {B C l : Nat} {A W W3 : World} {o o' : Obj} (h : B ≤ C ∧ l < C) (h1 : KeepsFrom B A W) (h2 : KeepsFrom B (W.putObj l o) W3) : KeepsFrom C A (W3.putObj l o') :=
  (keeps_up h1 h.1).trans ((keeps_put1 W o h.2).trans ((keeps_up h2 h.1).trans (keeps_put1 W3 o' h.2)))
/-- THE STATEMENT -/
theorem wp_range {α : Type} {P : Program} {pt : TypeId} {g : Operand} {ps : Array Tmp} {assign body : Code} {Q : Exit → Act → World → Prop} {a : Act} {w : World} {gf : Nat} {lb : Array Value}
    (hg : a.eval g = .func (.func gf) #[] lb) (eg : ∀ args w, (callFunc gf args).run P w = .ok (.enter gf args) w)
    {Elt : α → Value → World → Prop} {Kp : Nat → World → World → Prop} {S Sp : List α → Prop} {N : Nat}
    (hseq : ∀ W1, Below w.heap.size w W1 → W1.heap.size = w.heap.size + 2 → SeqM P pt gf lb Elt Kp S Sp N W1)
    (hKt : ∀ {l : Nat} {X Y Z : World}, Kp l X Y → Kp l Y Z → Kp l X Z) (hKb : ∀ (l : Nat) (W : World) (o o' : Obj), w.heap.size ≤ l → W.heap[l]? = some o → o.isCells = false → Kp l W (W.putObj l o'))
    (hps : ps.size = 1) (I : List α → World → Prop) (Ix : Code → List α → World → Prop) (hI : ∀ s X Y, I s X → Itr pt w.heap.size X Y → I s Y) (hIx : ∀ c s X Y, Ix c s X → Itr pt w.heap.size X Y → Ix c s Y) (h0 : I [] w)
    (Ax : α → Act → World → Prop) (hAx : ∀ x a' X Y, Ax x a' X → Itr pt w.heap.size X Y → Ax x a' Y)
    (hassign : ∀ (l : Nat) (pre : List α) (x : α) (v : Value) (W : World) (K : Act → World → Prop), w.heap.size ≤ l → l < W.heap.size → I pre W → Elt x v W → (∀ a' W', KeepsFrom w.heap.size W W' → Kp l W W' → I pre W' → Ax x a' W' → K a' W') →
      assign.wpIn (Fence.wide.inRound l) 0 P (Exit.then K (fun _ _ _ => False)) { tmps := (ps.zip #[v]).foldl (fun t (p, v) => t.setIfInBounds p v) a.tmps, defers := [] } W)
    (hbody : ∀ (l : Nat) (pre : List α) (x : α) (a' : Act) (W : World), w.heap.size ≤ l → l < W.heap.size → I pre W → Ax x a' W → pre.length < N → body.wpIn (Fence.wide.inRound l) 0 P (rndPost w.heap.size (Kp l) I Ix (pre ++ [x]) W) a' W)
    (hdone : ∀ (D : Nat) (xs : List α) (W : World), w.heap.size ≤ D → S xs → I xs W → W.heap[D]? = some (.deferred (some [])) → Q .normal { a with defers := { target := .collected D, args := #[] } :: a.defers } W)
    (hstop : ∀ (D : Nat) (c : Code) (pre : List α) (W : World), w.heap.size ≤ D → Sp pre → Ix c pre W → W.heap[D]? = some (.deferred (some [])) → c.wpIn Fence.wide 0 P Q { a with defers := { target := .collected D, args := #[] } :: a.defers } W) :
    (Code.rangeFunc g ps assign body).wp P Q a w := by
  refine (wpIn_wide (n := 0)).1 (wpIn_rangeFunc ?_)
  intro fn hfn
  obtain ⟨rec, hrec⟩ : ∃ rec : LoopState → Option Code → Loop, rec = fun st pe => { state := st, pending := pe, fn, tmps := a.tmps, params := ps, assign, body, defers := w.heap.size } := ⟨_, rfl⟩
  obtain ⟨W1, hW1⟩ : ∃ W1, (w.alloc (.deferred (some []))).alloc (.loop (rec .ready none)) = W1 := ⟨_, rfl⟩
  have hL1 : W1.heap[w.heap.size + 1]? = some (.loop (rec .ready none)) := by
    rw [← hW1]; have := World.alloc_heap_new (w.alloc (.deferred (some []))) (.loop (rec .ready none)); rwa [World.size_alloc] at this
  have hK1 : W1.heap[w.heap.size]? = some (.deferred (some [])) := by
    rw [← hW1]; exact (Below.heap_alloc _ _ _ (by simp)).trans (World.alloc_heap_new w _)
  have hb1 : Below w.heap.size w W1 := by
    rw [← hW1]; exact ((Below.refl _ w).alloc (Nat.le_refl _) _).alloc (by simp) _
  have hsz : W1.heap.size = w.heap.size + 2 := by rw [← hW1]; simp
  have hI1 : I [] W1 := hI [] w W1 h0 (Itr.below hb1 (Nat.le_refl _))
  refine ⟨w.heap.size + 1, [{ target := .collected w.heap.size, args := #[] }], W1, { target := .fn (.func gf) lb, args := #[.func (.yield (w.heap.size + 1)) #[] #[]] }, W1, gf,
    #[.func (.yield (w.heap.size + 1)) #[] #[]] ++ lb, W1, ?_, ?_, ?_, ?_, (fun h => by cases h), ?_⟩
  · rw [← hW1, hrec]; exact run_enterLoop_outer _ _ _ _ _
  · simp only [resolve, hg]
    simp [go_sem]
  · intro f' hf'; exact trivial
  · simp [invoke, go_sem, eg]
  · refine (hseq W1 hb1 hsz (w.heap.size + 1)
      (fun pre W => I pre W ∧ W.heap[w.heap.size + 1]? = some (.loop (rec .ready none)) ∧ W.heap[w.heap.size]? = some (.deferred (some [])))
      (fun pre W => ∃ c, Ix c pre W ∧ W.heap[w.heap.size + 1]? = some (.loop (rec .done (some c))) ∧ W.heap[w.heap.size]? = some (.deferred (some [])))
      (by omega) ⟨_, hL1, rfl⟩
      (fun s X Y hs hi => ⟨hI s X Y hs.1 (hi.mono (by omega)), (hi.low _ (by omega)).trans hs.2.1, (hi.low _ (by omega)).trans hs.2.2⟩)
      (fun s X Y hs hi => by
        obtain ⟨c, hc, hl, hk⟩ := hs
        exact ⟨c, hIx c s X Y hc (hi.mono (by omega)), (hi.low _ (by omega)).trans hl, (hi.low _ (by omega)).trans hk⟩)
      ?_ ⟨hI1, hL1, hK1⟩).mono ?_
    · rintro pre x v W ⟨hi, hl, hk⟩ helt hlen
      have hlt : w.heap.size + 1 < W.heap.size := (Array.getElem?_eq_some_iff.1 hl).1
      have hy := run_yield (P := P) (args := #[v]) hl (by rw [hrec]; simp [hps])
      rw [hrec] at hy
      refine ⟨fn, _, assign, body, hy, roundIn_of_wpIn hfn (hassign _ pre x v W _ (by omega) hlt hi helt ?_)⟩
      clear hy
      intro a' Wa hkfa hkpa hia hax
      replace hl := hkfa.same _ _ (by omega) hl rfl
      replace hk := hkfa.same _ _ (Nat.le_refl _) hk rfl
      replace hlt : w.heap.size + 1 < Wa.heap.size := (Array.getElem?_eq_some_iff.1 hl).1
      replace hi := hia
      clear hia
      revert hkpa hkfa
      generalize W = Wb
      intro hkfa hkpa
      obtain ⟨W, rfl⟩ : ∃ W, W = Wa := ⟨_, rfl⟩
      refine ⟨_, run_beginRound hl (by rw [hrec]), ?_⟩
      have hl2 : (W.putObj (w.heap.size + 1) (.loop { rec .ready none with state := .busy })).heap[w.heap.size + 1]? = some (.loop { rec .ready none with state := .busy }) := World.putObj_heap_same hlt
      have hk2 : (W.putObj (w.heap.size + 1) (.loop { rec .ready none with state := .busy })).heap[w.heap.size]? = some (.deferred (some [])) := (World.putObj_heap_other (by omega)).trans hk
      have hw2 : Kp (w.heap.size + 1) W (W.putObj (w.heap.size + 1) (.loop { rec .ready none with state := .busy })) := hKb _ _ _ _ (by omega) hl rfl
      have hi2 : Itr pt w.heap.size W (W.putObj (w.heap.size + 1) (.loop { rec .ready none with state := .busy })) := Itr.putObj _ hl rfl (by omega)
      refine wpIn_mono (hbody _ pre x a' _ (by omega) (by rw [World.putObj_size]; exact hlt) (hI _ _ _ hi hi2) (hAx _ _ _ _ hax hi2) hlen) ?_
      have fin : ∀ (jump : Option Code) (W3 : World), KeepsFrom w.heap.size (W.putObj (w.heap.size + 1) (.loop { rec .ready none with state := .busy })) W3 →
          (Instr.endRound (w.heap.size + 1) jump).run P W3 = .ok (.bool jump.isNone) (W3.putObj (w.heap.size + 1) (.loop (rec (if jump.isNone then .ready else .done) jump))) ∧
          W3.heap[w.heap.size + 1]? = some (.loop { rec .ready none with state := .busy }) ∧
          (W3.putObj (w.heap.size + 1) (.loop (rec (if jump.isNone then .ready else .done) jump))).heap[w.heap.size + 1]? = some (.loop (rec (if jump.isNone then .ready else .done) jump)) ∧
          (W3.putObj (w.heap.size + 1) (.loop (rec (if jump.isNone then .ready else .done) jump))).heap[w.heap.size]? = some (.deferred (some [])) := fun jump W3 hk3 => by
        have hl3 := hk3.same _ _ (by omega) hl2 rfl
        have := run_endRound (P := P) jump hl3
        rw [hrec] at this ⊢
        exact ⟨this, by rw [hrec] at hl3; exact hl3, World.putObj_heap_same (Array.getElem?_eq_some_iff.1 hl3).1, (World.putObj_heap_other (by omega)).trans (hk3.same _ _ (Nat.le_refl _) hk2 rfl)⟩
      rintro e a3 W3 hp
      cases e with
      | normal =>
        obtain ⟨hk3, hkp3, hi3⟩ := hp
        obtain ⟨hr, hl3, hl4, hk4⟩ := fin none W3 hk3
        exact ⟨_, _, hr, .inl ⟨rfl, ⟨hI _ _ _ hi3 (Itr.putObj _ hl3 rfl (by omega)), hl4, hk4⟩, hKt hkpa (hKt (hKt hw2 hkp3) (hKb _ _ _ _ (by omega) hl3 rfl))⟩⟩
      | ret =>
        obtain ⟨hk3, hi3⟩ := hp
        obtain ⟨hr, hl3, hl4, hk4⟩ := fin (some .ret) W3 hk3
        exact ⟨_, _, hr, .inr ⟨rfl, ⟨.ret, hIx _ _ _ _ hi3 (Itr.putObj _ hl3 rfl (by omega)), hl4, hk4⟩, keeps_put (by omega) hkfa hk3⟩⟩
      | exit id =>
        obtain ⟨hk3, hi3⟩ := hp
        obtain ⟨hr, hl3, hl4, hk4⟩ := fin (some (.exit id)) W3 hk3
        exact ⟨_, _, hr, .inr ⟨rfl, ⟨.exit id, hIx _ _ _ _ hi3 (Itr.putObj _ hl3 rfl (by omega)), hl4, hk4⟩, keeps_put (by omega) hkfa hk3⟩⟩
      | goto t =>
        obtain ⟨hk3, hi3⟩ := hp
        obtain ⟨hr, hl3, hl4, hk4⟩ := fin (some (.goto t)) W3 hk3
        exact ⟨_, _, hr, .inr ⟨rfl, ⟨.goto t, hIx _ _ _ _ hi3 (Itr.putObj _ hl3 rfl (by omega)), hl4, hk4⟩, keeps_put (by omega) hkfa hk3⟩⟩
      | panic ch => exact hp.elim
      | outgrown => exact hp.elim
    · rintro e W2 ⟨⟨v, rfl⟩, (⟨xs, hS, hi, hl, hk⟩ | ⟨pre, hSp, c, hi, hl, hk⟩)⟩
      · exact ⟨none, _, by have := run_endLoop (P := P) hl (by rw [hrec]; simp); rw [hrec] at this; exact this, hdone _ xs _ (Nat.le_refl _) hS (hI _ _ _ hi (Itr.putObj _ hl rfl (by omega))) ((World.putObj_heap_other (by omega)).trans hk)⟩
      · exact ⟨some c, _, by have := run_endLoop (P := P) hl (by rw [hrec]; simp); rw [hrec] at this; exact this, hstop _ c pre _ (Nat.le_refl _) hSp (hIx _ _ _ _ hi (Itr.putObj _ hl rfl (by omega))) ((World.putObj_heap_other (by omega)).trans hk)⟩
/-- IN A ROUND, as everywhere: a region that defers nothing -/
theorem round_list {P : Program} {ops : Array Oper} {l : Nat} {Q : Exit → Act → World → Prop} (hQ : ¬ LetsOut Q) : ∀ (rest : List Oper), (rest.all fun o => match o.op with
    | .defer _ => false
    | _ => true) = true → ∀ (a : Act) (w : World), wpList P ops Q rest a w → wpListIn (Fence.wide.inRound l) 0 P ops Q rest a w
  | [], _, _, _, h => h
  | o :: rest, hd, a, w, h => by
    rw [List.all_cons, Bool.and_eq_true] at hd
    have hno : ∀ c, o.op ≠ .defer c := fun c e => by rw [e] at hd; simp at hd
    unfold wpList at h
    unfold wpListIn
    split at h
    · rename_i hw
      rw [if_pos hw]
      rcases h with h | ⟨_, h⟩
      · refine ⟨fun _ _ => trivial, ?_⟩
        unfold Oper.wp at h
        rw [show (o.semAt (Fence.wide.inRound l).round a.eval) = execOp a.eval o from Oper.semAt_some l _ _ hno]
        generalize (execOp a.eval o).run P w = r at h
        cases r with
        | ok nx w' =>
          cases nx with
          | value v => exact round_list hQ rest hd.2 _ _ h
          | skip => exact round_list hQ rest hd.2 _ _ h
          | defer d => exact round_list hQ rest hd.2 _ _ h
          | enter f args =>
            refine ⟨(fun q => by cases q), CallsIn.inRound l ((callsIn_wide.2 (show Calls P f args w' _ from h)).mono fun e w2 he => ?_)⟩
            cases e with
            | returned v => exact round_list hQ rest hd.2 _ _ he
            | panicked ch => exact he
            | outgrown => exact he
          | row rw_ args =>
            refine ⟨(fun q => by cases q), fun c cs _ => ?_⟩
            obtain ⟨v, w2, hr, hs⟩ := (show Rows P rw_ args w' _ from h) c cs
            exact ⟨v, w2, round_list hQ rest hd.2 _ _ hr, stepsIn_wide.2 hs⟩
          | round => exact h.elim
          | _ => exact h.elim
        | halt st w' =>
          cases st with
          | panic v => exact h
          | _ => exact h.elim
      · exact absurd h hQ
    · rename_i hw
      rw [if_neg hw]
      exact ⟨fun _ _ => trivial, round_list hQ rest hd.2 _ _ h⟩
theorem round_region {P : Program} {id l : Nat} {L : List Oper} {Q : Exit → Act → World → Prop} {a : Act} {w : World} (hQ : ¬ LetsOut Q) (hd : (L.all fun o => match o.op with
    | .defer _ => false
    | _ => true) = true) (h : wpList P L.toArray Q L a w) : (Code.region id L.toArray false).wpIn (Fence.wide.inRound l) 0 P Q a w := wpIn_region_lit (round_list hQ L hd a w h)
theorem rndPost_shut {α : Type} {B : Nat} {Kp : World → World → Prop} {I : List α → World → Prop} {Ix : Code → List α → World → Prop} {xs : List α} {W : World} : ¬ LetsOut (rndPost B Kp I Ix xs W) := fun ⟨_, _, h⟩ => h
theorem then_shut {K : Act → World → Prop} {Q : Exit → Act → World → Prop} (h : ¬ LetsOut Q) : ¬ LetsOut (Exit.then K Q) := fun ⟨a, w, q⟩ => h ⟨a, w, q⟩
/-- a function that holds such a statement -/
theorem calls_marks {P : Program} {f : FuncId} {fn : Func} {c : Code} {args : Array Value} {w : World} {R : Ending → World → Prop} (hf : P.funcs[f]? = some fn) (hb : fn.body = some c)
    (h : c.wp P (bodyPostM Fence.wide 0 P fn R) { tmps := args ++ Array.replicate (fn.ntmps - args.size) undef, defers := [] } w) : Calls P f args w R :=
  (callsIn_wide (n := 0)).1 (callsIn_of_wp_marks hf hb trivial ((wpIn_wide (n := 0)).2 h) rfl)
theorem calls_in {P : Program} {f : FuncId} {args : Array Value} {w : World} {R : Ending → World → Prop} (h : Calls P f args w R) : CallsIn Fence.wide 0 P f args w R := (callsIn_wide (n := 0)).2 h
end Go.Proofs.Ytomiefhfkdfgbaa
