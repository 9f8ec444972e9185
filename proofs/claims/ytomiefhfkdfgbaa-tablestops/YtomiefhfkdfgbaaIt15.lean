/-
  What rounds over a table's facts keep; kept and its iterator.
-/
import Derived.Test.YtomiefhfkdfgbaaNw15
import Derived.Test.YtomiefhfkdfgbaaSq
namespace Go.Proofs.Ytomiefhfkdfgbaa
open Go.RowKit Go.Shelf Go.Sort
attribute [local go_sem] Oper.semAt_some

def loose : Obj → Bool
  | .cells _ t _ => t == 34 || t == 50
  | _ => false
/-- A ROUND's WORD: of what was there nothing turned but X, and facts and constants from n0 on -/
structure Rd5 (n0 : Nat) (X : Nat → Prop) (W W' : World) : Prop where
  os : W'.os = W.os
  tape : W'.tape = W.tape
  output : W'.output = W.output
  size : W.heap.size ≤ W'.heap.size
  same : ∀ (k : Nat) (o : Obj), W.heap[k]? = some o → ¬ X k → (k < n0 ∨ loose o = false) → W'.heap[k]? = some o
theorem Rd5.refl (n0 : Nat) (X : Nat → Prop) (W : World) : Rd5 n0 X W W := ⟨rfl, rfl, rfl, Nat.le_refl _, fun _ _ h _ _ => h⟩
theorem Rd5.trans {n0 : Nat} {X : Nat → Prop} {A B C : World} (h : Rd5 n0 X A B) (k : Rd5 n0 X B C) : Rd5 n0 X A C :=
  ⟨k.os.trans h.os, k.tape.trans h.tape, k.output.trans h.output, Nat.le_trans h.size k.size, fun i o hi hx ho => k.same i o (h.same i o hi hx ho) hx ho⟩
theorem Rd5.of_below {n0 : Nat} {X : Nat → Prop} {W W' : World} (h : Below W.heap.size W W') : Rd5 n0 X W W' := ⟨h.os, h.tape, h.output, h.size, fun _ _ hk _ _ => below_heap h hk⟩
theorem Rd5.mono {n0 : Nat} {X Y : Nat → Prop} {W W' : World} (h : Rd5 n0 X W W') (hx : ∀ k, X k → Y k) : Rd5 n0 Y W W' := ⟨h.os, h.tape, h.output, h.size, fun k o hk hy ho => h.same k o hk (fun q => hy (hx k q)) ho⟩
theorem Rd5.but {n0 R : Nat} {X : Nat → Prop} {W W' : World} (h : But R W W') (hR : X R) : Rd5 n0 X W W' := ⟨h.os, h.tape, h.output, h.size, fun _ _ hk hx _ => h.heap (fun e => hx (e ▸ hR)) hk⟩
theorem Rd5.butL {n0 R : Nat} {X : Nat → Prop} {W W' : World} {o : Obj} (h : But R W W') (hF : W.heap[R]? = some o) (ho : loose o = true) (hn : n0 ≤ R) : Rd5 n0 X W W' := ⟨h.os, h.tape, h.output, h.size, fun k o' hk _ hq => h.heap (fun e => by
  subst e; rw [hF] at hk; cases hk
  rcases hq with hq | hq
  · omega
  · rw [ho] at hq; cases hq) hk⟩
theorem Rd5.other {n0 : Nat} {X : Nat → Prop} {W W' : World} {k : Nat} {o : Obj} (h : Rd5 n0 X W W') (hk : W.heap[k]? = some o) (hx : ¬ X k) (ho : loose o = false) : W'.heap[k]? = some o := h.same k o hk hx (.inr ho)
theorem Rd5.keeps {n0 B : Nat} {X : Nat → Prop} {W W' : World} (h : Rd5 n0 X W W') (hX : ∀ k, X k → k < B) : KeepsFrom B W W' :=
  ⟨h.size, fun k o hB hk ho => h.other hk (fun hx => by have := hX k hx; omega) (by cases o <;> first | rfl | cases ho)⟩
theorem Rd5.below {n0 : Nat} {X : Nat → Prop} {W W' : World} (h : Rd5 n0 X W W') (hX : ∀ k, X k → n0 ≤ k) (hn : n0 ≤ W.heap.size) : Below n0 W W' :=
  ⟨h.os, h.tape, h.output, h.size, fun k hk => by
    have hlt : k < W.heap.size := by omega
    rw [Array.getElem?_eq_getElem hlt]
    exact h.same k _ (Array.getElem?_eq_getElem hlt) (fun hx => by have := hX k hx; omega) (.inl hk)⟩
theorem Rd5.itr {n0 B : Nat} {X : Nat → Prop} {pt : TypeId} {w0 A A' : World} (h : Rd5 n0 X w0 A) (hi : Itr pt B A A') (hB : w0.heap.size ≤ B) : Rd5 n0 X w0 A' :=
  ⟨hi.os.trans h.os, hi.tape.trans h.tape, hi.output.trans h.output, Nat.le_trans h.size hi.size, fun k o hk hx ho => (hi.low k (Nat.lt_of_lt_of_le (heap_lt hk) hB)).trans (h.same k o hk hx ho)⟩
/-- of the world w's rows X names tables and boxes of lists alone -/
def Clear (X : Nat → Prop) (w : World) : Prop := ∀ (k : Nat) (c : Array Value) (t : TypeId), X k → w.heap[k]? = some (.cells c t) → t = 66 ∨ t = 41
/-- the other rows of w0 stand -/
def Kp5 (w0 W : World) : Prop := ∀ (k : Nat) (c : Array Value) (t : TypeId), w0.heap[k]? = some (.cells c t) → t ≠ 66 → t ≠ 41 → W.heap[k]? = some (.cells c t)
theorem Rd5.kp5 {n0 : Nat} {X : Nat → Prop} {W W' : World} (h : Rd5 n0 X W W') (hn : W.heap.size ≤ n0) (hX : Clear X W) : Kp5 W W' := fun k c t hk h1 h2 =>
  h.same k _ hk (fun hx => (hX k c t hx hk).elim h1 h2) (.inl (by have := heap_lt hk; omega))
theorem Kp5.s3 {W W' : World} (h : Kp5 W W') : S3 W W' := ⟨fun k c hk => h k c _ hk (by decide) (by decide), fun k c hk => h k c _ hk (by decide) (by decide), fun k c hk => h k c _ hk (by decide) (by decide)⟩
theorem Kp5.below {W W' : World} (h : Below W.heap.size W W') : Kp5 W W' := fun _ _ _ hk _ _ => below_heap h hk
theorem Kp5.trans {A B C : World} (h : Kp5 A B) (k : Kp5 B C) : Kp5 A C := fun i c t hi h1 h2 => k i c t (h i c t hi h1 h2) h1 h2
theorem Rd5.s3 {n0 : Nat} {X : Nat → Prop} {W W' : World} (h : Rd5 n0 X W W') (hn : W.heap.size ≤ n0) (hX : Clear X W) : S3 W W' := (h.kp5 hn hX).s3

/-- no type's number -/
abbrev noT : TypeId := 1000000
/-- WHAT a table is, as a range finds it: nothing, or its facts -/
def TabV (W : World) (t : Value) (a : Option Addr) (cap : Nat) (ps : List Pn) : Prop :=
  (∃ (b : Nat) (m : Int), t = ptr b ∧ 0 < m ∧ W.heap[b]? = some (.cells #[.int .i64 m, .slice a ps.length cap] 66)) ∨ (ps = [] ∧ (t = nilp ∨ ∃ (b : Nat) (s : Value), t = ptr b ∧ W.heap[b]? = some (.cells #[.int .i64 0, s] 66)))
theorem TabV.below {W W' : World} {t : Value} {a : Option Addr} {cap : Nat} {ps : List Pn} (h : TabV W t a cap ps) (hb : Below W.heap.size W W') : TabV W' t a cap ps := by
  rcases h with ⟨b, m, h1, h2, h3⟩ | ⟨h1, h2 | ⟨b, s, h2, h3⟩⟩
  · exact .inl ⟨b, m, h1, h2, below_heap hb h3⟩
  · exact .inr ⟨h1, .inl h2⟩
  · exact .inr ⟨h1, .inr ⟨b, s, h2, below_heap hb h3⟩⟩
theorem TabAt.tabV {W : World} {b m : Nat} {a : Option Addr} {cap : Nat} {ps : List Pn} (h : TabAt W b m a cap ps) : TabV W (ptr b) a cap ps := .inl ⟨b, m, rfl, by have := h.low; omega, h.cell⟩

set_option maxRecDepth 100000 in
set_option maxHeartbeats 2000000 in
theorem kept1_at (w0 : World) (n0 tb : Nat) (t : Value) (a : Option Addr) (cap : Nat) (ps : List Pn) (X : Nat → Prop) (l : Nat) (J Jx : List Pn → World → Prop) (W : World)
    (hT : W.heap[tb]? = some (.cells #[t] 23)) (hV : TabV W t a cap ps) (hL : LstAt w0 a cap ps) (hn : w0.heap.size ≤ n0) (hX : Clear X w0)
    (hr2 : ∀ pre A, J pre A → Rd5 n0 X w0 A)
    (hY : ∀ pre p v W1, J pre W1 → (v = ptr p.q ∧ p ∈ ps) → pre.length < ps.length → YieldAt Fence.wide 0 Try.prog l #[v] W1 fun e W' => (e = .returned (.bool true) ∧ J (pre ++ [p]) W') ∨ (e = .returned (.bool false) ∧ Jx (pre ++ [p]) W'))
    (h0 : J [] W) :
    Calls Try.prog 66 #[.func (.yield l) #[] #[], ptr tb] W fun e W' => (∃ v, e = .returned v) ∧ (J ps W' ∨ ∃ pre, pre <+: ps ∧ Jx pre W') := by
  have c0 := heap_cell hT 0
  simp at c0
  rcases hV with ⟨b, m, rfl, hm, hb⟩ | ⟨rfl, hz⟩
  · have c1 := heap_cell hb 1
    simp at c1
    have few := hL.row.row.few
    go_enter Try.func66, Try.ntmps66
    go_wp2_with fail
    refine (fromNew_at b m _ W hb).mono ?_
    rintro e w1 ⟨rfl, rfl⟩
    rw [decide_eq_true hm]
    go_wp2_with fail
    go_loopw [4, 13] (fun _ v13 wr => ∃ k : Nat, v13 = .int .i64 (k : Int) ∧ k ≤ ps.length ∧ J (ps.take k) wr) (fun _ v13 _ => ps.length - (intOf v13).toNat)
    case atStart => exact ⟨0, rfl, Nat.zero_le _, h0⟩
    case round =>
      obtain ⟨k, rfl, hk, hJk⟩ := hrel
      by_cases hlt : k < ps.length
      · have q2 : (k : Int) < (ps.length : Int) := by omega
        obtain ⟨P1, O1, rfl⟩ := hL.row.row.addr (Nat.lt_of_le_of_lt (Nat.zero_le _) hlt)
        have a1 : wr.cell? ⟨P1, O1 + k * 1 + 0, none⟩ = some (ptr ps[k].q) := (hL.safe ((hr2 _ _ hJk).s3 hn hX)).row.row.range k hlt 0 _ rfl
        simp only [Nat.mul_one, Nat.add_zero] at a1
        have hst : Hid (ps.take (k + 1) = ps.take k ++ [ps[k]]) := List.take_succ_eq_append_getElem hlt
        have hst2 : Hid (ps.take k ++ [ps[k]] <+: ps) := by
          show _ <+: _
          rw [← hst.out]; exact List.take_prefix _ _
        obtain ⟨fn, tmps, assign, body, hy, hR⟩ := hY (ps.take k) (ps[k]'hlt) _ wr hJk ⟨rfl, List.getElem_mem hlt⟩ (by rw [List.length_take]; omega)
        generalize (ps[k]'hlt) = p at *
        clear hY hr2
        have hw : wrap64 ((k : Int) + 1) = (k : Int) + 1 := by unfold wrap64; omega
        have hw2 : IntKind.i64.wrap ((k : Int) + 1) = (k : Int) + 1 := by rw [IntKind.wrap_i64]; omega
        go_upto_region 4 with fail
        refine (wpIn_wide (n := 0)).1 ?_
        gi_wp2
        refine ⟨rfl, hR.mono ?_⟩
        rintro e W3 (⟨rfl, hJ3⟩ | ⟨rfl, hJx3⟩)
        · gi_wp2
          go_wp2_with fail
          exact ⟨⟨k + 1, by simp, by omega, by rw [hst.out]; exact hJ3⟩, by simp [intOf]; omega⟩
        · gi_wp2
          go_wp2_with fail
          refine bodyPost_ret (results_none rfl _ _ _) rfl ?_
          exact ⟨⟨_, rfl⟩, .inr ⟨ps.take k ++ [p], hst2.out, hJx3⟩⟩
      · have q2 : ¬ (k : Int) < (ps.length : Int) := by omega
        rw [List.take_of_length_le (by omega)] at hJk
        go_wp2_with fail
        go_end0
        exact ⟨⟨_, rfl⟩, .inl hJk⟩
  · rcases hz with rfl | ⟨b, s, rfl, hb⟩
    · go_enter Try.func66, Try.ntmps66
      go_wp2_with fail
      refine (fromNew_nil W).mono ?_
      rintro e w1 ⟨rfl, rfl⟩
      go_wp2_with fail
      refine bodyPost_ret (results_none rfl _ _ _) rfl ?_
      exact ⟨⟨_, rfl⟩, .inl h0⟩
    · go_enter Try.func66, Try.ntmps66
      go_wp2_with fail
      refine (fromNew_at b 0 s W hb).mono ?_
      rintro e w1 ⟨rfl, rfl⟩
      go_wp2_with fail
      refine bodyPost_ret (results_none rfl _ _ _) rfl ?_
      exact ⟨⟨_, rfl⟩, .inl h0⟩
end Go.Proofs.Ytomiefhfkdfgbaa
