/-
  The program's Term, Rule, Program: what they answer.
-/
import Derived.Test.YtefajadolgmpdaaGreatDoorQPt2
namespace Go.Proofs.YtefajadolgmpdaaGreatDoor
open Go.RowKit Go.Lib Go.Shelf

/-- an answer: a text, or an error beside the empty one -/
def sv (r : Option (List UInt8)) : Value := match r with | some s => .tuple #[str s, .int .i64 0] | none => .tuple #[str [], .int .i64 100]
def pv (r : Except Int (List UInt8)) : Value := match r with | .ok s => .tuple #[str s, .int .i64 0] | .error e => .tuple #[str [], .int .i64 e]
theorem fresh_ps {w0 w : World} (hL : Laid w0) (hb : Below w0.heap.size w0 w) : PS w0 w.heap.size [] (w.alloc (.cells #[.pointer none, .slice none 0 0] 108)) := by
  refine ⟨hL, hb.trans ((below_alloc w _).mono hb.size), .inl ⟨hb.size, .slice none 0 0, heap_alloc_new w _, World.ownsRow_nil _ _ _ _, by simp [Value.ownBlock]⟩⟩
theorem term_ne {t : Tm} {s : List UInt8} (h : Sh.termS t = some s) : s ≠ [] := by
  unfold Sh.termS at h
  split at h
  · rename_i hv
    split at h
    · cases h; exact hv
    · cases h
  · split at h
    · split at h
      · cases h
        unfold Go.Lib.itoa
        split
        · simp
        · exact Lx.dec_ne _
      · cases h
    · split at h
      · split at h
        · rename_i hw
          cases h
          have := (Sh.named_len (Sh.word_named hw).1).1
          intro h0; rw [h0] at this; simp at this
        · cases h; simp
      · cases h
theorem rule_ne {r : Ru} {s : List UInt8} (h : Sh.ruleS r = some s) : s ≠ [] := by
  obtain ⟨a, x, t, m, _, _, _, _, _, _, rfl⟩ := Sh.rule_parts h
  simp

set_option maxRecDepth 100000 in
set_option maxHeartbeats 2000000 in
theorem showRule_at (x : Rv) (w : World) (hL : Laid w) (hx : Rv.Aw w x) (hi : Sh.RIn x.r) :
    Calls Tryz.prog 36 #[rval x] w fun e w' => e = .returned (sv (Sh.ruleS x.r)) ∧ Below w.heap.size w w' := by
  have A0 := below_alloc w (.cells (rv x).toArray 42)
  have H0 := heap_alloc_new w (.cells (rv x).toArray 42)
  have T1 := hideP (canRule_at x _ (hL.below A0) (hx.below A0 (Nat.le_refl _)))
  have HC := hideP (Sh.rule_some x.r)
  cases hs : Sh.ruleS x.r with
  | none =>
    rw [← HC.out, hs] at T1
    clear hs HC
    go_enter Tryz.func36, Tryz.ntmps36
    go_wp2_with (refine wpList_load_all rfl 42 _ rfl w.heap.size 11 42 (rv x) _ rfl H0 rfl Tryz.underlying42 rfl Tryz.iR11 ?_)
    refine T1.out.mono ?_
    rintro e w1 ⟨rfl, b1⟩
    simp only [Option.isSome]
    go_wp2_with fail
    go_ret2
    exact ⟨rfl, Below.then A0 b1⟩
  | some s =>
    rw [← HC.out, hs] at T1
    have hsl := Sh.rule_len hi hs
    have hne := rule_ne hs
    go_enter Tryz.func36, Tryz.ntmps36
    go_wp2_with (refine wpList_load_all rfl 42 _ rfl w.heap.size 11 42 (rv x) _ rfl H0 rfl Tryz.underlying42 rfl Tryz.iR11 ?_)
    refine T1.out.mono ?_
    rintro e w1 ⟨rfl, b1⟩
    simp only [Option.isSome]
    have H1 := below_heap b1 H0
    have B1 := Below.then A0 b1
    have P1 := fresh_ps hL B1
    have H1' := below_heap (below_alloc w1 (.cells #[.pointer none, .slice none 0 0] 108)) H1
    go_wp2_with (refine wpList_load_all rfl 42 _ rfl w.heap.size 11 42 (rv x) _ rfl H1' rfl Tryz.underlying42 rfl Tryz.iR11 ?_)
    refine (prule_at x P1 hx hi hs (by simp)).mono ?_
    rintro e w2 ⟨rfl, P2, k2⟩
    rw [List.nil_append] at P2
    go_wp2_with fail
    refine (string_at w.heap.size w1.heap.size s w2 P2.bld hne).mono ?_
    rintro e w3 ⟨rfl, b3⟩
    go_wp2_with fail
    go_ret2
    exact ⟨rfl, P2.low.trans b3⟩

end Go.Proofs.YtefajadolgmpdaaGreatDoor
