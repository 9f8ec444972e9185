/-
  Whether two programs are the same, and how great rules are: what the reference answers.
-/
import Derived.Test.YtghhdbkgibpebaaRs
import Derived.Test.YtghhdbkgibpebaaLike
import Derived.StillTailTactics
namespace Go.Proofs.Ytghhdbkgibpebaa
open Go.RowKit Go.Sort

/-- a whole record read, in a region that draws its order and only reads up to there -/
theorem wpStill_load_mid {P : Program} {ops : Array Oper} {rest : List Oper} {op : Oper} {a : Act} {w : World} {Q : Act → Prop} (hgd : op.guard = none) (ty : TypeId) (x : Operand) (ho : op.op = .load ty x)
    (b o : Nat) (hx : a.eval x = .pointer (some ⟨b, o, none⟩)) (cs : List Value) (d : TypeDesc) (hc : w.rangeAt b o cs)
    (hu : P.underlying ty = some d) (hd : d.isRow = true) (hi : (P.info? ty).map (·.size) = some cs.length)
    (h : wpStill P ops w Q rest (a.put op.dst (.agg cs.toArray))) : wpStill P ops w Q (op :: rest) a := by
  unfold wpStill
  rw [if_pos (by unfold Region.wanted; rw [hgd])]
  unfold Oper.still execOp
  simp only [ho, hx, Instr.loadAt, Instr.sureAddr, Sem.run_bind, Sem.run_pure, Result.andThen_ok, run_loadVar_mid w b o ty cs d hc hu hd hi]
  exact ⟨rfl, h⟩

def sameRs : List Ru → List Ru → Bool
  | [], [] => true
  | t :: r, u :: s => sameR t u && sameRs r s
  | _, _ => false
theorem sameRs_iff : ∀ ts us : List Ru, sameRs ts us = true ↔ ts = us
  | [], [] => by simp [sameRs]
  | t :: r, u :: s => by simp [sameRs, sameR_iff, sameRs_iff r s]
  | [], _ :: _ => by simp [sameRs]
  | _ :: _, [] => by simp [sameRs]
theorem sameRs_no {ts us : List Ru} (h : ts ≠ us) : sameRs ts us = false := by
  rw [Bool.eq_false_iff]; exact fun h' => h ((sameRs_iff _ _).1 h')

set_option maxRecDepth 100000 in
set_option maxHeartbeats 4000000 in
theorem rlike_at (a a' : Option Addr) (c c' : Nat) (xs ys : List Rv) (w : World) (hx : Row rK w a c xs) (hy : Row rK w a' c' ys) (ax : ∀ x ∈ xs, Rv.At w x) (ay : ∀ y ∈ ys, Rv.At w y) :
    Calls Try.prog 23 #[.slice a xs.length c, .slice a' ys.length c'] w fun e w' => e = .returned (.bool (sameRs (xs.map Rv.r) (ys.map Rv.r))) ∧ Below w.heap.size w w' := by
  have mixed : Try.prog.follows .mixedOrders = true := by kernel_rfl
  have hC := fun (p q : Rv) (W : World) (hp : Rv.At W p) (hq : Rv.At W q) => rsameRule_at p q W hp hq
  have b1 := hx.few; have b2 := hy.few
  have iN : (Try.prog.info? 55).map (·.size) = some 11 := by kernel_rfl
  by_cases hl : xs.length = ys.length
  rotate_left
  · have q0 : ((xs.length : Int) != (ys.length : Int)) = true := by simp; omega
    have hno : sameRs (xs.map Rv.r) (ys.map Rv.r) = false := sameRs_no fun h => hl (by have := congrArg List.length h; simpa using this)
    rw [hno]
    go_enter Try.func23, Try.ntmps23
    go_wp2_with fail
    go_ret
    exact ⟨rfl, Below.refl _ _⟩
  · have q0 : ((xs.length : Int) != (ys.length : Int)) = false := by simp; omega
    have Hl := hideP hl; clear hl
    go_enter Try.func23, Try.ntmps23
    go_wp2_with fail
    go_loopw [5] (fun v wr => ∃ k : Nat, v = .int .i64 (k : Int) ∧ k ≤ xs.length ∧ Hid (∀ j (h1 : j < xs.length) (h2 : j < ys.length), j < k → xs[j].r = ys[j].r) ∧ Below w.heap.size w wr) (fun v _ => xs.length - (intOf v).toNat)
    case atStart => exact ⟨0, rfl, by omega, fun j _ _ h => absurd h (by omega), Below.refl _ _⟩
    case round =>
      obtain ⟨k, rfl, hk, hev, hg⟩ := hrel
      by_cases hlt : k < xs.length
      · have q2 : (k : Int) < (xs.length : Int) := by omega
        have hlt' : k < ys.length := by have := Hl.out; omega
        have q3 : (k : Int) < (ys.length : Int) := by omega
        obtain ⟨P1, O1, rfl⟩ := hx.addr (Nat.lt_of_le_of_lt (Nat.zero_le _) hlt)
        obtain ⟨P2, O2, rfl⟩ := hy.addr (Nat.lt_of_le_of_lt (Nat.zero_le _) hlt')
        have hgD : Below w.heap.size w wr.drew := hg.drew
        have r1 : wr.drew.rangeAt P1 (O1 + k * 11) (rv (xs[k]'hlt)) := (hx.below hgD (Nat.le_refl _)).range k hlt
        have r2 : wr.drew.rangeAt P2 (O2 + k * 11) (rv (ys[k]'hlt')) := (hy.below hgD (Nat.le_refl _)).range k hlt'
        have r1' : wr.rangeAt P1 (O1 + k * 11) (rv (xs[k]'hlt)) := (hx.below hg (Nat.le_refl _)).range k hlt
        have r2' : wr.rangeAt P2 (O2 + k * 11) (rv (ys[k]'hlt')) := (hy.below hg (Nat.le_refl _)).range k hlt'
        have hn := fun (W : World) (h : Below w.heap.size w W) => hC (xs[k]'hlt) (ys[k]'hlt') W ((ax _ (List.getElem_mem hlt)).below h (Nat.le_refl _)) ((ay _ (List.getElem_mem hlt')).below h (Nat.le_refl _))
        have hev' : Hid ((xs[k]'hlt).r = (ys[k]'hlt').r → ∀ j (h1 : j < xs.length) (h2 : j < ys.length), j < k + 1 → xs[j].r = ys[j].r) := fun h j h1 h2 hj => by
          by_cases e : j = k
          · subst e; exact h
          · exact hev.out j h1 h2 (by omega)
        have hno : Hid ((xs[k]'hlt).r ≠ (ys[k]'hlt').r → sameRs (xs.map Rv.r) (ys.map Rv.r) = false) := fun h => sameRs_no fun he => h (by
          have h1 : (xs.map Rv.r)[k]'(by simpa using hlt) = (ys.map Rv.r)[k]'(by simpa using hlt') := by simp only [he]
          simpa using h1)
        generalize (xs[k]'hlt) = p at *
        generalize (ys[k]'hlt') = q at *
        have iP : (Try.prog.info? 55).map (·.size) = some (rv p).length := iN
        have iQ : (Try.prog.info? 55).map (·.size) = some (rv q).length := iN
        go_wp2_with fail
        refine wp_region_still_tail 8 (by kernel_rfl) (by kernel_rfl) ?_
        simp only [List.take_succ_cons, List.take_zero, List.drop_succ_cons, List.drop_zero]
        iterate 3 still_step
        first | refine wpStill_load_mid rfl 55 _ rfl P1 (O1 + k * 11) rfl (rv p) _ r1' Try.underlying55 rfl iP ?_ | refine wpStill_load_mid rfl 55 _ rfl P1 (O1 + k * 11) rfl (rv p) _ r1 Try.underlying55 rfl iP ?_
        iterate 3 still_step
        first | refine wpStill_load_mid rfl 55 _ rfl P2 (O2 + k * 11) rfl (rv q) _ r2' Try.underlying55 rfl iQ ?_ | refine wpStill_load_mid rfl 55 _ rfl P2 (O2 + k * 11) rfl (rv q) _ r2 Try.underlying55 rfl iQ ?_
        refine wpStill_nil ?_
        go_wp2_with fail
        have hn' := hn wr.drew hgD
        cases hr : sameR p.r q.r
        · have hno' := hideP (hno.out fun e => by rw [(sameR_iff _ _).2 e] at hr; cases hr)
          rw [hr] at hn'
          refine hn'.mono ?_; rintro e w4 ⟨rfl, g4⟩
          go_wp2_with fail
          go_ret
          exact ⟨ret_bool hno'.out.symm, hgD.trans (g4.mono hgD.size)⟩
        · have hev'' := hideP (hev'.out ((sameR_iff _ _).1 hr))
          rw [hr] at hn'
          refine hn'.mono ?_; rintro e w4 ⟨rfl, g4⟩
          go_wp2_with fail
          exact ⟨⟨k + 1, by simp, by omega, hev'', hgD.trans (g4.mono hgD.size)⟩, by simp [intOf]; omega⟩
      · have q2 : ¬ (k : Int) < (xs.length : Int) := by omega
        have hyes : Hid (sameRs (xs.map Rv.r) (ys.map Rv.r) = true) := (sameRs_iff _ _).2 (List.ext_getElem (by simpa using Hl.out) fun j h1 h2 => by
          simp only [List.getElem_map]
          exact hev.out j (by simpa using h1) (by simpa using h2) (by simp at h1; omega))
        go_wp2_with fail
        go_ret
        exact ⟨ret_bool hyes.out.symm, hg⟩
end Go.Proofs.Ytghhdbkgibpebaa
