/-
  Whether two digests are the same.
-/
import Derived.Test.YtfpdiafedoppnaaDoorTold
import Derived.DeepKeys
namespace Go.Proofs.YtfpdiafedoppnaaDoor
open Go.RowKit

theorem mapM_all {α β : Type} {f : α → Option β} {g : α → β} : ∀ (l : List α), (∀ a ∈ l, f a = some (g a)) → l.mapM f = some (l.map g)
  | [], _ => rfl
  | a :: r, h => by
    rw [List.mapM_cons, h a (by simp), mapM_all r (fun b hb => h b (by simp [hb]))]
    rfl
theorem flat_one {α β : Type} (f : α → β) : ∀ (l : List α), (l.map fun i => [f i]).flatten = l.map f
  | [] => rfl
  | a :: r => by simp only [List.map_cons, List.flatten_cons, flat_one f r]; rfl
/-- the words that a digest is told by -/
def lits32 (l : List UInt8) : List Lit := (List.range 32).map fun i => Lit.int .u8 ((l.getD i 0).toNat : Int)
theorem lits32_inj (l m : List UInt8) (hl : l.length = 32) (hm : m.length = 32) : lits32 l = lits32 m ↔ l = m := by
  constructor
  · intro h
    apply List.ext_getElem?
    intro i
    by_cases hi : i < 32
    · have h1 := congrArg (fun x => x[i]?) h
      simp [lits32, hi, hl, hm] at h1
      rw [List.getElem?_eq_getElem (by omega), List.getElem?_eq_getElem (by omega)]
      congr 1
      exact UInt8.toNat_inj.1 (by omega)
    · rw [List.getElem?_eq_none (by omega), List.getElem?_eq_none (by omega)]
  · rintro rfl; rfl
theorem Tryd.cellsD : Tryd.prog.cellsOf 42 = 32 := by kernel_rfl
theorem Tryd.cellsU : Tryd.prog.cellsOf 5 = 1 := by kernel_rfl
theorem keyLits32 (l : List UInt8) (hl : l.length = 32) : Tryd.prog.keyLits 2 42 (cs l) = some (lits32 l) := by
  unfold Program.keyLits
  simp only [Tryd.underlying42, Tryd.cellsD, Tryd.cellsU, cs_length, hl, if_true]
  rw [mapM_all (g := fun i => [Lit.int .u8 ((l.getD i 0).toNat : Int)])]
  · simp only [Option.map_some, lits32]
    exact congrArg some (flat_one _ _)
  · intro i hi
    have hi' : i < 32 := by simpa using hi
    have e : ((cs l).drop (i * 1)).take 1 = [.int .u8 ((l.getD i 0).toNat : Int)] := by
      rw [Nat.mul_one, List.drop_eq_getElem_cons (by rw [cs_length]; omega)]
      simp [cs, hl, hi']
    rw [e]
    unfold Program.keyLits
    simp only [Tryd.underlying5]
    rw [if_pos]
    refine ⟨by trivial, ?_⟩
    have := (l.getD i 0).toNat_lt
    generalize (l.getD i 0).toNat = n at *
    simp only [Lit.wf, IntKind.min, IntKind.max, IntKind.signed, IntKind.bits]
    simp
    omega

theorem equalIn32 (l m : List UInt8) (hl : l.length = 32) (hm : m.length = 32) (w : World) : (Op.equalIn 10000 42 (.agg (cs l).toArray) (.agg (cs m).toArray)).run Tryd.prog w = .ok (l == m) w := by
  have fm : ∀ x : List UInt8, x.length = 32 → (Value.agg (cs x).toArray).formed Tryd.prog 42 = true := fun x hx => by
    simp [Value.formed, Tryd.underlying42, Tryd.cellsD, cs_length, hx]
  obtain ⟨r, h1, h2⟩ := run_equalIn_deep (P := Tryd.prog) 9998 2 42 (by kernel_rfl) w 2 2 (.agg (cs l).toArray) (.agg (cs m).toArray) _ _ (fm l hl) (fm m hm) (by simpa [Value.cells] using keyLits32 l hl) (by simpa [Value.cells] using keyLits32 m hm)
  have h3 : r = (l == m) := by
    rw [Bool.eq_iff_iff, h2, lits32_inj l m hl hm, beq_iff_eq]
  rw [← h3]
  exact h1
end Go.Proofs.YtfpdiafedoppnaaDoor
