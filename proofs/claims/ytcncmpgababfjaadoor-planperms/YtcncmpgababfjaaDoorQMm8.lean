/-
  The program's parser in memory.
-/
import Derived.Test.YtcncmpgababfjaaDoorQWd
import Derived.Test.YtcncmpgababfjaaDoorQPa
import Derived.Test.YtcncmpgababfjaaDoorQMv
import Derived.Defers
import Derived.Recover
namespace Go.Proofs.YtcncmpgababfjaaDoor
open Go.RowKit Go.Lib Go.Shelf

/-- the program's parser: the tokens that are still to be read, the text's length -/
structure PAt (w : World) (p E : Nat) (L : List Lx.Tok) : Prop where
  obj : ∃ a c, w.heap[p]? = some (.cells #[.slice a L.length c, .int .i64 (E : Int)] 59) ∧ RowT kT 68 w a c L
theorem PAt.below {w w' : World} {p E : Nat} {L : List Lx.Tok} (h : PAt w p E L) (hb : Below w.heap.size w w') : PAt w' p E L := by
  obtain ⟨a, c, h1, h2⟩ := h.obj
  exact ⟨a, c, below_heap hb h1, h2.safe (Safe.below hb)⟩
theorem PAt.lt {w : World} {p E : Nat} {L : List Lx.Tok} (h : PAt w p E L) : p < w.heap.size := by
  obtain ⟨a, c, h1, _⟩ := h.obj
  exact heap_lt h1
theorem PAt.safe {ty : TypeId} {w w' : World} {p E : Nat} {L : List Lx.Tok} (h : PAt w p E L) (hb : But p w w') (hn : ty ≠ 59) : Safe ty w w' := by
  obtain ⟨a, c, h1, _⟩ := h.obj
  exact Safe.but hb h1 hn
/-- something else turned, made by the call itself -/
theorem PAt.but {w w' : World} {p E g : Nat} {L : List Lx.Tok} {C : Array Value} {T : TypeId} (h : PAt w p E L) (hb : But g w w') (hg : w.heap[g]? = some (.cells C T)) (h1 : T ≠ 59) (h2 : T ≠ 68) : PAt w' p E L := by
  obtain ⟨a, c, q1, q2⟩ := h.obj
  exact ⟨a, c, Safe.but hb hg (Ne.symm h1) _ _ q1, q2.safe (Safe.but hb hg (Ne.symm h2))⟩
theorem PAt.grown {w w' : World} {p E base k n : Nat} {L : List Lx.Tok} {T : TypeId} {v : Value} {xs : List Value} (h : PAt w p E L) (ho : w.ownsRow base T k v n xs) (hg : w.grownBy w' v.ownBlock) (h1 : T ≠ 59) (h2 : T ≠ 68) : PAt w' p E L := by
  obtain ⟨a, c, q1, q2⟩ := h.obj
  exact ⟨a, c, Safe.grown ho hg (Ne.symm h1) _ _ q1, q2.safe (Safe.grown ho hg (Ne.symm h2))⟩

/-- how a parser gives up -/
def Pan (x : Nat × Int) : Ending := .panicked [{ v := .iface 61 (.agg #[.int .i64 (x.1 : Int), .int .i64 x.2]), recovered := false }]

/-- what a part of the parser does: by the mathematics' answer it hands back a value, the parser goes on behind it; or it gives up -/
def Does {α : Type} (p E : Nat) (w : World) (r : Ps.Rz α) (V : α → Value → World → Prop) (e : Ending) (w' : World) : Prop :=
  But p w w' ∧ match r with
  | .ok (v, L) => (∃ u, e = .returned u ∧ V v u w') ∧ PAt w' p E L
  | .error x => e = Pan x

theorem tokz : pz = Ps.tz := rfl
theorem row_tail {w : World} {b o c : Nat} {t : Lx.Tok} {L : List Lx.Tok} (h : RowT kT 68 w (some ⟨b, o, none⟩) c (t :: L)) : RowT kT 68 w (some ⟨b, o + 4, none⟩) (c - 1) L := by
  refine ⟨⟨?_, ?_, (fun h => by cases h), fun ad ha j u hu => ?_⟩, fun ad ha => ?_⟩
  · have := h.row.room; simp only [List.length_cons] at this; omega
  · have := h.row.few; simp only [List.length_cons] at this; omega
  · cases ha
    have := h.row.cells _ rfl (4 + j) u (by
      rw [List.flatMap_cons, List.getElem?_append_right (by rw [kT.len]; show 4 ≤ 4 + j; omega), kT.len]
      show (L.flatMap tokv)[4 + j - 4]? = some u
      rw [show 4 + j - 4 = j by omega]; exact hu)
    rw [Addr.add_lit] at this ⊢
    rw [← this, Nat.add_assoc]
  · cases ha
    exact h.tag ⟨b, o, none⟩ rfl
/-- the place of what is left, when one token is taken -/
def tl (b o c : Nat) : Addr := if c = 1 then ⟨b, o, none⟩ else ⟨b, o + 4, none⟩
theorem row_tl {w : World} {b o c : Nat} {t : Lx.Tok} {L : List Lx.Tok} (h : RowT kT 68 w (some ⟨b, o, none⟩) c (t :: L)) : RowT kT 68 w (some (tl b o c)) (c - 1) L := by
  unfold tl
  by_cases hc : c = 1
  · rw [if_pos hc]
    have hr := h.row.room
    simp only [List.length_cons] at hr
    have : L = [] := List.eq_nil_of_length_eq_zero (by omega)
    subst this
    exact ⟨⟨Nat.zero_le _, Nat.zero_le _, (fun h => by cases h), fun ad ha j u hu => by simp at hu⟩, fun ad ha => by cases ha; exact h.tag _ rfl⟩
  · rw [if_neg hc]; exact row_tail h
theorem slice1 (b o n c : Nat) (w : World) : (Instr.sliceAt 54 (.slice (some ⟨b, o, none⟩) (n + 1) c) (some (.int .i64 1)) none none).run Tryd.prog w = .ok (.slice (some (tl b o c)) n (c - 1)) w := by
  have hu : Tryd.prog.underlying 54 = some (.slice (Tryd.prog.elem 54)) := by kernel_rfl
  have hs : (sizeOf (Tryd.prog.elem 54)).run Tryd.prog w = .ok 4 w := by kernel_rfl
  rw [run_sliceAt_slice (h := hu), run_slice_l (ht := hu) (h0 := by decide) (h1 := by omega), hs]
  simp only [Result.andThen_ok, sliced, tl]
  have e : (1 : Int).toNat = 1 := rfl
  rw [e]
  by_cases hc : c = 1
  · rw [if_pos hc, if_pos hc]; simp
  · rw [if_neg hc, if_neg hc]; simp [Addr.add_lit]
end Go.Proofs.YtcncmpgababfjaaDoor
