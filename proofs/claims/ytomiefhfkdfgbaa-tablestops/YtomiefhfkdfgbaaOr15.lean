/-
  Facts handed in, put in turn; what a table of them tells.
-/
import Derived.Test.YtomiefhfkdfgbaaLv15
import Derived.Test.YtomiefhfkdfgbaaOf15
import Derived.Test.YtomiefhfkdfgbaaGa15
import Derived.Test.YtomiefhfkdfgbaaLike
import Derived.Test.YtomiefhfkdfgbaaWt15
namespace Go.Proofs.Ytomiefhfkdfgbaa
open Go.RowKit Go.Sort

theorem all_tab {b m : Nat} {a : Option Addr} {cap : Nat} {ps : List Pn} (W : World) (h : TabAt W b m a cap ps) :
    Calls Try.prog 28 #[ptr b] W fun e w' => (∃ bt bi, e = .returned (.func (.func 60) #[] #[ptr bt, ptr bi]) ∧ IterAt w' bt bi a cap ps (fun _ => true)) ∧ Below W.heap.size W w' := all_at W h.tabV h.lst h.wide
/-- a list of facts that lies in memory, as the reference's functions want it -/
theorem Own15.lies {n : Nat} {w : World} {a : Option Addr} {c : Nat} {zs : List Fv} (h : Own15 n w a c zs) (hf : zs.length ≤ 900000) : Lies w a c zs := ⟨h.row.row.room, h.most, by omega, h.row.row.void, h.row.row.cells⟩
theorem Own15.at_ {n : Nat} {w : World} {a : Option Addr} {c : Nat} {zs : List Fv} (h : Own15 n w a c zs) : ∀ z ∈ zs, Fv.At w z := fun z hz => row_args (h.args z hz).row
/-- all that a table tells -/
theorem gather_all {b m : Nat} {a : Option Addr} {cap : Nat} {ps : List Pn} {bt bi : Nat} (W W1 : World) (h : TabAt W b m a cap ps) (hi : IterAt W1 bt bi a cap ps (fun _ => true)) :
    Calls Try.prog 19 #[.func (.func 60) #[] #[ptr bt, ptr bi], .int .i64 (-1)] W1 fun e w' => (∃ a' c' zs, e = .returned (.slice a' (List.length zs) c') ∧ Own15 W1.heap.size w' a' c' zs ∧ zs.map Fv.f = ps.map Pn.f ∧ zs.length = ps.length) ∧ Below W1.heap.size W1 w' := by
  have hm := h.room
  have hh := h.high
  refine (gather_at bt bi a cap ps (fun _ => true) (-1) W1 hi (by omega)).mono ?_
  rintro e w' ⟨⟨a', c', zs, h1, h2, h3⟩, hb⟩
  rw [all_told, cut15_all (by omega)] at h3
  exact ⟨⟨a', c', zs, h1, h2, h3, by rw [← List.length_map (f := Fv.f), h3, List.length_map]⟩, hb⟩
/-- A TABLE that the law made: what of the facts was put, in this order -/
structure PutAt (w0 : World) (b : Nat) (fs : List F) (W : World) : Prop where
  tab : ∃ a cap ps, TabAt W b 4096 a cap ps ∧ ps.map Pn.f = Tb.puts okB 4096 [] fs
theorem PutAt.below {w0 W W' : World} {b : Nat} {fs : List F} (h : PutAt w0 b fs W) (hb : Below W.heap.size W W') : PutAt w0 b fs W' := by
  obtain ⟨a, cap, ps, h1, h2⟩ := h.tab
  exact ⟨a, cap, ps, h1.below hb, h2⟩
theorem PutAt.other {w0 W W' : World} {b b' : Nat} {fs : List F} (h : PutAt w0 b fs W) (hd : Did b' W W') (hn : b ≠ b') : PutAt w0 b fs W' := by
  obtain ⟨a, cap, ps, h1, h2⟩ := h.tab
  obtain ⟨C, _, hc, _⟩ := hd.tab
  exact ⟨a, cap, ps, h1.other hd.but hc hn, h2⟩
theorem puts_snoc (l fs : List F) (f : F) : Tb.puts okB 4096 l (fs ++ [f]) = Tb.put okB 4096 (Tb.puts okB 4096 l fs) f := by unfold Tb.puts; rw [List.foldl_append]; rfl
/-- one more is put -/
theorem put_more {w0 W : World} {b : Nat} {fs : List F} (x : Fv) (h : PutAt w0 b fs W) (hx : Fv.At W x) :
    Calls Try.prog 12 #[ptr b, x.val] W fun e w' => ∃ v, e = .returned v ∧ PutAt w0 b (fs ++ [x.f]) w' ∧ Did b W w' := by
  obtain ⟨a, cap, ps, h1, h2⟩ := h.tab
  refine (put_at x W h1 hx).mono ?_
  rintro e w' ⟨h3, ⟨a', cap', ps', h4, h5⟩, h6⟩
  exact ⟨_, h3, ⟨a', cap', ps', h4, by rw [puts_snoc, ← h2]; exact h5⟩, h6⟩
end Go.Proofs.Ytomiefhfkdfgbaa
