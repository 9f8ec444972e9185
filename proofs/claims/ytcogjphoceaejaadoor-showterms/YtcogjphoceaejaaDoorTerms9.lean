/-
  ShowTerms: its walk.
-/
import Derived.Test.YtcogjphoceaejaaDoorLv9
import Derived.Test.YtcogjphoceaejaaDoorRf3
import Derived.Test.YtcogjphoceaejaaDoorOp9
namespace Go.Proofs.YtcogjphoceaejaaDoor
open Go.RowKit Go.Lib Go.Shelf

set_option maxRecDepth 100000 in
set_option maxHeartbeats 2000000 in
theorem showTerms_walk (t : Tm) (w : World) (hL : Laid w) (ht : Reach9 t) :
    Calls Tryd.prog 3 #[tval t] w fun e w' => e = .returned (.bool true) ∧ Below w.heap.size w w' := by
  have LV := hideP live9_at
  have T1 := hideP (fun W (h : Laid W) => showTerm_at t W h ht.k)
  have T2 := hideP (fun W => rterm_at t W ht.k)
  have n1 := ht.v
  have n2 := ht.s
  have A0 := below_alloc w (.cells (tv t).toArray 25)
  have H0 := heap_alloc_new w (.cells (tv t).toArray 25)
  have L0 := hL.below A0
  have HS : Hid (∃ s : List UInt8, ∃ er : Int, sv (Sh.termS t) = .tuple #[str s, .int .i64 er]) := by
    cases Sh.termS t with
    | none => exact ⟨[], 100, rfl⟩
    | some s => exact ⟨s, 0, rfl⟩
  obtain ⟨s, er, he⟩ := HS.out
  rw [he] at T1 T2
  clear HS he
  have zv := str_size t.v
  have zs := str_size t.k.s
  by_cases hbig : (t.v.length : Int) + (t.k.s.length : Int) > 5000
  · go_enter Tryd.func3, Tryd.ntmps3
    go_wp2_with fail
    refine (LV.out _ L0).mono ?_
    rintro e w2 ⟨rfl, b2⟩
    go_wp2_with fail
    go_ret
    exact ⟨rfl, Below.then A0 b2⟩
  · go_enter Tryd.func3, Tryd.ntmps3
    go_wp2_with fail
    refine (T1.out _ L0).mono ?_
    rintro e w1 ⟨rfl, b1⟩
    have H1 := below_heap b1 H0
    have B1 := Below.then A0 b1
    go_wp2_with (refine wpList_load_all rfl 25 _ rfl w.heap.size 4 25 (tv t) _ rfl H1 rfl Tryd.underlying25 rfl Tryd.iT4 ?_)
    refine (T2.out w1).mono ?_
    rintro e w2 ⟨rfl, b2⟩
    have B2 := Below.then B1 b2
    go_wp2_with fail
    refine (LV.out w2 (hL.below B2)).mono ?_
    rintro e w3 ⟨rfl, b3⟩
    go_wp2_with fail
    go_ret
    exact ⟨rfl, Below.then B2 b3⟩
end Go.Proofs.YtcogjphoceaejaaDoor
