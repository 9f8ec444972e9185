/-
  light: is it little enough to be looked at?
-/
import Derived.Test.YtbahbibibpkddaaWt0
import Derived.Test.YtbahbibibpkddaaW4
import Derived.Test.YtbahbibibpkddaaY1
namespace Go.Proofs.Ytbahbibibpkddaa
open Go.RowKit Go.Lib Go.Shelf

/-- it tells yes or no; if yes, P holds -/
def Says (e : Ending) (P : Prop) : Prop := ∃ q : Bool, e = .returned (.bool q) ∧ (q = true → P)
theorem Try.iR11 : (Try.prog.info? 37).map (fun i => (i.zero, i.size, i.bytes)) = some (some (.agg #[.string .empty, .bool false, .int .i64 0, .string .empty, .string .empty, .slice none 0 0, .string .empty, .bool false, .int .i64 0, .string .empty, .slice none 0 0]), 11, 160) := by kernel_rfl
set_option maxRecDepth 100000 in
set_option maxHeartbeats 1000000 in
theorem light_at (r : Rv) (a : Option Addr) (c : Nat) (xs : List Fv) (b : Option Addr) (d : Nat) (L : List Bd) (w : World) (hr : Rv.Aw w r) (tr : TxR r) (hl : Lies w a c xs) (hx : ∀ x ∈ xs, Fv.At w x ∧ TxF x) (hE : Row bK w b d L) :
    Calls Try.prog 15 #[rval r, .slice a xs.length c, .slice b L.length d] w fun e w' => Says e (Few2 r ∧ xs.length ≤ 200 ∧ L.length ≤ 200) ∧ Below w.heap.size w w' := by
  have iR : (Try.prog.info? 37).map (·.size) = some 11 := by kernel_rfl
  have few := hE.few
  obtain ⟨h0, h1, A0⟩ := boxes2 w (.cells (rv r).toArray 37) (.cells (rv r).toArray 37)
  have A1 := below_alloc w (.cells (rv r).toArray 37)
  have H1 := heap_alloc_new w (.cells (rv r).toArray 37)
  have R1 : Row rK _ (some ⟨w.heap.size + 1, 0, none⟩) 1 [r] := row_block rK h1 r rfl
  have T1 := hideP (rweight_few2 (some ⟨w.heap.size + 1, 0, none⟩) 1 [r] _ R1 (fun x hx => by rw [List.mem_singleton.1 hx]; exact hr.below A0 (Nat.le_refl _)) (fun x hx => by rw [List.mem_singleton.1 hx]; exact tr))
  go_enter Try.func15, Try.ntmps15
  go_wp2_with (first | (refine wpList_load_all rfl 37 _ rfl w.heap.size 11 37 (rv r) _ rfl H1 rfl Try.underlying37 rfl iR ?_) | (refine wpList_build_one rfl 67 37 _ rfl (rv r) _ 11 160 rfl rfl (by decide) (by decide) Try.underlying67 Try.iR11 ?_))
  refine T1.out.mono ?_
  rintro e w1 ⟨⟨m, rfl, hm⟩, b1⟩
  have B1 := Below.then A0 b1.below
  clear h0 h1 A0 A1 H1 R1 T1 b1
  have T2 := hideP (weight_few4 a c xs w1 (hl.below B1 (Nat.le_refl _)) (fun x h => (hx x h).1.below B1 (Nat.le_refl _)) (fun x h => (hx x h).2))
  by_cases q1 : m ≤ 200
  rotate_left
  · go_wp2_with fail
    go_ret
    exact ⟨⟨false, rfl, fun h => by cases h⟩, B1⟩
  have HM := hideP (hm (by omega))
  clear hm
  go_wp2_with fail
  refine T2.out.mono ?_
  rintro e w2 ⟨⟨n, rfl, hn⟩, b2⟩
  have B2 := Below.then B1 b2.below
  by_cases q2 : n ≤ 200
  rotate_left
  · go_wp2_with fail
    go_ret
    exact ⟨⟨false, rfl, fun h => by cases h⟩, B2⟩
  have HN := hideP (hn (by omega))
  clear hn
  go_wp2_with fail
  go_ret
  exact ⟨⟨decide ((L.length : Int) ≤ 200), rfl, fun h => ⟨HM.out.2 r (List.mem_singleton.2 rfl), HN.out, by have := of_decide_eq_true h; omega⟩⟩, B2⟩
end Go.Proofs.Ytbahbibibpkddaa
