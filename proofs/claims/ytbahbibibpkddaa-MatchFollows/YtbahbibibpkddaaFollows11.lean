/-
  MatchFollows: whether any derivation follows by any rule is the document's.
-/
import Derived.Test.YtbahbibibpkddaaY3
import Derived.Test.YtbahbibibpkddaaD6
import Derived.Test.YtbahbibibpkddaaOt1
namespace Go.Proofs.Ytbahbibibpkddaa
open Go.RowKit Go.Lib Go.Shelf

theorem Try.iFk6 : (Try.prog.info? 40).map (fun i => (i.zero, i.size, i.bytes)) = some (some (.agg #[.string .empty, .string .empty, .string .empty, .slice none 0 0]), fK.k, 72) := by kernel_rfl
theorem Try.iF46 : (Try.prog.info? 40).map (fun i => (i.zero, i.size, i.bytes)) = some (some (.agg #[.string .empty, .string .empty, .string .empty, .slice none 0 0]), 4, 72) := by kernel_rfl
theorem own_max {base : Nat} {w : World} {e : TypeId} {k : Nat} {a : Option Addr} {n m c : Nat} {ys : List Value} (h : w.ownsRow base e k (.slice a n c) m ys) : c ≤ maxLen := by
  rcases h.2 with ⟨hv, _⟩ | ⟨g, cap, cur, hv, _, _, _, hm, _⟩
  · cases hv; exact Nat.zero_le _
  · cases hv; exact hm
theorem owns_one {w : World} {b : Nat} {x : Fv} (H : w.heap[b]? = some (.cells (fv x).toArray 40)) : w.ownsRow b 40 fK.k (.slice (some ⟨b, 0, none⟩) 1 1) ([x] : List Fv).length (([x] : List Fv).flatMap fK.enc) :=
  ⟨rfl, .inr ⟨b, 1, (fv x).toArray, rfl, Nat.le_refl _, H, Nat.le_refl _, by decide, rfl, by simp [fK, fv]⟩⟩
/-- the cells of the two boxes -/
theorem rd_cells {r : Rv} {n : Int} {x : Fv} {a : Option Addr} {c : Nat} {xs : List Fv} {w W : World} (h : BxD r n x a c xs w W) :
    W.cell? ⟨w.heap.size, 0, none⟩ = some (str r.home.v) ∧ W.cell? ⟨w.heap.size, 1, none⟩ = some (.bool r.home.k.num) ∧ W.cell? ⟨w.heap.size, 2, none⟩ = some (.int .i64 r.home.k.n) ∧ W.cell? ⟨w.heap.size, 3, none⟩ = some (str r.home.k.s) ∧ W.cell? ⟨w.heap.size, 4, none⟩ = some (str r.pred) ∧ W.cell? ⟨w.heap.size, 5, none⟩ = some (.slice r.a r.args.length r.cap) ∧ W.cell? ⟨w.heap.size, 6, none⟩ = some (str r.to_.v) ∧ W.cell? ⟨w.heap.size, 7, none⟩ = some (.bool r.to_.k.num) ∧ W.cell? ⟨w.heap.size, 8, none⟩ = some (.int .i64 r.to_.k.n) ∧ W.cell? ⟨w.heap.size, 9, none⟩ = some (str r.to_.k.s) ∧ W.cell? ⟨w.heap.size, 10, none⟩ = some (.slice r.ba r.body.length r.bcap) ∧
    W.cell? ⟨w.heap.size + 1, 0, none⟩ = some (.int .i64 n) ∧ W.cell? ⟨w.heap.size + 1, 1, none⟩ = some (str x.at_) ∧ W.cell? ⟨w.heap.size + 1, 2, none⟩ = some (str x.by_) ∧ W.cell? ⟨w.heap.size + 1, 3, none⟩ = some (str x.pred) ∧ W.cell? ⟨w.heap.size + 1, 4, none⟩ = some (.slice x.a x.ks.length x.cap) ∧ W.cell? ⟨w.heap.size + 1, 5, none⟩ = some (.slice a xs.length c) := by
  have h0 := h.h0
  have h1 := h.h1
  refine ⟨?_, ?_, ?_, ?_, ?_, ?_, ?_, ?_, ?_, ?_, ?_, ?_, ?_, ?_, ?_, ?_, ?_⟩
  all_goals first | (rw [heap_cell h0]; rfl) | (rw [heap_cell h1]; rfl)

set_option maxRecDepth 100000 in
set_option maxHeartbeats 2000000 in
theorem matchFollows_walk (r : Rv) (n : Int) (x : Fv) (a : Option Addr) (c : Nat) (xs : List Fv) (w : World) (hr : Rv.Aw w r) (tr : TxR r) (hx : Fv.At w x) (tx : TxF x) (hl : Lies w a c xs) (he : ∀ z ∈ xs, Fv.At w z ∧ TxF z) :
    Calls Try.prog 6 #[rval r, dval5 n x a c xs] w fun e w' => e = .returned (.bool true) ∧ Below w.heap.size w w' := by
  have iR : (Try.prog.info? 37).map (·.size) = some 11 := by kernel_rfl
  have iF : (Try.prog.info? 40).map (·.size) = some 4 := by kernel_rfl
  have LV := hideP (fun W => live11_at W)
  have hlr : Row fK w a c xs := ⟨hl.room, by have := hl.few; omega, hl.void, hl.cells⟩
  have hlf := hl.few
  obtain ⟨h0, h1, A0⟩ := boxes2 w (.cells #[str r.home.v, .bool r.home.k.num, .int .i64 r.home.k.n, str r.home.k.s, str r.pred, .slice r.a r.args.length r.cap, str r.to_.v, .bool r.to_.k.num, .int .i64 r.to_.k.n, str r.to_.k.s, .slice r.ba r.body.length r.bcap] 37) (.cells #[.int .i64 n, str x.at_, str x.by_, str x.pred, .slice x.a x.ks.length x.cap, .slice a xs.length c] 55)
  go_enter Try.func6, Try.ntmps6
  go_wp2_with fail
  generalize hW : (w.alloc (.cells #[str r.home.v, .bool r.home.k.num, .int .i64 r.home.k.n, str r.home.k.s, str r.pred, .slice r.a r.args.length r.cap, str r.to_.v, .bool r.to_.k.num, .int .i64 r.to_.k.n, str r.to_.k.s, .slice r.ba r.body.length r.bcap] 37)).alloc (.cells #[.int .i64 n, str x.at_, str x.by_, str x.pred, .slice x.a x.ks.length x.cap, .slice a xs.length c] 55) = W0 at *
  clear hW
  have X0 : BxD r n x a c xs w W0 := ⟨A0, h0, h1⟩
  have gD := (Below.refl W0.heap.size W0).drew
  have X0d := X0.then gD
  clear h0 h1 A0 X0 gD
  refine wp_region_held_drew (S := fun W => BxD r n x a c xs w W) (by kernel_rfl) X0d (fun hHeld => ?_)
  refine wpAnyH_take (i := 0) (v := .agg (rv r).toArray) rfl (by kernel_rfl) (by kernel_rfl) (by kernel_rfl) (fun _ _ _ h => h) (yieldsIf_load_mid (by kernel_rfl) 37 _ rfl w.heap.size 0 (rv r) _ (by kernel_rfl) Try.underlying37 rfl iR (fun W hS => World.rangeAt_of_block hS.h0 0 11)) hHeld ?_
  refine wpAnyH_take (i := 1) (v := .pointer (some ⟨w.heap.size + 1, 1, none⟩)) rfl (by kernel_rfl) (by kernel_rfl) (by kernel_rfl) (fun _ _ _ h => h) (Or.inl ⟨by kernel_rfl, fun w hSw => by kernel_rfl⟩) hHeld ?_
  refine wpAnyH_take (i := 2) (v := .agg (fv x).toArray) rfl (by kernel_rfl) (by kernel_rfl) (by kernel_rfl) (fun _ _ _ h => h) (yieldsIf_load_mid (by kernel_rfl) 40 _ rfl (w.heap.size + 1) 1 (fv x) _ (by kernel_rfl) Try.underlying40 rfl iF (fun W hS => World.rangeAt_of_block hS.h1 1 4)) hHeld ?_
  refine wpAnyH_take (i := 4) (v := .pointer (some ⟨w.heap.size + 1, 5, none⟩)) rfl (by kernel_rfl) (by kernel_rfl) (by kernel_rfl) (fun _ _ _ h => h) (Or.inl ⟨by kernel_rfl, fun w hSw => by kernel_rfl⟩) hHeld ?_
  refine wpAnyH_take (i := 5) (v := .slice a xs.length c) rfl (by kernel_rfl) (by kernel_rfl) (by kernel_rfl) (fun _ _ _ h => h) (yieldsIf_load_cel (by kernel_rfl) 42 _ rfl (w.heap.size + 1) 5 (.slice a xs.length c) (by kernel_rfl) Try.isAgg42 (fun W hS => (dv_cells hS.h1).2.2.2.2)) hHeld ?_
  refine wpAnyH_one 3 (by kernel_rfl) ?_
  refine wpOp_build_one rfl rfl 42 40 _ rfl (fv x) _ 4 72 (by kernel_rfl) rfl (by decide) (by decide) Try.underlying42 Try.iF46 ?_
  have A1 := below_alloc W0.drew (.cells (fv x).toArray 40)
  have X1 := X0d.then A1
  have H1 := heap_alloc_new W0.drew (.cells (fv x).toArray 40)
  have o1 := owns_one H1
  refine ⟨X1, ?_⟩
  refine wpAnyH_one 6 (by kernel_rfl) ?_
  refine wpOp_append_recN fK rfl rfl _ _ 42 40 rfl _ 72 Try.underlying42 Try.iFk6 rfl W0.drew.heap.size (.slice (some ⟨W0.drew.heap.size, 0, none⟩) 1 1) [x] xs a xs.length c (by kernel_rfl) o1 (by kernel_rfl) rfl (hlr.below X1.below (Nat.le_refl _)) A1.size (by simp only [List.length_cons, List.length_nil]; omega) (by simp only [List.length_cons, List.length_nil]; omega) ?_
  intro v2 w2 o2 g2
  have X2 : BxD r n x a c xs w w2 := ⟨X1.below.trans ((own_below o1 g2 A1.size).mono X0d.below.size), Safe.grown o1 g2 (by decide) _ _ X1.h0, Safe.grown o1 g2 (by decide) _ _ X1.h1⟩
  obtain ⟨a2, c2, rfl, R2, _⟩ := own_row (D := fK) (xs := [x] ++ xs) o2 (by simp only [List.length_append, List.length_cons, List.length_nil]; omega)
  have m2 := own_max o2
  refine ⟨X2, ?_⟩
  have L2 : LiesX w2 a2 c2 ([x] ++ xs) := ⟨R2.row.room, m2, by simp only [List.length_append, List.length_cons, List.length_nil]; omega, R2.row.void, R2.row.cells⟩
  have TL := (light5_at r a2 c2 ([x] ++ xs) none 0 [] w2 (hr.below X2.below (Nat.le_refl _)) tr L2 (fun z hz => by
    rcases List.mem_append.1 hz with h | h
    · rw [List.mem_singleton.1 h]; exact ⟨hx.below X2.below (Nat.le_refl _), tx⟩
    · exact ⟨(he z h).1.below X2.below (Nat.le_refl _), (he z h).2⟩) (Row.nil _ _)).mono (R' := fun e w' => ∃ v, e = .returned v ∧ ∃ q : Bool, v = .bool q ∧ (q = true → Few2 r) ∧ BxD r n x a c xs w w') fun e w' ⟨⟨q, h1, h2⟩, b⟩ => ⟨_, h1, q, rfl, fun h => (h2 h).1, X2.then b⟩
  clear A1 X1 H1 o1 o2 g2 m2 L2 X0d R2
  refine wpAnyH_one 7 (by kernel_rfl) ?_
  refine wpOp_call rfl rfl (f := 15) (args := #[.agg (rv r).toArray, .slice a2 ([x] ++ xs).length c2, .slice none 0 0]) (by kernel_rfl) TL ?_
  rintro _ w3 ⟨q, rfl, hq, X3⟩
  refine ⟨X3, ?_⟩
  refine wpAnyH_take (i := 8) (v := .bool (!q)) rfl (by kernel_rfl) (by kernel_rfl) (by kernel_rfl) (fun _ _ _ h => h) (Or.inl ⟨by kernel_rfl, fun w hSw => by kernel_rfl⟩) X3 ?_
  refine wpAnyH_done (by kernel_rfl) ?_ _
  simp only [Act.put, List.getElem_toArray, List.getElem_cons_succ, List.getElem_cons_zero, List.setIfInBounds_toArray, List.set_cons_zero, List.set_cons_succ]
  clear TL X2 hHeld
  cases q with
  | false =>
    simp only [Bool.not_false]
    go_wp2_with fail
    refine (LV.out _).mono ?_
    rintro e w4 ⟨rfl, b4⟩
    go_wp2_with fail
    go_ret
    exact ⟨rfl, Below.then X3.below b4⟩
  | true =>
    have f2 := hq rfl
    clear hq
    simp only [Bool.not_true]
    have hex : ∀ z ∈ xs, Fv.At w z := fun z hz => (he z hz).1
    have TM := hideP (fun W (hW : Below w.heap.size w W) => mFollows_at r n x a c xs W (hr.below hW (Nat.le_refl _)) (hx.below hW (Nat.le_refl _)) (hlr.below hW (Nat.le_refl _)) (fun z hz => (hex z hz).below hW (Nat.le_refl _)) f2.a f2.b f2.c)
    have TR := hideP (fun W (hW : Below w.heap.size w W) => rFollows_at r n x a c xs W (hr.below hW (Nat.le_refl _)) (hx.below hW (Nat.le_refl _)) (hlr.below hW (Nat.le_refl _)) (fun z hz => (hex z hz).below hW (Nat.le_refl _)) f2.a f2.b f2.c)
    generalize Mt.fol r.r x.f (xs.map Fv.f) = fl at *
    have X3d := X3.then (Below.refl w3.heap.size w3).drew
    go_wp2_with fail
    go_region_held3 (fun W => W.cell? ⟨w.heap.size, 0, none⟩ = some (str r.home.v) ∧ W.cell? ⟨w.heap.size, 1, none⟩ = some (.bool r.home.k.num) ∧ W.cell? ⟨w.heap.size, 2, none⟩ = some (.int .i64 r.home.k.n) ∧ W.cell? ⟨w.heap.size, 3, none⟩ = some (str r.home.k.s) ∧ W.cell? ⟨w.heap.size, 4, none⟩ = some (str r.pred) ∧ W.cell? ⟨w.heap.size, 5, none⟩ = some (.slice r.a r.args.length r.cap) ∧ W.cell? ⟨w.heap.size, 6, none⟩ = some (str r.to_.v) ∧ W.cell? ⟨w.heap.size, 7, none⟩ = some (.bool r.to_.k.num) ∧ W.cell? ⟨w.heap.size, 8, none⟩ = some (.int .i64 r.to_.k.n) ∧ W.cell? ⟨w.heap.size, 9, none⟩ = some (str r.to_.k.s) ∧ W.cell? ⟨w.heap.size, 10, none⟩ = some (.slice r.ba r.body.length r.bcap) ∧ W.cell? ⟨w.heap.size + 1, 0, none⟩ = some (.int .i64 n) ∧ W.cell? ⟨w.heap.size + 1, 1, none⟩ = some (str x.at_) ∧ W.cell? ⟨w.heap.size + 1, 2, none⟩ = some (str x.by_) ∧ W.cell? ⟨w.heap.size + 1, 3, none⟩ = some (str x.pred) ∧ W.cell? ⟨w.heap.size + 1, 4, none⟩ = some (.slice x.a x.ks.length x.cap) ∧ W.cell? ⟨w.heap.size + 1, 5, none⟩ = some (.slice a xs.length c)) (first | with_reducible exact rd_cells X3d | with_reducible exact rd_cells X4 | with_reducible exact rd_cells X5 | with_reducible exact rd_cells X6) (first
      | (go_at_call 24; refine (TM.out _ X3d.below).mono ?_; rintro e w4 ⟨rfl, b4⟩; have X4 := X3d.then b4)
      | (go_at_call 25; refine (TR.out _ X4.below).mono ?_; rintro e w5 ⟨rfl, b5⟩; have X5 := X4.then b5)
      | (go_at_call 9; refine (LV.out _).mono ?_; rintro e w6 ⟨rfl, b6⟩; have X6 := X5.then b6))
    go_wp2_with fail
    go_ret
    exact ⟨rfl, X6.below⟩
end Go.Proofs.Ytbahbibibpkddaa
