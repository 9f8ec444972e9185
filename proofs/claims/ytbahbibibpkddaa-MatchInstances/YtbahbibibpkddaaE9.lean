/-
  The program's Head.
-/
import Derived.Test.YtbahbibibpkddaaE8
import Derived.Test.YtbahbibibpkddaaOp1
namespace Go.Proofs.Ytbahbibibpkddaa
open Go.RowKit Go.Lib Go.Shelf

theorem set4_but {w : World} {b : Nat} (x y z u : Value) : But b w ((((w.setCell ⟨b, 0, none⟩ x).setCell ⟨b, 1, none⟩ y).setCell ⟨b, 2, none⟩ z).setCell ⟨b, 3, none⟩ u) := ((((But.refl b w).set 0 x).set 1 y).set 2 z).set 3 u
theorem set4_same {w : World} {b : Nat} {x y z u x' y' z' u' : Value} {T : TypeId} (h : w.heap[b]? = some (.cells #[x', y', z', u'] T)) : ((((w.setCell ⟨b, 0, none⟩ x).setCell ⟨b, 1, none⟩ y).setCell ⟨b, 2, none⟩ z).setCell ⟨b, 3, none⟩ u).heap[b]? = some (.cells #[x, y, z, u] T) := by
  have h1 := heap_setCell_same w b 0 _ T x h
  have h2 := heap_setCell_same _ b 1 _ T y h1
  have h3 := heap_setCell_same _ b 2 _ T z h2
  have h4 := heap_setCell_same _ b 3 _ T u h3
  simpa using h4
theorem rv_cells {w : World} {b : Nat} {x : Rv} (H : w.heap[b]? = some (.cells (rv x).toArray 37)) :
    w.cell? ⟨b, 0, none⟩ = some (str x.home.v) ∧ w.cell? ⟨b, 1, none⟩ = some (.bool x.home.k.num) ∧ w.cell? ⟨b, 2, none⟩ = some (.int .i64 x.home.k.n) ∧ w.cell? ⟨b, 3, none⟩ = some (str x.home.k.s) ∧ w.cell? ⟨b, 4, none⟩ = some (str x.pred) ∧ w.cell? ⟨b, 5, none⟩ = some (.slice x.a x.args.length x.cap) ∧
    w.cell? ⟨b, 6, none⟩ = some (str x.to_.v) ∧ w.cell? ⟨b, 7, none⟩ = some (.bool x.to_.k.num) ∧ w.cell? ⟨b, 8, none⟩ = some (.int .i64 x.to_.k.n) ∧ w.cell? ⟨b, 9, none⟩ = some (str x.to_.k.s) := by
  refine ⟨?_, ?_, ?_, ?_, ?_, ?_, ?_, ?_, ?_, ?_⟩ <;> (rw [heap_cell H]; rfl)

set_option maxRecDepth 100000 in
set_option maxHeartbeats 1000000 in
theorem mHead_at (x : Rv) (a : Option Addr) (c : Nat) (L : List Bd) (w : World) (hr : Rv.Aw w x) (h : Row bK w a c L) (hf : x.args.length ≤ 900000) :
    Calls Try.prog 18 #[rval x, .slice a L.length c] w fun e w' => FactAns e w' (Mt.head x.r L) ∧ Below w.heap.size w w' := by
  have iF : (Try.prog.info? 40).map (·.size) = some 4 := by kernel_rfl
  obtain ⟨h0, h1, A0⟩ := boxes2 w (.cells #[str x.home.v, .bool x.home.k.num, .int .i64 x.home.k.n, str x.home.k.s, str x.pred, .slice x.a x.args.length x.cap, str x.to_.v, .bool x.to_.k.num, .int .i64 x.to_.k.n, str x.to_.k.s, .slice x.ba x.body.length x.bcap] 37) (.cells #[.string { data := #[] }, .string { data := #[] }, .string { data := #[] }, .slice none 0 0] 40)
  have HD : Hid (Mt.head x.r L = Mt.fact (Mt.place x.home x.to_) x.home x.pred x.args L) := rfl
  go_enter Try.func18, Try.ntmps18
  go_wp2_with fail
  generalize hW : (w.alloc (.cells #[str x.home.v, .bool x.home.k.num, .int .i64 x.home.k.n, str x.home.k.s, str x.pred, .slice x.a x.args.length x.cap, str x.to_.v, .bool x.to_.k.num, .int .i64 x.to_.k.n, str x.to_.k.s, .slice x.ba x.body.length x.bcap] 37)).alloc (.cells #[.string { data := #[] }, .string { data := #[] }, .string { data := #[] }, .slice none 0 0] 40) = W at *
  clear hW
  have gD := (Below.refl W.heap.size W).drew
  have Ad := Below.then A0 gD
  have H0 : W.drew.heap[w.heap.size]? = some (.cells (rv x).toArray 37) := below_heap gD h0
  have H1 := below_heap gD h1
  have TE := hideP (fun W => meither_at x.to_ x.home W)
  generalize Mt.place x.home x.to_ = pT at *
  have TS := hideP (fun W hW => msaid_at pT x.home x.pred x.a x.cap x.args a c L W (hr.args.below (B := w.heap.size) hW (Nat.le_refl _)) (h.below hW (Nat.le_refl _)) hf)
  clear h0 h1 A0 gD
  go_region_held3 (fun W => W.cell? ⟨w.heap.size, 0, none⟩ = some (str x.home.v) ∧ W.cell? ⟨w.heap.size, 1, none⟩ = some (.bool x.home.k.num) ∧ W.cell? ⟨w.heap.size, 2, none⟩ = some (.int .i64 x.home.k.n) ∧ W.cell? ⟨w.heap.size, 3, none⟩ = some (str x.home.k.s) ∧ W.cell? ⟨w.heap.size, 4, none⟩ = some (str x.pred) ∧ W.cell? ⟨w.heap.size, 5, none⟩ = some (.slice x.a x.args.length x.cap) ∧
    W.cell? ⟨w.heap.size, 6, none⟩ = some (str x.to_.v) ∧ W.cell? ⟨w.heap.size, 7, none⟩ = some (.bool x.to_.k.num) ∧ W.cell? ⟨w.heap.size, 8, none⟩ = some (.int .i64 x.to_.k.n) ∧ W.cell? ⟨w.heap.size, 9, none⟩ = some (str x.to_.k.s)) (first | with_reducible exact rv_cells H0 | with_reducible exact rv_cells H3 | with_reducible exact rv_cells H4 | exact rv_cells ((set4_but _ _ _ _).heap (by omega) H4)) (first
    | (go_at_call 40; refine (TE.out _).mono ?_; rintro e w3 ⟨rfl, b3⟩; have H3 := below_heap b3 H0; have B3 := Below.then Ad b3)
    | (go_at_call 39; refine (TS.out _ B3).mono ?_; rintro e w4 ⟨⟨z, rfl, Rz, hz⟩, b4⟩; have H4 := below_heap b4 H3; have B4 := Below.then B3 b4; have G4 := below_heap b4 (below_heap b3 H1); have e0 : w4.cell? ⟨w.heap.size + 1, 0, none⟩ = some (.string { data := #[] }) := (by rw [heap_cell G4]; rfl); have e1 : w4.cell? ⟨w.heap.size + 1, 1, none⟩ = some (.string { data := #[] }) := (by rw [heap_cell G4]; rfl); have e2 : w4.cell? ⟨w.heap.size + 1, 2, none⟩ = some (.string { data := #[] }) := (by rw [heap_cell G4]; rfl); have e3 : w4.cell? ⟨w.heap.size + 1, 3, none⟩ = some (.slice none 0 0) := (by rw [heap_cell G4]; rfl); have f0 : ∀ j, w4.frozen? ⟨w.heap.size + 1, j, none⟩ = false := heap_frozen G4))
  have BU := set4_but (w := w4) (b := w.heap.size + 1) (str z.at_) (str z.by_) (str z.pred) (.slice z.a z.ks.length z.cap)
  go_wp2_with fail
  exact bodyPost_ret (results_c1 rfl rfl (set4_same G4) Try.underlying40 rfl iF) rfl ⟨⟨z, by rw [HD.out]; rfl, Rz.safe (Safe.but BU G4 (by decide)), by rw [HD.out]; exact hz⟩, B4.trans (BU.lower (by omega) B4.size)⟩
end Go.Proofs.Ytbahbibibpkddaa
