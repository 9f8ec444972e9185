/-
  live: what the document's examples say.
-/
import Derived.Test.YtbahbibibpkddaaE6
import Derived.Test.YtbahbibibpkddaaD1
import Derived.Test.YtbahbibibpkddaaBt
namespace Go.Proofs.Ytbahbibibpkddaa
open Go.RowKit Go.Lib Go.Shelf

def xT : Tm := ⟨[88], k0⟩
def aT : Tm := ⟨[65], k0⟩
def lvL (p : Nat) : Lv := ⟨xT, [112], some ⟨p, 0, none⟩, 1, [xT], t0⟩
def fvL (q : Nat) (s : List UInt8) : Fv := ⟨[97], [98], [112], some ⟨q, 0, none⟩, 1, [⟨false, 0, s⟩]⟩
def envL : Mt.Env := [([65], Mt.nm [97]), ([88], Mt.nm [98])]
theorem lit_live1 (p q : Nat) : Mt.lit aT (lvL p).l (fvL q [98]).f [] = some envL := rfl
theorem lit_live2 (p q : Nat) : Mt.lit aT (lvL p).l (fvL q [99]).f [] = none := rfl

theorem row_block {α : Type} (D : Kd α) {w : World} {b : Nat} {C : Array Value} {T : TypeId} (H : w.heap[b]? = some (.cells C T)) (x : α) (h : C.toList = D.enc x) : Row D w (some ⟨b, 0, none⟩) 1 [x] :=
  ⟨by simp, by simp, (fun h => by cases h), fun ad ha j u hu => by
    cases ha
    rw [Addr.add_lit, heap_cell H, Nat.zero_add, ← Array.getElem?_toList, h]
    simpa using hu⟩

set_option maxRecDepth 100000 in
set_option maxHeartbeats 1000000 in
theorem live11_at (w : World) : Calls Try.prog 9 #[] w fun e w' => e = .returned (.bool true) ∧ Below w.heap.size w w' := by
  have iL : (Try.prog.info? 45).map (·.size) = some 10 := by kernel_rfl
  have iF : (Try.prog.info? 40).map (·.size) = some 4 := by kernel_rfl
  have iS : (Try.prog.info? 9).map (·.size) = some 1 := by kernel_rfl
  obtain ⟨h0, h1, A0⟩ := boxes2 w (.cells #[str [88], .bool false, .int .i64 0, str []] 25) (.cells #[str [], .bool false, .int .i64 0, str [], str [], .slice none 0 0, str [], .bool false, .int .i64 0, str []] 45)
  go_enter Try.func9, Try.ntmps9
  go_wp2_with (first | (refine wpList_store_all rfl 45 _ _ rfl (w.heap.size + 1) 10 _ 45 (lv (lvL w.heap.size)) rfl rfl h1 rfl rfl iL rfl ?_; intro w1 H1 b1; have G0 := b1.heap (by omega) h0; have B1 : Below w.heap.size w w1 := A0.trans (b1.lower (by omega) A0.size); obtain ⟨h2, h3, A1⟩ := boxes2 w1 (.cells #[.bool false, .int .i64 0, str [98]] 23) (.cells #[str [], str [], str [], .slice none 0 0] 40)) | (refine wpList_store_all rfl 40 _ _ rfl (w1.heap.size + 1) 4 _ 40 (fv (fvL w1.heap.size [98])) rfl rfl h3 rfl rfl iF rfl ?_; intro w2 H2 b2; have G2 := b2.heap (by omega) h2; have B2 : Below w1.heap.size w1 w2 := A1.trans (b2.lower (by omega) A1.size); have I0 := below_heap B2 G0; have I1 := below_heap B2 H1) | (refine wpList_load_all rfl 45 _ rfl (w.heap.size + 1) 10 45 (lv (lvL w.heap.size)) _ rfl I1 rfl Try.underlying45 rfl iL ?_) | (refine wpList_load_all rfl 40 _ rfl (w1.heap.size + 1) 4 40 (fv (fvL w1.heap.size [98])) _ rfl H2 rfl Try.underlying40 rfl iF ?_))
  have y2 : Lv.Aw w2 (lvL w.heap.size) := row_block tK I0 xT rfl
  have x2 : Fv.At w2 (fvL w1.heap.size [98]) := row_args (row_block kK G2 ⟨false, 0, [98]⟩ rfl)
  have T1 := hideP (mLiteral_at aT (lvL w.heap.size) (fvL w1.heap.size [98]) none 0 [] w2 (Row.nil _ _) (of_decide_eq_true rfl) y2 x2)
  rw [(lit_of_some (lit_live1 w.heap.size w1.heap.size)).1, (lit_of_some (lit_live1 w.heap.size w1.heap.size)).2] at T1
  have B3 := Below.then B1 B2
  have n01 : w.heap.size + 1 < w1.heap.size := heap_lt H1
  have n12 : w1.heap.size + 1 < w2.heap.size := heap_lt H2
  clear h0 h1 h2 h3 A0 A1 b1 b2 G0 y2 x2 B1 B2
  refine T1.out.mono ?_
  rintro e w3 ⟨⟨a3, c3, rfl, R3⟩, b3⟩
  have K0 := below_heap b3 I0
  have K1 := below_heap b3 I1
  have K2 := below_heap b3 G2
  have K3 := below_heap b3 H2
  have B4 := Below.then B3 b3
  clear I0 I1 G2 H2 b3 B3 T1 H1
  have c3' : w3.cell? ⟨w1.heap.size + 1, 3, none⟩ = some (.slice (some ⟨w1.heap.size, 0, none⟩) 1 1) := by rw [heap_cell K3]; rfl
  go_wp2_with (first | (refine wpList_store_cel rfl 9 _ _ rfl w1.heap.size 2 3 23 (str [99]) #[.bool false, .int .i64 0, str [99]] rfl rfl K2 rfl (by omega) iS rfl rfl ?_; intro w4 J2 b4; have J0 := b4.heap (by omega) K0; have J1 := b4.heap (by omega) K1; have J3 := b4.heap (by omega) K3; have R4 := R3.safe (Safe.but b4 K2 (by decide)); have B5 : Below w.heap.size w w4 := B4.trans (b4.lower (by omega) B4.size)) | (refine wpList_load_all rfl 45 _ rfl (w.heap.size + 1) 10 45 (lv (lvL w.heap.size)) _ rfl J1 rfl Try.underlying45 rfl iL ?_) | (refine wpList_load_all rfl 40 _ rfl (w1.heap.size + 1) 4 40 (fv (fvL w1.heap.size [99])) _ rfl J3 rfl Try.underlying40 rfl iF ?_))
  have y4 : Lv.Aw w4 (lvL w.heap.size) := row_block tK J0 xT rfl
  have x4 : Fv.At w4 (fvL w1.heap.size [99]) := row_args (row_block kK J2 ⟨false, 0, [99]⟩ rfl)
  have T2 := hideP (mLiteral_at aT (lvL w.heap.size) (fvL w1.heap.size [99]) none 0 [] w4 (Row.nil _ _) (of_decide_eq_true rfl) y4 x4)
  rw [(lit_of_none (lit_live2 w.heap.size w1.heap.size)).1, (lit_of_none (lit_live2 w.heap.size w1.heap.size)).2] at T2
  clear K0 K1 K2 K3 B4 J0 J1 J2 J3 R3 b4 y4 x4 c3'
  refine T2.out.mono ?_
  rintro e w5 ⟨⟨a5, c5, rfl, R5⟩, b5⟩
  have R6 := R4.row.below b5 (Nat.le_refl _)
  have B6 := Below.then B5 b5
  clear R5 R4 b5 B5 T2
  go_wp2_with fail
  refine (rlike11_at a3 (some ⟨w5.heap.size, 0, none⟩) c3 2 envL _ (R6.below (below_alloc w5 _) (Nat.le_refl _)) (row_two bK w5 _ _ ([65], Mt.nm [97]) ([88], Mt.nm [98]) rfl)).mono ?_
  rintro e w7 ⟨rfl, b7⟩
  have B7 := Below.then (Below.then B6 (below_alloc w5 _)) b7
  go_wp2_with fail
  go_ret
  exact ⟨rfl, B7⟩
end Go.Proofs.Ytbahbibibpkddaa
