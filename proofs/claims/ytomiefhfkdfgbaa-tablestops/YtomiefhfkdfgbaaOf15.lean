/-
  Of and Find: which facts they ask for.
-/
import Derived.Test.YtomiefhfkdfgbaaAl15
import Derived.BigQuiet
namespace Go.Proofs.Ytomiefhfkdfgbaa
open Go.RowKit Go.Shelf Go.Sort

def ofB (x y z : List UInt8) (f : F) : Bool := Tb.any x f.at_ && (Tb.any y f.by_ && Tb.any z f.pred)
theorem of_told (x y z : List UInt8) (ps : List Pn) : told (ofB x y z) ps = Tb.of x y z (ps.map Pn.f) := rfl
theorem all_told (ps : List Pn) : told (fun _ => true) ps = ps.map Pn.f := by unfold told; simp

set_option maxRecDepth 100000 in
set_option maxHeartbeats 2000000 in
theorem of1_at (x y z : List UInt8) (p : Pn) (b1 b2 b3 : Nat) (W : World) (hp : InAt W p) (h1 : W.heap[b1]? = some (.cells #[str x] 9)) (h2 : W.heap[b2]? = some (.cells #[str y] 9)) (h3 : W.heap[b3]? = some (.cells #[str z] 9)) :
    Calls Try.prog 42 #[ptr p.q, ptr b1, ptr b2, ptr b3] W fun e w' => e = .returned (.bool (ofB x y z p.f)) ∧ Below W.heap.size W w' := by
  have c1 := heap_cell h1 0
  have c2 := heap_cell h2 0
  have c3 := heap_cell h3 0
  have d0 := heap_cell hp.cell 0
  have d1 := heap_cell hp.cell 1
  have d2 := heap_cell hp.cell 2
  simp [fv] at c1 c2 c3 d0 d1 d2
  have hS := fun (a b : List UInt8) (W : World) => stands_at a b W
  have e1 : ofB x y z p.f = (Tb.any x p.x.at_ && (Tb.any y p.x.by_ && Tb.any z p.x.pred)) := rfl
  rw [e1]
  have s1 : ∀ (W : World) (n : Nat), Calls Try.prog 43 #[str x, str p.x.at_] (W.drewN n) fun e w' => e = .returned (.bool (Tb.any x p.x.at_)) ∧ ∃ m, w' = W.drewN m := fun W n => (stands_at x p.x.at_ (W.drewN n)).mono fun _ _ h => ⟨h.1, n, h.2.symm⟩
  have s2 : ∀ (W : World) (n : Nat), Calls Try.prog 43 #[str y, str p.x.by_] (W.drewN n) fun e w' => e = .returned (.bool (Tb.any y p.x.by_)) ∧ ∃ m, w' = W.drewN m := fun W n => (stands_at y p.x.by_ (W.drewN n)).mono fun _ _ h => ⟨h.1, n, h.2.symm⟩
  have s3 : ∀ (W : World) (n : Nat), Calls Try.prog 43 #[str z, str p.x.pred] (W.drewN n) fun e w' => e = .returned (.bool (Tb.any z p.x.pred)) ∧ ∃ m, w' = W.drewN m := fun W n => (stands_at z p.x.pred (W.drewN n)).mono fun _ _ h => ⟨h.1, n, h.2.symm⟩
  clear hS e1 hp h1 h2 h3
  generalize Tb.any x p.x.at_ = r1 at *
  generalize Tb.any y p.x.by_ = r2 at *
  generalize Tb.any z p.x.pred = r3 at *
  cases r1 <;> cases r2
  all_goals go_enter Try.func42, Try.ntmps42
  all_goals go_wp2_with fail
  all_goals go_quiet (first | (go_at_call 43; first | with_reducible exact s1 _ _ | with_reducible exact s2 _ _ | with_reducible exact s3 _ _))
  all_goals go_wp2_with fail
  all_goals go_ret
  all_goals exact ⟨ret_bool (by simp), below_drewN (Below.refl _ _) _⟩
theorem of_at {t : Value} {a : Option Addr} {cap : Nat} {ps : List Pn} (x y z : List UInt8) (W : World) (hV : TabV W t a cap ps) (hL : LstAt W a cap ps) (hw : ∀ p ∈ ps, p.x.ks.length ≤ 48) :
    Calls Try.prog 20 #[t, str x, str y, str z] W fun e w' => (∃ bt bi, e = .returned (.func (.func 60) #[] #[ptr bt, ptr bi]) ∧ IterAt w' bt bi a cap ps (ofB x y z)) ∧ Below W.heap.size W w' := by
  obtain ⟨q, rfl⟩ := hV.ptr
  have A1 := below_alloc W (.cells #[str x] 9)
  have H1 := heap_alloc_new W (.cells #[str x] 9)
  obtain ⟨h2, h3, A2⟩ := boxes_two (W.alloc (.cells #[str x] 9)) (.cells #[str y] 9) (.cells #[str z] 9)
  have h1 := below_heap A2 H1
  have A3 := Below.then A1 A2
  have V3 := hV.below A3
  have L3 := hL.below A3
  have hs : (W.alloc (.cells #[str x] 9)).heap.size = W.heap.size + 1 := by simp
  rw [hs] at h2 h3
  clear A1 H1 A2 hs hV hL
  generalize hW3 : ((W.alloc (.cells #[str x] 9)).alloc (.cells #[str y] 9)).alloc (.cells #[str z] 9) = W3 at *
  go_enter Try.func20, Try.ntmps20
  go_wp2_with fail
  try rw [hW3]
  refine (those_at q _ W3 ⟨_, _, rfl⟩).mono ?_
  rintro e w' ⟨rfl, rfl⟩
  obtain ⟨k1, k2, hb⟩ := boxes_two W3 (.cells #[.pointer q] 23) (.cells #[.func (.func 42) #[] #[ptr W.heap.size, ptr (W.heap.size + 1), ptr (W.heap.size + 1 + 1)]] 78)
  go_wp2_with fail
  go_ret
  refine ⟨⟨_, _, rfl, ⟨_, _, _, k1, k2, V3.below hb, enters_of Try.func42 (by kernel_rfl) rfl, fun p hp W' hk => ?_⟩, L3.below hb, hw⟩, Below.then A3 hb⟩
  exact of1_at x y z p _ _ _ W' (((L3.below hb).safe hk.s3).each p hp) (hk _ _ _ (below_heap hb h1) (by decide) (by decide)) (hk _ _ _ (below_heap hb h2) (by decide) (by decide)) (hk _ _ _ (below_heap hb h3) (by decide) (by decide))
end Go.Proofs.Ytomiefhfkdfgbaa
