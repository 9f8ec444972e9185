/-
  CodeFacts, walked: any fact is laid as the reference lays it, any bytes are read as the reference reads them.
-/
import Derived.Test.YtghhdbkgibpebaaRFb
import Derived.Test.YtghhdbkgibpebaaRLay
import Derived.Test.YtghhdbkgibpebaaLive5
import Derived.Test.YtghhdbkgibpebaaLike
import Derived.Test.YtghhdbkgibpebaaLentKept
namespace Go.Proofs.Ytghhdbkgibpebaa
open Go.RowKit Go.Sort

theorem lies_new (w : World) (c : Array Value) (t : TypeId) (xs : List Fv) (h : c.toList = fcells xs) (hf : xs.length ≤ 1954687338211) : Lies (w.alloc (.cells c t)) (some ⟨w.heap.size, 0, none⟩) xs.length xs :=
  ⟨Nat.le_refl _, by unfold maxLen; omega, hf, (fun h => by cases h), fun ad ha j u hu => by
    cases ha
    rw [Addr.add_lit, heap_cell (heap_alloc_new w _), Nat.zero_add, ← Array.getElem?_toList, h]
    exact hu⟩

set_option maxRecDepth 100000 in
set_option maxHeartbeats 4000000 in
theorem codeFacts_walk (x : Fv) (a : Option Addr) (c : Nat) (l : List UInt8) (i : Int) (w : World) (hx : Fv.At w x) (ix : ∀ k ∈ x.ks, KIn k) (ha : Holds w a c l) (hr : l.length ≤ 140737488351232) (h0 : -9223372036854775808 ≤ i) (h1 : i ≤ 9223372036854775807) :
    Calls Try.prog 3 #[x.val, .slice a l.length c, .int .i64 i] w fun e w' => e = .returned (.bool true) ∧ Below w.heap.size w w' := by
  have mixed : Try.prog.follows .mixedOrders = true := by kernel_rfl
  have hV := fun W => live5_at W
  have hP1 := fun (g cap : Nat) W (hl : l.length ≤ 3000) (h : Below w.heap.size w W) (hh : Holds W (some ⟨g, 2, none⟩) cap l) => putFact5_at (some ⟨g, 2, none⟩) cap l x W hh (hx.below h (Nat.le_refl _)) ix (by omega)
  have hP2 := fun W (hl : l.length ≤ 3000) (h : Below w.heap.size w W) => rputFact_at a c l x W (ha.below h) (hx.below h (Nat.le_refl _)) ix (by omega)
  have hF1 := fun (g cap : Nat) W (hh : Holds W (some ⟨g, 2, none⟩) cap l) => fact5_at (some ⟨g, 2, none⟩) cap l i W hh (by omega) h0 h1
  have hF2 := fun W (h : Below w.heap.size w W) => rfact_at a c l i W (ha.below h) (by omega) h0 h1
  have hL := fun W (h : Below w.heap.size w W) => lent_any a c l W (ha.below h) hr
  generalize hX : (bif okB x.f then l ++ factB x.f else l) = X at *
  clear hX
  simp only [errno] at hP1 hP2
  generalize hO : (bif okB x.f then (0 : Int) else 40) = O at *
  generalize hR : fR l i = R at *
  obtain ⟨f, j, er⟩ := R
  simp only at hF1 hF2
  obtain ⟨x1, x2, x3, xa, xc, xk⟩ := x
  have H1 := heap_alloc_new w (.cells #[str x1, str x2, str x3, .slice xa xk.length xc] 24)
  have B0 := below_alloc w (.cells #[str x1, str x2, str x3, .slice xa xk.length xc] 24)
  have S0 : (w.alloc (.cells #[str x1, str x2, str x3, .slice xa xk.length xc] 24)).heap.size = w.heap.size + 1 := by simp
  go_enter Try.func3, Try.ntmps3
  go_wp2_with fail
  generalize w.alloc (.cells #[str x1, str x2, str x3, .slice xa xk.length xc] 24) = w0 at *
  have hLi := lies_new w0 #[str x1, str x2, str x3, .slice xa xk.length xc] 24 [⟨x1, x2, x3, xa, xc, xk⟩] rfl (by simp)
  rw [S0] at hLi
  have B1 := Below.then B0 (below_alloc w0 (.cells #[str x1, str x2, str x3, .slice xa xk.length xc] 24))
  refine (weight_at (some ⟨w.heap.size + 1, 0, none⟩) 1 [⟨x1, x2, x3, xa, xc, xk⟩] 200 _ hLi (fun z hz => by
    simp only [List.mem_cons, List.not_mem_nil, or_false] at hz
    subst hz
    exact hx.below B1 (Nat.le_refl _))).mono ?_
  rintro e w1 ⟨⟨r, rfl⟩, g1⟩
  have B2 := Below.then B1 g1.below
  have J1 := below_heap g1.below (below_heap (below_alloc w0 _) H1)
  clear hLi B1 g1 B0 H1 S0 hx
  by_cases hr2 : 200 < r
  · go_wp2_with fail
    refine (hV _).mono ?_; rintro e w2 ⟨rfl, b2⟩
    go_wp2_with fail
    go_ret
    exact ⟨rfl, Below.then B2 b2⟩
  by_cases hb : (3000 : Int) < (l.length : Int)
  · go_wp2_with fail
    refine (hV _).mono ?_; rintro e w2 ⟨rfl, b2⟩
    go_wp2_with fail
    go_ret
    exact ⟨rfl, Below.then B2 b2⟩
  have hl3 : l.length ≤ 3000 := by omega
  go_wp2_with fail
  refine (hL _ B2).mono ?_; rintro e w2 ⟨g, cap, rfl, L2, hg, b2⟩
  have J2 := below_heap b2 J1
  have B3 := Below.then B2 b2
  have T2 : Holds w2 (some ⟨g, 2, none⟩) cap l := by have := L2.take l.length; rwa [List.take_left] at this
  clear J1 B2 b2 hL hr2 hb hg
  have d0 := heap_cell J2 0; have d1 := heap_cell J2 1; have d2 := heap_cell J2 2; have d3 := heap_cell J2 3
  simp at d0 d1 d2 d3
  go_wp2_with fail
  refine (hP1 g cap w2 hl3 B3 T2).mono ?_; rintro e w3 ⟨v3, rfl, o3, b3⟩
  obtain ⟨p3, c3, rfl, X3, _⟩ := o3.holds
  have J3 := below_heap b3 J2
  have B4 := Below.then B3 b3
  have L3 := L2.below b3
  have T3 := T2.below b3
  clear J2 B3 b3 L2 T2 hP1 o3 d0 d1 d2 d3
  have d0 := heap_cell J3 0; have d1 := heap_cell J3 1; have d2 := heap_cell J3 2; have d3 := heap_cell J3 3
  simp at d0 d1 d2 d3
  go_wp2_with fail
  refine (hP2 w3 hl3 B4).mono ?_; rintro e w4 ⟨v4, rfl, o4, b4⟩
  obtain ⟨p4, c4, rfl, X4, _⟩ := o4.holds
  have B5 := Below.then B4 b4
  have L4 := L3.below b4
  have T4 := T3.below b4
  have Y3 := X3.below b4
  clear J3 B4 b4 L3 T3 hP2 o4 X3 d0 d1 d2 d3
  go_wp2_with fail
  refine (hF1 g cap w4 T4).mono ?_; rintro e w5 ⟨y, rfl, hy, A5, b5⟩
  obtain ⟨y1, y2, y3, ya, yc, yk⟩ := y
  have G5 := heap_alloc_new w5 (.cells #[str y1, str y2, str y3, .slice ya yk.length yc] 24)
  have b5' := Below.then b5 (below_alloc w5 (.cells #[str y1, str y2, str y3, .slice ya yk.length yc] 24))
  have A6 := A5.below (below_alloc w5 (.cells #[str y1, str y2, str y3, .slice ya yk.length yc] 24)) (Nat.le_refl _)
  have B6 := Below.then B5 b5'
  have L5 := L4.below b5'
  have Z3 := Y3.below b5'
  have Z4 := X4.below b5'
  clear B5 b5 b5' L4 T4 Y3 X4 hF1 A5
  go_wp2_with fail
  generalize hN5 : w5.heap.size = n5 at *
  generalize w5.alloc (.cells #[str y1, str y2, str y3, .slice ya yk.length yc] 24) = w6 at *
  refine (hF2 w6 B6).mono ?_; rintro e w7 ⟨z, rfl, hz, A7, b7⟩
  obtain ⟨z1, z2, z3, za, zc, zk⟩ := z
  have G7 := heap_alloc_new w7 (.cells #[str z1, str z2, str z3, .slice za zk.length zc] 24)
  have b8 := below_alloc w7 (.cells #[str z1, str z2, str z3, .slice za zk.length zc] 24)
  have b7' := Below.then b7 b8
  have A8 := A7.below b8 (Nat.le_refl _)
  have A9 := A6.below b7' (Nat.le_refl _)
  have B8 := Below.then B6 b7'
  have G8 := below_heap b7' G5
  have L8 := L5.below b7'
  have W3 := Z3.below b7'
  have W4 := Z4.below b7'
  clear B6 b7 b7' b8 L5 Z3 Z4 hF2 A6 A7 G5
  go_wp2_with fail
  generalize hN7 : w7.heap.size = n7 at *
  generalize w7.alloc (.cells #[str z1, str z2, str z3, .slice za zk.length zc] 24) = w8 at *
  refine (same_at p3 p4 X.length X.length c3 c4 X X w8 rfl rfl W3 W4).mono ?_; rintro e w9 ⟨rfl, rfl⟩
  rw [beq_self_eq_true]
  have d0 := heap_cell G8 0; have d1 := heap_cell G8 1; have d2 := heap_cell G8 2; have d3 := heap_cell G8 3
  have f0 := heap_cell G7 0; have f1 := heap_cell G7 1; have f2 := heap_cell G7 2; have f3 := heap_cell G7 3
  simp at d0 d1 d2 d3 f0 f1 f2 f3
  have hO2 := reforder_at ⟨y1, y2, y3, ya, yc, yk⟩ ⟨z1, z2, z3, za, zc, zk⟩ w8 A9 A8
  rw [(cF_zero _ _).2 (hy.trans hz.symm)] at hO2
  go_wp2_with fail
  refine hO2.mono ?_; rintro e w10 ⟨rfl, g10⟩
  have B10 := Below.then B8 g10.below
  have L10 := L8.below g10.below
  clear hO2 d0 d1 d2 d3 f0 f1 f2 f3 G7 G8 A8 A9 W3 W4
  go_wp2_with fail
  refine (kept_any a g c cap l w10 L10 (ha.below B10) hr).mono ?_; rintro e w11 ⟨rfl, rfl⟩
  go_wp2_with fail
  refine (hV _).mono ?_; rintro e w12 ⟨rfl, b12⟩
  go_wp2_with fail
  go_ret
  exact ⟨rfl, Below.then B10 b12⟩
end Go.Proofs.Ytghhdbkgibpebaa
