/-
  live: what the document's examples say.
-/
import Derived.Test.YtdlhleblolcjpabSorted
namespace Go.Proofs.Ytdlhleblolcjpab
open Go.RowKit Go.Sort

abbrev kn (n : Int) : K := ⟨true, n, []⟩
theorem fa_fb : cF ⟨[97], [97], [112], [kn 1]⟩ ⟨[97], [97], [112], [kn 2]⟩ = -1 := by
  rw [cF_args (by decide) (by decide) (by decide), cL_hit cK _ _ 0 (by decide) (by decide) (fun j _ _ h => absurd h (by omega))]
  · show cK (kn 1) (kn 2) = -1
    rw [cK_same (x := kn 1) (y := kn 2) rfl]; unfold lex2; decide
  · show cK (kn 1) (kn 2) ≠ 0
    rw [cK_same (x := kn 1) (y := kn 2) rfl]; unfold lex2; decide
theorem sort_bab : sortF [⟨[97], [97], [112], [kn 2]⟩, ⟨[97], [97], [112], [kn 1]⟩, ⟨[97], [97], [112], [kn 2]⟩] = [⟨[97], [97], [112], [kn 1]⟩, ⟨[97], [97], [112], [kn 2]⟩] := by
  refine (sortF_of (m := [_, _]) ?_ fun x => ?_).symm
  · exact List.pairwise_cons.2 ⟨fun y hy => by rw [List.mem_singleton] at hy; subst hy; rw [fa_fb]; decide, by simp⟩
  · simp only [List.mem_cons, List.not_mem_nil, or_false]
    constructor
    · rintro (h | h) <;> simp [h]
    · rintro (h | h | h) <;> simp [h]
theorem cK_five : cK (kn 5) ⟨false, 0, [53]⟩ = -1 := by rw [cK_num (by decide)]; rfl
theorem good_five : goodB (kn 5) = true := rfl

theorem args_one (w : World) (k : K) : ArgsAt (w.alloc (.cells #[.bool k.num, .int .i64 k.n, str k.s] 27)) (some ⟨w.heap.size, 0, none⟩) 1 [k] :=
  ⟨by simp, by simp, (fun h => by cases h), fun ad ha j u hu => by
    cases ha
    rw [Addr.add_lit, Nat.zero_add]
    have hj := (List.getElem?_eq_some_iff.1 hu).1
    rw [kcells_len] at hj
    simp only [kcells, List.flatMap_cons, List.flatMap_nil, List.append_nil] at hu
    match j, hj, hu with
    | 0, _, hu => simp [kv] at hu; subst hu; simp
    | 1, _, hu => simp [kv] at hu; subst hu; simp
    | 2, _, hu => simp [kv] at hu; subst hu; simp⟩

theorem two_of {l : List Fv} (h : l.length = 2) : ∃ x y, l = [x, y] := by
  match l, h with
  | [x, y], _ => exact ⟨x, y, rfl⟩

theorem lies_new (w : World) (c : Array Value) (t : TypeId) (xs : List Fv) (h : c.toList = fcells xs) (hf : xs.length ≤ 1954687338211) : Lies (w.alloc (.cells c t)) (some ⟨w.heap.size, 0, none⟩) xs.length xs :=
  ⟨Nat.le_refl _, by unfold maxLen; omega, hf, (fun h => by cases h), fun ad ha j u hu => by
    cases ha
    rw [Addr.add_lit, heap_cell (heap_alloc_new w _), Nat.zero_add, ← Array.getElem?_toList, h]
    exact hu⟩

set_option maxHeartbeats 4000000 in
theorem live_at (w : World) : Calls Try.prog 7 #[] w fun e w' => e = .returned (.bool true) ∧ Below w.heap.size w w' := by
  have mixed : Try.prog.follows .mixedOrders = true := by kernel_rfl
  have hN := fun (n : Int) (W : World) => num_at n W
  have hOwn := fun (who pred : List UInt8) (xa : Option Addr) (xc : Nat) (xk : List K) (W : World) (h : ArgsAt W xa xc xk) => own_at who pred xa xc xk W h
  go_enter Try.func7, Try.ntmps7
  go_wp2_with fail
  refine (hN 1 _).mono ?_; rintro e w1 ⟨rfl, hg1⟩
  go_wp2_with fail
  refine (hOwn [97] [112] _ 1 [kn 1] _ (args_one w1 (kn 1))).mono ?_
  rintro e w2 ⟨a1, c1, rfl, hA1, hF1, hB1⟩
  have hb2 : Below w.heap.size w w2 := Below.then (Below.then hg1.below (below_alloc _ _)) hB1
  clear hB1 hF1 hg1
  go_wp2_with fail
  obtain ⟨w3, hw3⟩ : ∃ w3, w3 = w2.alloc (.cells #[str [97], str [97], str [112], .slice a1 1 c1] 24) := ⟨_, rfl⟩
  rw [show (w2.alloc (.cells #[.string ⟨#[97]⟩, .string ⟨#[97]⟩, .string ⟨#[112]⟩, .slice a1 1 c1] 24)) = w3 from hw3.symm]
  have H3 : w3.heap[w2.heap.size]? = some (.cells #[str [97], str [97], str [112], .slice a1 1 c1] 24) := by rw [hw3]; exact heap_alloc_new _ _
  have B3 : Below w2.heap.size w2 w3 := by rw [hw3]; exact below_alloc _ _
  have A3 : ArgsAt w3 a1 c1 [kn 1] := hA1.below B3 (Nat.le_refl _)
  have hb3 : Below w.heap.size w w3 := Below.then hb2 B3
  have L3 : w2.heap.size < w3.heap.size := by rw [hw3]; simp
  clear hw3 hA1 hb2 B3
  generalize w2.heap.size = P1 at *
  refine (hN 2 _).mono ?_; rintro e w4 ⟨rfl, hg4⟩
  go_wp2_with fail
  refine (hOwn [97] [112] _ 1 [kn 2] _ (args_one w4 (kn 2))).mono ?_
  rintro e w5 ⟨a2, c2, rfl, A5, hF2, hB2⟩
  have B5 : Below w3.heap.size w3 w5 := Below.then (Below.then hg4.below (below_alloc _ _)) hB2
  have H5 := (B5.block _ L3).trans H3
  have A5' := A3.below B5 (Nat.le_refl _)
  have hb5 := Below.then hb3 B5
  have L5 : P1 < w5.heap.size := Nat.lt_of_lt_of_le L3 B5.size
  clear hB2 hF2 hg4 B5 H3 A3 hb3 L3
  have b0 := heap_cell H5 0; have b1 := heap_cell H5 1; have b2 := heap_cell H5 2; have b3 := heap_cell H5 3
  simp at b0 b1 b2 b3
  have hne : P1 ≠ w5.heap.size := by omega
  go_wp2_with fail
  obtain ⟨w6, hw6⟩ : ∃ w6, w6 = (w5.alloc (.cells #[str [97], str [97], str [112], .slice a2 1 c2] 24)) := ⟨_, rfl⟩
  obtain ⟨w7, hw7⟩ : ∃ w7, w7 = w6.alloc (.cells #[str [97], str [97], str [112], .slice a2 1 c2, str [97], str [97], str [112], .slice a1 1 c1, str [97], str [97], str [112], .slice a2 1 c2] 24) := ⟨_, rfl⟩
  have S6 : w6.heap.size = w5.heap.size + 1 := by rw [hw6]; simp
  have hL := lies_new w6 #[str [97], str [97], str [112], .slice a2 1 c2, str [97], str [97], str [112], .slice a1 1 c1, str [97], str [97], str [112], .slice a2 1 c2] 24
    [⟨[97], [97], [112], a2, c2, [kn 2]⟩, ⟨[97], [97], [112], a1, c1, [kn 1]⟩, ⟨[97], [97], [112], a2, c2, [kn 2]⟩] rfl (by simp)
  rw [← hw7, S6] at hL
  have B7 : Below w5.heap.size w5 w7 := by rw [hw7, hw6]; exact Below.then (below_alloc _ _) (below_alloc _ _)
  have A7 : ArgsAt w7 a1 c1 [kn 1] := A5'.below B7 (Nat.le_refl _)
  have A7' : ArgsAt w7 a2 c2 [kn 2] := A5.below B7 (Nat.le_refl _)
  have H7 := (B7.block _ L5).trans H5
  have L7 : P1 < w7.heap.size := Nat.lt_of_lt_of_le L5 B7.size
  have hb7 := Below.then hb5 B7
  have hS := sorted_at _ _ _ w7 hL (fun x hx => by
    simp only [List.mem_cons, List.not_mem_nil, or_false] at hx
    rcases hx with rfl | rfl | rfl
    · exact A7'
    · exact A7
    · exact A7')
  subst hw6
  rw [show ((w5.alloc (.cells #[str [97], str [97], str [112], .slice a2 1 c2] 24)).alloc (.cells #[str [97], str [97], str [112], .slice a2 1 c2, str [97], str [97], str [112], .slice a1 1 c1, str [97], str [97], str [112], .slice a2 1 c2] 24)) = w7 from hw7.symm]
  clear hw7 hb5 A5 A5' H5 L5 b0 b1 b2 b3 hne hL S6 hN hOwn
  refine hS.mono ?_
  rintro e w8 ⟨a', c', zs, rfl, hO, hat, hsort, hB8⟩
  have hsort' : zs.map Fv.f = [⟨[97], [97], [112], [kn 1]⟩, ⟨[97], [97], [112], [kn 2]⟩] := hsort.trans sort_bab
  obtain ⟨z0, z1, rfl⟩ : ∃ z0 z1, zs = [z0, z1] := two_of (by have := congrArg List.length hsort'; simpa using this)
  have hz0 : z0.f = ⟨[97], [97], [112], [kn 1]⟩ := by simp only [List.map_cons, List.cons.injEq] at hsort'; exact hsort'.1
  cases a' with
  | none => exfalso; have := (hO.void rfl).1; cases this
  | some ad =>
    obtain ⟨g, rfl, _, hg1, hrow⟩ := hO.row ad rfl
    obtain ⟨r1, r2, r3, r4⟩ := hrow.get 0 (by simp)
    simp only [List.getElem_cons_zero, Nat.zero_mul, Nat.zero_add] at r1 r2 r3 r4
    have H8 := (hB8.block _ L7).trans H7
    have A8 := A7.below hB8 (Nat.le_refl _)
    have L8 : P1 < w8.heap.size := Nat.lt_of_lt_of_le L7 hB8.size
    have hb8 := Below.then hb7 hB8
    have Az := (hat z0 (by simp)).1
    clear hat hsort hsort' hB8 hrow hO H7 A7 A7' L7 hb7 hS B7
    have b0 := heap_cell H8 0; have b1 := heap_cell H8 1; have b2 := heap_cell H8 2; have b3 := heap_cell H8 3
    simp at b0 b1 b2 b3
    have R1 := fun n os => cell_grown (cell_block r1) r1 n os
    have R2 := fun n os => cell_grown (cell_block r2) r2 n os
    have R3 := fun n os => cell_grown (cell_block r3) r3 n os
    have R4 := fun n os => cell_grown (cell_block r4) r4 n os
    have C0 := fun n os => cell_grown (cell_block b0) b0 n os
    have C1 := fun n os => cell_grown (cell_block b1) b1 n os
    have C2 := fun n os => cell_grown (cell_block b2) b2 n os
    have C3 := fun n os => cell_grown (cell_block b3) b3 n os
    have hN := fun (n : Nat) (os : Array Obj) => num_at 5 (grow (w8.drewN n) os)
    have hG := fun (n : Nat) (os : Array Obj) => good_at (kn 5) (grow (w8.drewN n) os)
    have hC := fun (n : Nat) (os : Array Obj) => compare_at (kn 5) ⟨false, 0, [53]⟩ (grow (w8.drewN n) os)
    have hOr := fun (n : Nat) (os : Array Obj) => order_at z0 ⟨[97], [97], [112], a1, c1, [kn 1]⟩ (grow (w8.drewN n) os) (Az.grew (Grew.grow _ _ _)) (ArgsAt.below A8 (Grew.grow _ _ _).below (Nat.le_refl _))
    simp only [good_five] at hG
    simp only [cK_five] at hC
    have hz : cF z0.f (Fv.f ⟨[97], [97], [112], a1, c1, [kn 1]⟩) = 0 := by rw [hz0]; exact cF_self _
    simp only [hz] at hOr
    clear hz hz0 r1 r2 r3 r4 b0 b1 b2 b3 H8 A8 Az
    go_wp2_with fail
    go_quiet_grown (first | (go_at_call 5; refine Calls.grown_of (hN _ _)) | (go_at_call 12; refine Calls.grown_of (hC _ _)) | (go_at_call 13; refine Calls.grown_of (hOr _ _)) | (go_at_call 14; refine Calls.grown_of (hG _ _)))
    go_wp2_with fail
    go_ret
    exact ⟨rfl, Below.then hb8 (Grew.grow _ _ _).below⟩

end Go.Proofs.Ytdlhleblolcjpab
