/-
  Which terms, literals and rules may be laid: what the program answers.
-/
import Derived.Test.YtghhdbkgibpebaaTk
import Derived.Test.YtghhdbkgibpebaaShelf2
import Derived.Test.YtghhdbkgibpebaaChk
namespace Go.Proofs.Ytghhdbkgibpebaa
open Go.RowKit Go.Sort

theorem kind_cases (t : Tm) : (kindT t = 0 ∧ mayT t = true) ∨ (kindT t = 1 ∧ mayT t = (fitsB t.v && zeroK t.k)) ∨ (kindT t = 2 ∧ mayT t = goodB t.k) := by
  unfold kindT mayT
  cases t.v.isEmpty <;> cases zeroK t.k <;> simp

theorem fits5_at (l : List UInt8) (w : World) : Calls Try.prog 102 #[str l] w fun e w' => e = .returned (.bool (fitsB l)) ∧ w = w' := by
  have hf : fitsB l = (decide ((1 : Int) ≤ (l.length : Int)) && decide ((l.length : Int) ≤ 32)) := by unfold fitsB; congr 1 <;> rw [decide_eq_decide] <;> omega
  rw [hf]; clear hf
  go_enter Try.func102, Try.ntmps102
  go_wp2
  all_goals (go_ret; refine ⟨ret_bool ?_, rfl⟩; simp_all; try (intros; omega))

set_option maxHeartbeats 1000000 in
theorem mayBe_at (t : Tm) (w : World) : Calls Try.prog 72 #[tval t] w fun e w' => e = .returned (.bool (mayT t)) ∧ Grew w w' := by
  have hK := fun W => kindOf_at t W
  have hF := fun W => fits5_at t.v W
  have hG := fun W => good_at t.k W
  have hc := kind_cases t
  obtain ⟨v, ⟨a, b, c⟩⟩ := t
  simp only at hF hG hc
  generalize mayT ⟨v, ⟨a, b, c⟩⟩ = m at *
  generalize kindT ⟨v, ⟨a, b, c⟩⟩ = k at *
  generalize goodB ⟨a, b, c⟩ = g at *
  generalize fitsB v = f at *
  rcases hc with ⟨rfl, rfl⟩ | ⟨rfl, rfl⟩ | ⟨rfl, rfl⟩
  all_goals go_enter Try.func72, Try.ntmps72
  · go_wp2_with fail
    refine (hK _).mono ?_; rintro e w1 ⟨rfl, hg1⟩
    go_wp2_with fail
    go_ret
    exact ⟨rfl, ((Grew.refl _).allocs _).trans hg1⟩
  · go_wp2_with fail
    refine (hK _).mono ?_; rintro e w1 ⟨rfl, ⟨q1, os1, rfl⟩⟩
    have hg1 := ((Grew.refl w).allocs (.cells #[str v, .bool a, .int .i64 b, str c] 51)).trans (Grew.grow _ q1 os1)
    have hb := below_heap (Grew.grow _ q1 os1).below (heap_alloc_new w (.cells #[str v, .bool a, .int .i64 b, str c] 51))
    generalize grow ((w.alloc (.cells #[str v, .bool a, .int .i64 b, str c] 51)).drewN q1) os1 = w1 at *
    have b0 := heap_cell hb 0; have b1 := heap_cell hb 1; have b2 := heap_cell hb 2; have b3 := heap_cell hb 3
    simp at b0 b1 b2 b3
    go_wp2_with fail
    refine (hF _).mono ?_; rintro e w2 ⟨rfl, rfl⟩
    cases f
    · go_wp2_with fail
      go_ret
      exact ⟨rfl, hg1⟩
    · go_wp2
      all_goals (go_ret; refine ⟨ret_bool ?_, hg1⟩)
      all_goals (cases c <;> simp_all [zeroK])
  · go_wp2_with fail
    refine (hK _).mono ?_; rintro e w1 ⟨rfl, ⟨q1, os1, rfl⟩⟩
    have hg1 := ((Grew.refl w).allocs (.cells #[str v, .bool a, .int .i64 b, str c] 51)).trans (Grew.grow _ q1 os1)
    have hb := below_heap (Grew.grow _ q1 os1).below (heap_alloc_new w (.cells #[str v, .bool a, .int .i64 b, str c] 51))
    generalize grow ((w.alloc (.cells #[str v, .bool a, .int .i64 b, str c] 51)).drewN q1) os1 = w1 at *
    have b0 := heap_cell hb 0; have b1 := heap_cell hb 1; have b2 := heap_cell hb 2; have b3 := heap_cell hb 3
    simp at b0 b1 b2 b3
    go_wp2_with fail
    refine (hG _).mono ?_; rintro e w2 ⟨rfl, hg2⟩
    go_wp2_with fail
    go_ret
    exact ⟨rfl, hg1.trans hg2⟩
end Go.Proofs.Ytghhdbkgibpebaa

/-
  Which atoms, literals and rules may be laid: what the program answers.
-/
namespace Go.Proofs.Ytghhdbkgibpebaa
open Go.RowKit Go.Sort

theorem mayAtom1_at (t : Tm) (w : World) : Calls Try.prog 104 #[tval t] w fun e w' => e = .returned (.bool (!mayT t)) ∧ Grew w w' := by
  have hS := fun W => mayBe_at t W
  obtain ⟨v, ⟨a, b, c⟩⟩ := t
  generalize mayT ⟨v, ⟨a, b, c⟩⟩ = m at *
  go_enter Try.func104, Try.ntmps104
  go_wp2_with (go_at_call 72; refine (hS _).mono ?_; rintro e w1 ⟨rfl, hg⟩)
  go_ret
  exact ⟨rfl, ((Grew.refl _).allocs _).trans hg⟩

theorem any_not {α : Type} (p : α → Bool) (l : List α) : (l.any fun x => !p x) = !l.all p := by rw [List.all_eq_not_any_not, Bool.not_not]
/-- each record of a row, with what lies behind it -/
def withAt {α : Type} (P : α → Prop) (xs : List α) (h : ∀ x ∈ xs, P x) : List { x : α // P x } := xs.pmap Subtype.mk h
theorem withAt_val {α : Type} (P : α → Prop) (xs : List α) (h : ∀ x ∈ xs, P x) : (withAt P xs h).map (·.1) = xs := by
  unfold withAt; rw [List.map_pmap]; simp
theorem withAt_all {α : Type} (P : α → Prop) (p : α → Bool) (xs : List α) (h : ∀ x ∈ xs, P x) : ((withAt P xs h).all fun x => p x.1) = xs.all p := by
  have := withAt_val P xs h
  conv => rhs; rw [← this]
  rw [List.all_map]; rfl
theorem withAt_cells {α : Type} {D : Kd α} {w : World} {b o c : Nat} {P : α → Prop} {xs : List α} (h : ∀ x ∈ xs, P x) (hr : Row D w (some ⟨b, o, none⟩) c xs) [Inhabited { x : α // P x }] :
    ∀ j, j < (withAt P xs h).length → ∀ i v, (D.enc ((withAt P xs h)[j]!).1)[i]? = some v → w.cell? ⟨b, o + j * D.k + i, none⟩ = some v := fun j hj i v hv => by
  have e := withAt_val P xs h
  have hj' : j < xs.length := by rw [← e]; simpa using hj
  refine hr.range j hj' i v ?_
  rw [getElem!_pos _ j hj] at hv
  rw [← hv]
  have : xs[j] = ((withAt P xs h)[j]).1 := by
    have h1 : ((withAt P xs h).map (·.1))[j]'(by simpa using hj) = xs[j] := by simp only [e]
    rw [← h1]; simp
  rw [this]

set_option maxHeartbeats 1000000 in
theorem hasT_nil (a : Option Addr) (c : Nat) (f : Value) (w : World) : Calls Try.prog 103 #[.slice a 0 c, f] w fun e w' => e = .returned (.bool false) ∧ w = w' := by
  go_enter Try.func103, Try.ntmps103
  go_wp2
  go_loopw [5, 8] (fun _ v wr => v = .int .i64 0 ∧ w = wr) (fun _ _ _ => 0)
  case atStart => exact ⟨rfl, rfl⟩
  case round =>
    obtain ⟨rfl, rfl⟩ := hrel
    go_wp2
    go_ret
    exact ⟨rfl, rfl⟩
set_option maxHeartbeats 1000000 in
theorem hasL_nil (a : Option Addr) (c : Nat) (f : Value) (w : World) : Calls Try.prog 74 #[.slice a 0 c, f] w fun e w' => e = .returned (.bool false) ∧ w = w' := by
  go_enter Try.func74, Try.ntmps74
  go_wp2
  go_loopw [5, 8] (fun _ v wr => v = .int .i64 0 ∧ w = wr) (fun _ _ _ => 0)
  case atStart => exact ⟨rfl, rfl⟩
  case round =>
    obtain ⟨rfl, rfl⟩ := hrel
    go_wp2
    go_ret
    exact ⟨rfl, rfl⟩
set_option maxHeartbeats 1000000 in
theorem hasR_nil (a : Option Addr) (c : Nat) (f : Value) (w : World) : Calls Try.prog 41 #[.slice a 0 c, f] w fun e w' => e = .returned (.bool false) ∧ w = w' := by
  go_enter Try.func41, Try.ntmps41
  go_wp2
  go_loopw [5, 8] (fun _ v wr => v = .int .i64 0 ∧ w = wr) (fun _ _ _ => 0)
  case atStart => exact ⟨rfl, rfl⟩
  case round =>
    obtain ⟨rfl, rfl⟩ := hrel
    go_wp2
    go_ret
    exact ⟨rfl, rfl⟩

theorem hasT_at (a : Option Addr) (c : Nat) (ts : List Tm) (w : World) (hx : Row tK w a c ts) :
    Calls Try.prog 103 #[.slice a ts.length c, .func (.func 104) #[] #[]] w fun e w' => e = .returned (.bool (!ts.all mayT)) ∧ Below w.heap.size w w' := by
  have eg : ∀ args w, (callFunc 104 args).run Try.prog w = .ok (.enter 104 args) w := enters_of Try.func104 (by kernel_rfl) rfl
  haveI : Inhabited Tm := ⟨t0⟩
  cases hts : ts with
  | nil => exact (hasT_nil a c _ w).mono fun _ _ ⟨h1, h2⟩ => ⟨by rw [h1]; rfl, by rw [h2]; exact Below.refl _ _⟩
  | cons k1 kr =>
    rw [← hts]
    have h0 : 0 < ts.length := by rw [hts]; simp
    obtain ⟨B, O, rfl⟩ := hx.addr h0
    have few := hx.few
    have := AnyQ.slices_ContainsFunc Try.hasT 4 Try.isAgg51 Try.sizeOf51 tv tK.len (fun x => !mayT x) 104 #[] eg B O ts.length c ts w
      (fun W x hW => (mayAtom1_at x W).mono fun _ _ ⟨h1, h2⟩ => ⟨h1, hW.trans (h2.below.mono hW.size)⟩) (Nat.le_refl _) (by omega)
      (hx.lt h0) (fun j hj i v hv => by rw [getElem!_pos _ j hj] at hv; exact hx.range j hj i v hv)
    refine this.mono fun e w' ⟨h1, h2⟩ => ⟨?_, h2⟩
    rw [h1, List.take_length, any_not]

set_option maxHeartbeats 1000000 in
theorem mayAtom_at (p : List UInt8) (a : Option Addr) (c : Nat) (ts : List Tm) (w : World) (hx : Row tK w a c ts) :
    Calls Try.prog 73 #[str p, .slice a ts.length c] w fun e w' => e = .returned (.bool (mayA p ts)) ∧ Below w.heap.size w w' := by
  have hF := fun W => fits5_at p W
  have hT := hasT_at a c ts w hx
  have few := hx.few
  have hd : decide (ts.length ≤ 48) = !decide ((48 : Int) < (ts.length : Int)) := by rw [Bool.eq_iff_iff]; simp; omega
  unfold mayA
  rw [hd]; clear hd
  generalize fitsB p = f at *
  generalize ts.all mayT = m at *
  by_cases hl : (48 : Int) < (ts.length : Int)
  · cases f
    all_goals go_enter Try.func73, Try.ntmps73
    all_goals go_wp2_with (go_at_call 102; refine (hF _).mono ?_; rintro e w1 ⟨rfl, rfl⟩)
    all_goals go_ret
    all_goals exact ⟨ret_bool (by simp [hl]), Below.refl _ _⟩
  · cases f
    all_goals go_enter Try.func73, Try.ntmps73
    all_goals go_wp2_with (first | (go_at_call 102; refine (hF _).mono ?_; rintro e w1 ⟨rfl, rfl⟩) | (go_at_call 103; refine hT.mono ?_; rintro e w1 ⟨rfl, hb⟩))
    all_goals go_ret
    · exact ⟨ret_bool (by simp), Below.refl _ _⟩
    · exact ⟨ret_bool (by simp; omega), hb⟩
end Go.Proofs.Ytghhdbkgibpebaa

/-
  Which literals and rules may be laid: what the program answers.
-/
namespace Go.Proofs.Ytghhdbkgibpebaa
open Go.RowKit Go.Sort

set_option maxHeartbeats 2000000 in
theorem mayLay1_at (x : Lv) (w : World) (hx : Lv.At w x) : Calls Try.prog 75 #[lval x] w fun e w' => e = .returned (.bool (!mayL x.l)) ∧ Below w.heap.size w w' := by
  obtain ⟨⟨v1, ⟨a1, b1, c1⟩⟩, p, ad, cap, ts, ⟨v2, ⟨a2, b2, c2⟩⟩⟩ := x
  have hx : Row tK w ad cap ts := hx
  have hA := fun W => mayBe_at ⟨v1, ⟨a1, b1, c1⟩⟩ W
  have hB := fun W => mayBe_at ⟨v2, ⟨a2, b2, c2⟩⟩ W
  have hC := fun W (h : Below w.heap.size w W) => mayAtom_at p ad cap ts W (hx.below h (Nat.le_refl _))
  unfold mayL Lv.l
  simp only
  generalize mayT ⟨v1, ⟨a1, b1, c1⟩⟩ = m1 at *
  generalize mayT ⟨v2, ⟨a2, b2, c2⟩⟩ = m2 at *
  generalize mayA p ts = m3 at *
  go_enter Try.func75, Try.ntmps75
  go_wp2_with fail
  refine (hA _).mono ?_; rintro e w1 ⟨rfl, hg1⟩
  have hb1 := Below.then (below_alloc w _) hg1.below
  have H1 := below_heap hg1.below (heap_alloc_new w _)
  clear hg1 hA
  have d4 := heap_cell H1 4; have d5 := heap_cell H1 5; have d6 := heap_cell H1 6; have d7 := heap_cell H1 7; have d8 := heap_cell H1 8; have d9 := heap_cell H1 9
  simp at d4 d5 d6 d7 d8 d9
  cases m1
  · go_wp2_with fail
    go_ret
    exact ⟨ret_bool (by simp), hb1⟩
  · go_wp2_with fail
    refine (hB _).mono ?_; rintro e w2 ⟨rfl, hg2⟩
    have hb2 := Below.then hb1 hg2.below
    have H2 := below_heap hg2.below H1
    clear hg2 hB d4 d5 d6 d7 d8 d9
    have d4 := heap_cell H2 4; have d5 := heap_cell H2 5
    simp at d4 d5
    cases m2
    · go_wp2_with fail
      go_ret
      exact ⟨ret_bool (by simp), hb2⟩
    · go_wp2_with fail
      refine (hC _ hb2).mono ?_; rintro e w3 ⟨rfl, hb3⟩
      go_wp2_with fail
      go_ret
      exact ⟨ret_bool (by simp), Below.then hb2 hb3⟩

theorem hasL_at (a : Option Addr) (c : Nat) (xs : List Lv) (w : World) (hx : Row lK w a c xs) (ax : ∀ x ∈ xs, Lv.At w x) :
    Calls Try.prog 74 #[.slice a xs.length c, .func (.func 75) #[] #[]] w fun e w' => e = .returned (.bool (!xs.all fun x => mayL x.l)) ∧ Below w.heap.size w w' := by
  have eg : ∀ args w, (callFunc 75 args).run Try.prog w = .ok (.enter 75 args) w := enters_of Try.func75 (by kernel_rfl) rfl
  haveI : Inhabited { x : Lv // Lv.At w x } := ⟨⟨⟨t0, [], none, 0, [], t0⟩, Row.nil _ _⟩⟩
  cases hts : xs with
  | nil => exact (hasL_nil a c _ w).mono fun _ _ ⟨h1, h2⟩ => ⟨by rw [h1]; rfl, by rw [h2]; exact Below.refl _ _⟩
  | cons k1 kr =>
    rw [← hts]
    have h0 : 0 < xs.length := by rw [hts]; simp
    obtain ⟨B, O, rfl⟩ := hx.addr h0
    have few := hx.few
    have hlen : (withAt (Lv.At w) xs ax).length = xs.length := by
      have := congrArg List.length (withAt_val (Lv.At w) xs ax)
      simpa using this
    have := AnyQ.slices_ContainsFunc Try.hasL 10 Try.isAgg80 Try.sizeOf80 (fun x : { x : Lv // Lv.At w x } => lv x.1) (fun x => lK.len x.1) (fun x => !mayL x.1.l) 75 #[] eg B O xs.length c (withAt (Lv.At w) xs ax) w
      (fun W x hW => (mayLay1_at x.1 W (x.2.below hW (Nat.le_refl _))).mono fun _ _ ⟨h1, h2⟩ => ⟨h1, hW.trans (h2.mono hW.size)⟩) (by omega) (by omega)
      (hx.lt h0) (withAt_cells ax hx)
    refine this.mono fun e w' ⟨h1, h2⟩ => ⟨?_, h2⟩
    rw [h1, ← hlen, List.take_length, any_not (fun x : { x : Lv // Lv.At w x } => mayL x.1.l), withAt_all (Lv.At w) (fun x => mayL x.l)]

set_option maxHeartbeats 2000000 in
theorem mayLay_at (x : Rv) (w : World) (hx : Rv.At w x) : Calls Try.prog 43 #[rval x] w fun e w' => e = .returned (.bool (mayR x.r)) ∧ Below w.heap.size w w' := by
  have hall : (x.body.map Lv.l).all mayL = x.body.all fun x => mayL x.l := by rw [List.all_map]; rfl
  have few := hx.body.few
  obtain ⟨⟨v1, ⟨a1, b1, c1⟩⟩, p, ad, cap, ts, ⟨v2, ⟨a2, b2, c2⟩⟩, ba, bc, ls⟩ := x
  obtain ⟨hx1, hx2, hx3⟩ := hx
  simp only at hx1 hx2 hx3 few hall
  have hA := fun W => mayBe_at ⟨v1, ⟨a1, b1, c1⟩⟩ W
  have hB := fun W => mayBe_at ⟨v2, ⟨a2, b2, c2⟩⟩ W
  have hC := fun W (h : Below w.heap.size w W) => mayAtom_at p ad cap ts W (hx1.below h (Nat.le_refl _))
  have hD := fun W (h : Below w.heap.size w W) => hasL_at ba bc ls W (hx2.below h (Nat.le_refl _)) (fun l hl => (hx3 l hl).below h (Nat.le_refl _))
  have hd : decide (ls.length ≤ 5) = !decide ((5 : Int) < (ls.length : Int)) := by rw [Bool.eq_iff_iff]; simp; omega
  unfold mayR Rv.r
  simp only [List.length_map]
  rw [hall, hd]
  clear hall hx1 hx2 hx3 hd
  generalize mayT ⟨v1, ⟨a1, b1, c1⟩⟩ = m1 at *
  generalize mayT ⟨v2, ⟨a2, b2, c2⟩⟩ = m2 at *
  generalize mayA p ts = m3 at *
  generalize (ls.all fun x => mayL x.l) = m4 at *
  go_enter Try.func43, Try.ntmps43
  go_wp2_with fail
  refine (hA _).mono ?_; rintro e w1 ⟨rfl, hg1⟩
  have hb1 := Below.then (below_alloc w _) hg1.below
  have H1 := below_heap hg1.below (heap_alloc_new w _)
  clear hg1 hA
  have d6 := heap_cell H1 6; have d7 := heap_cell H1 7; have d8 := heap_cell H1 8; have d9 := heap_cell H1 9
  simp at d6 d7 d8 d9
  cases m1
  · go_wp2_with fail
    go_ret
    exact ⟨ret_bool (by simp), hb1⟩
  · go_wp2_with fail
    refine (hB _).mono ?_; rintro e w2 ⟨rfl, hg2⟩
    have hb2 := Below.then hb1 hg2.below
    have H2 := below_heap hg2.below H1
    clear hg2 hB d6 d7 d8 d9
    have d4 := heap_cell H2 4; have d5 := heap_cell H2 5
    simp at d4 d5
    cases m2
    · go_wp2_with fail
      go_ret
      exact ⟨ret_bool (by simp), hb2⟩
    · go_wp2_with fail
      refine (hC _ hb2).mono ?_; rintro e w3 ⟨rfl, hb3⟩
      have H3 := below_heap hb3 H2
      have hb3' := Below.then hb2 hb3
      have d10 := heap_cell H3 10
      simp at d10
      clear d4 d5 hC H1 H2
      cases m3
      · go_wp2_with fail
        go_ret
        exact ⟨ret_bool (by simp), hb3'⟩
      · by_cases hl : (5 : Int) < (ls.length : Int)
        · go_wp2_with fail
          go_ret
          exact ⟨ret_bool (by simp [hl]), hb3'⟩
        · go_wp2_with fail
          refine (hD _ hb3').mono ?_; rintro e w4 ⟨rfl, hb4⟩
          go_wp2_with fail
          go_ret
          exact ⟨ret_bool (by simp; omega), Below.then hb3' hb4⟩

set_option maxHeartbeats 1000000 in
theorem encode1_at (x : Rv) (w : World) (hx : Rv.At w x) : Calls Try.prog 42 #[rval x] w fun e w' => e = .returned (.bool (!mayR x.r)) ∧ Below w.heap.size w w' := by
  have hL := fun W (h : Below w.heap.size w W) => mayLay_at x W (hx.below h (Nat.le_refl _))
  generalize mayR x.r = m at *
  obtain ⟨⟨v1, ⟨a1, b1, c1⟩⟩, p, ad, cap, ts, ⟨v2, ⟨a2, b2, c2⟩⟩, ba, bc, ls⟩ := x
  go_enter Try.func42, Try.ntmps42
  go_wp2_with fail
  refine (hL _ (below_alloc w _)).mono ?_; rintro e w1 ⟨rfl, hb1⟩
  go_wp2_with fail
  go_ret
  exact ⟨rfl, Below.then (below_alloc w _) hb1⟩

theorem hasR_at (a : Option Addr) (c : Nat) (xs : List Rv) (w : World) (hx : Row rK w a c xs) (ax : ∀ x ∈ xs, Rv.At w x) :
    Calls Try.prog 41 #[.slice a xs.length c, .func (.func 42) #[] #[]] w fun e w' => e = .returned (.bool (!xs.all fun x => mayR x.r)) ∧ Below w.heap.size w w' := by
  have eg : ∀ args w, (callFunc 42 args).run Try.prog w = .ok (.enter 42 args) w := enters_of Try.func42 (by kernel_rfl) rfl
  haveI : Inhabited { x : Rv // Rv.At w x } := ⟨⟨⟨t0, [], none, 0, [], t0, none, 0, []⟩, Row.nil _ _, Row.nil _ _, fun _ h => by simp at h⟩⟩
  cases hts : xs with
  | nil => exact (hasR_nil a c _ w).mono fun _ _ ⟨h1, h2⟩ => ⟨by rw [h1]; rfl, by rw [h2]; exact Below.refl _ _⟩
  | cons k1 kr =>
    rw [← hts]
    have h0 : 0 < xs.length := by rw [hts]; simp
    obtain ⟨B, O, rfl⟩ := hx.addr h0
    have few := hx.few
    have hlen : (withAt (Rv.At w) xs ax).length = xs.length := by
      have := congrArg List.length (withAt_val (Rv.At w) xs ax)
      simpa using this
    have := AnyQ.slices_ContainsFunc Try.hasR 11 Try.isAgg55 Try.sizeOf55 (fun x : { x : Rv // Rv.At w x } => rv x.1) (fun x => rK.len x.1) (fun x => !mayR x.1.r) 42 #[] eg B O xs.length c (withAt (Rv.At w) xs ax) w
      (fun W x hW => (encode1_at x.1 W (x.2.below hW (Nat.le_refl _))).mono fun _ _ ⟨h1, h2⟩ => ⟨h1, hW.trans (h2.mono hW.size)⟩) (by omega) (by omega)
      (hx.lt h0) (withAt_cells ax hx)
    refine this.mono fun e w' ⟨h1, h2⟩ => ⟨?_, h2⟩
    rw [h1, ← hlen, List.take_length, any_not (fun x : { x : Rv // Rv.At w x } => mayR x.1.r), withAt_all (Rv.At w) (fun x => mayR x.r)]
end Go.Proofs.Ytghhdbkgibpebaa
