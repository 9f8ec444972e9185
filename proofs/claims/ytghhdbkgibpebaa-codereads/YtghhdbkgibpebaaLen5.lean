/-
  The program lays facts, literals and rules; PutFact and Encode.
-/
import Derived.Test.YtghhdbkgibpebaaLay3R
import Derived.Test.YtghhdbkgibpebaaMay3
namespace Go.Proofs.Ytghhdbkgibpebaa
open Go.RowKit Go.Sort

def LIn (x : Lt) : Prop := KIn x.by_.k ∧ KIn x.at_.k ∧ ∀ t ∈ x.args, KIn t.k
def RIn (x : Ru) : Prop := KIn x.home.k ∧ KIn x.to_.k ∧ (∀ t ∈ x.args, KIn t.k) ∧ ∀ l ∈ x.body, LIn l
theorem ArgsAt.row {w : World} {a : Option Addr} {c : Nat} {ks : List K} (h : ArgsAt w a c ks) : Row kK w a c ks := ⟨h.room, h.few, h.void, h.cells⟩
theorem le_of_prefix {l m r : List UInt8} {N : Nat} (h : (l ++ r).length ≤ N) (e : ∃ s, r = m ++ s) : (l ++ m).length ≤ N := by
  obtain ⟨s, rfl⟩ := e
  simp only [List.length_append] at h ⊢; omega

set_option maxRecDepth 100000 in
set_option maxHeartbeats 4000000 in
theorem appendFact5_at (w0 : World) (v : Value) (l : List UInt8) (x : Fv) (w : World) (hx : Fv.At w0 x) (hi : ∀ k ∈ x.ks, KIn k) (hown : OwnB w w0.heap.size v l) (hw : Below w0.heap.size w0 w) (hr : (l ++ factB x.f).length ≤ 140737488355328) :
    Calls Try.prog 31 #[v, x.val] w fun e w' => ∃ v', e = .returned v' ∧ OwnB w' w0.heap.size v' (l ++ factB x.f) ∧ Grows w0.heap.size w w' := by
  obtain ⟨x1, x2, x3, xa, xc, xk⟩ := x
  have hx : ArgsAt w0 xa xc xk := hx
  simp only at hi
  have hB : l ++ factB (Fv.f ⟨x1, x2, x3, xa, xc, xk⟩) = l ++ textB x1 ++ textB x2 ++ textB x3 ++ listB constB xk := by simp [factB, Fv.f, List.append_assoc]
  rw [hB] at hr ⊢
  have hr3 : (l ++ textB x1 ++ textB x2 ++ textB x3).length ≤ 140737488355328 := by simp only [List.length_append] at hr ⊢; omega
  have hr2 : (l ++ textB x1 ++ textB x2).length ≤ 140737488355328 := by simp only [List.length_append] at hr3 ⊢; omega
  have hr1 : (l ++ textB x1).length ≤ 140737488355328 := by simp only [List.length_append] at hr2 ⊢; omega
  have hT := fun (v : Value) (l s : List UInt8) (W : World) (h : OwnB W w0.heap.size v l) (hb : w0.heap.size ≤ W.heap.size) (hr : (l ++ textB s).length ≤ 140737488355328) => appendText5_at w0.heap.size v l s W h hb hr
  have hL := fun (v : Value) (l : List UInt8) (W : World) (h : OwnB W w0.heap.size v l) (hb : Below w0.heap.size w0 W) (hr : (l ++ listB constB xk).length ≤ 140737488355328) =>
    appendListConst_at w0 v l xa xc xk W hx.row (fun k hk v l W h hb hr => appendConst5_at w0.heap.size v l k W h hb.size (hi k hk) hr) h hb hr
  go_enter Try.func31, Try.ntmps31
  go_wp2_with fail
  have B0 := below_alloc w (.cells #[str x1, str x2, str x3, .slice xa xk.length xc] 24)
  have H0 := heap_alloc_new w (.cells #[str x1, str x2, str x3, .slice xa xk.length xc] 24)
  have G0 := Grows.of_below B0 hw.size
  refine (hT v l x1 _ (hown.below B0) (Nat.le_trans hw.size B0.size) hr1).mono ?_; rintro e w1 ⟨v1, rfl, o1, g1⟩
  have G1 := G0.trans g1
  have H1 := g1.calm _ _ _ H0 (by decide)
  clear H0 G0 g1 B0 hown
  have b1 := heap_cell H1 1
  simp at b1
  go_wp2_with fail
  refine (hT v1 _ x2 w1 o1 (Nat.le_trans hw.size G1.size) hr2).mono ?_; rintro e w2 ⟨v2, rfl, o2, g2⟩
  have G2 := G1.trans g2
  have H2 := g2.calm _ _ _ H1 (by decide)
  clear H1 G1 g2 b1
  have b2 := heap_cell H2 2
  simp at b2
  go_wp2_with fail
  refine (hT v2 _ x3 w2 o2 (Nat.le_trans hw.size G2.size) hr3).mono ?_; rintro e w3 ⟨v3, rfl, o3, g3⟩
  have G3 := G2.trans g3
  have H3 := g3.calm _ _ _ H2 (by decide)
  clear H2 G2 g3 b2
  have b3 := heap_cell H3 3
  simp at b3
  go_wp2_with fail
  refine (hL v3 _ w3 o3 (hw.trans G3.below) hr).mono ?_; rintro e w4 ⟨v4, rfl, o4, g4⟩
  go_wp2_with fail
  go_ret
  exact ⟨v4, rfl, o4, G3.trans g4⟩

set_option maxRecDepth 100000 in
set_option maxHeartbeats 4000000 in
theorem appendLiteral5_at (w0 : World) (v : Value) (l : List UInt8) (x : Lv) (w : World) (hx : Lv.At w0 x) (hi : LIn x.l) (hown : OwnB w w0.heap.size v l) (hw : Below w0.heap.size w0 w) (hr : (l ++ litB x.l).length ≤ 140737488355328) :
    Calls Try.prog 80 #[v, lval x] w fun e w' => ∃ v', e = .returned v' ∧ OwnB w' w0.heap.size v' (l ++ litB x.l) ∧ Grows w0.heap.size w w' := by
  obtain ⟨⟨v1, ⟨a1, b1, c1⟩⟩, p, ad, cap, ts, ⟨v2, ⟨a2, b2, c2⟩⟩⟩ := x
  have hx : Row tK w0 ad cap ts := hx
  obtain ⟨i1, i2, i3⟩ := hi
  simp only [Lv.l] at i1 i2 i3
  have hB : l ++ litB (Lv.l ⟨⟨v1, ⟨a1, b1, c1⟩⟩, p, ad, cap, ts, ⟨v2, ⟨a2, b2, c2⟩⟩⟩) = l ++ termB ⟨v1, ⟨a1, b1, c1⟩⟩ ++ textB p ++ listB termB ts ++ termB ⟨v2, ⟨a2, b2, c2⟩⟩ := by simp [litB, Lv.l, List.append_assoc]
  rw [hB] at hr ⊢
  clear hB
  have hr3 : (l ++ termB ⟨v1, ⟨a1, b1, c1⟩⟩ ++ textB p ++ listB termB ts).length ≤ 140737488355328 := by simp only [List.length_append] at hr ⊢; omega
  have hr2 : (l ++ termB ⟨v1, ⟨a1, b1, c1⟩⟩ ++ textB p).length ≤ 140737488355328 := by simp only [List.length_append] at hr3 ⊢; omega
  have hr1 : (l ++ termB ⟨v1, ⟨a1, b1, c1⟩⟩).length ≤ 140737488355328 := by simp only [List.length_append] at hr2 ⊢; omega
  have hT := fun (v : Value) (l s : List UInt8) (W : World) (h : OwnB W w0.heap.size v l) (hb : w0.heap.size ≤ W.heap.size) (hr : (l ++ textB s).length ≤ 140737488355328) => appendText5_at w0.heap.size v l s W h hb hr
  have hM := fun (v : Value) (l : List UInt8) (t : Tm) (W : World) (h : OwnB W w0.heap.size v l) (hb : w0.heap.size ≤ W.heap.size) (hk : KIn t.k) (hr : (l ++ termB t).length ≤ 140737488355328) => appendTerm5_at w0.heap.size v l t W h hb hk hr
  have hL := fun (v : Value) (l : List UInt8) (W : World) (h : OwnB W w0.heap.size v l) (hb : Below w0.heap.size w0 W) (hr : (l ++ listB termB ts).length ≤ 140737488355328) =>
    appendListTerm_at w0 v l ad cap ts W hx (fun k hk v l W h hb hr => appendTerm5_at w0.heap.size v l k W h hb.size (i3 k hk) hr) h hb hr
  go_enter Try.func80, Try.ntmps80
  go_wp2_with fail
  have B0 := below_alloc w (.cells #[str v1, .bool a1, .int .i64 b1, str c1, str p, .slice ad ts.length cap, str v2, .bool a2, .int .i64 b2, str c2] 80)
  have H0 := heap_alloc_new w (.cells #[str v1, .bool a1, .int .i64 b1, str c1, str p, .slice ad ts.length cap, str v2, .bool a2, .int .i64 b2, str c2] 80)
  have G0 := Grows.of_below B0 hw.size
  refine (hM v l ⟨v1, ⟨a1, b1, c1⟩⟩ _ (hown.below B0) (Nat.le_trans hw.size B0.size) i1 hr1).mono ?_; rintro e w1 ⟨y1, rfl, o1, g1⟩
  have G1 := G0.trans g1
  have H1 := g1.calm _ _ _ H0 (by decide)
  clear H0 G0 g1 B0 hown
  have d4 := heap_cell H1 4
  simp at d4
  go_wp2_with fail
  refine (hT y1 _ p w1 o1 (Nat.le_trans hw.size G1.size) hr2).mono ?_; rintro e w2 ⟨y2, rfl, o2, g2⟩
  have G2 := G1.trans g2
  have H2 := g2.calm _ _ _ H1 (by decide)
  clear H1 G1 g2 d4
  have d5 := heap_cell H2 5
  simp at d5
  go_wp2_with fail
  refine (hL y2 _ w2 o2 (hw.trans G2.below) hr3).mono ?_; rintro e w3 ⟨y3, rfl, o3, g3⟩
  have G3 := G2.trans g3
  have H3 := g3.calm _ _ _ H2 (by decide)
  clear H2 G2 g3 d5
  have d6 := heap_cell H3 6; have d7 := heap_cell H3 7; have d8 := heap_cell H3 8; have d9 := heap_cell H3 9
  simp at d6 d7 d8 d9
  go_wp2_with fail
  refine (hM y3 _ ⟨v2, ⟨a2, b2, c2⟩⟩ w3 o3 (Nat.le_trans hw.size G3.size) i2 hr).mono ?_; rintro e w4 ⟨y4, rfl, o4, g4⟩
  go_wp2_with fail
  go_ret
  exact ⟨y4, rfl, o4, G3.trans g4⟩

set_option maxRecDepth 100000 in
set_option maxHeartbeats 4000000 in
theorem appendRule5_at (w0 : World) (v : Value) (l : List UInt8) (x : Rv) (w : World) (hx : Rv.At w0 x) (hi : RIn x.r) (hown : OwnB w w0.heap.size v l) (hw : Below w0.heap.size w0 w) (hr : (l ++ ruleB x.r).length ≤ 140737488355328) :
    Calls Try.prog 45 #[v, rval x] w fun e w' => ∃ v', e = .returned v' ∧ OwnB w' w0.heap.size v' (l ++ ruleB x.r) ∧ Grows w0.heap.size w w' := by
  obtain ⟨⟨v1, ⟨a1, b1, c1⟩⟩, p, ad, cap, ts, ⟨v2, ⟨a2, b2, c2⟩⟩, ba, bc, ls⟩ := x
  obtain ⟨hx1, hx2, hx3⟩ := hx
  obtain ⟨i1, i2, i3, i4⟩ := hi
  simp only [Rv.r] at i1 i2 i3 i4 hx1 hx2 hx3
  have hB : l ++ ruleB (Rv.r ⟨⟨v1, ⟨a1, b1, c1⟩⟩, p, ad, cap, ts, ⟨v2, ⟨a2, b2, c2⟩⟩, ba, bc, ls⟩) = l ++ termB ⟨v1, ⟨a1, b1, c1⟩⟩ ++ textB p ++ listB termB ts ++ termB ⟨v2, ⟨a2, b2, c2⟩⟩ ++ listB (fun y : Lv => litB y.l) ls := by rw [listB_map litB Lv.l]; simp [ruleB, Rv.r, List.append_assoc]
  rw [hB] at hr ⊢
  clear hB
  have hr4 : (l ++ termB ⟨v1, ⟨a1, b1, c1⟩⟩ ++ textB p ++ listB termB ts ++ termB ⟨v2, ⟨a2, b2, c2⟩⟩).length ≤ 140737488355328 := by simp only [List.length_append] at hr ⊢; omega
  have hr3 : (l ++ termB ⟨v1, ⟨a1, b1, c1⟩⟩ ++ textB p ++ listB termB ts).length ≤ 140737488355328 := by simp only [List.length_append] at hr4 ⊢; omega
  have hr2 : (l ++ termB ⟨v1, ⟨a1, b1, c1⟩⟩ ++ textB p).length ≤ 140737488355328 := by simp only [List.length_append] at hr3 ⊢; omega
  have hr1 : (l ++ termB ⟨v1, ⟨a1, b1, c1⟩⟩).length ≤ 140737488355328 := by simp only [List.length_append] at hr2 ⊢; omega
  have hT := fun (v : Value) (l s : List UInt8) (W : World) (h : OwnB W w0.heap.size v l) (hb : w0.heap.size ≤ W.heap.size) (hr : (l ++ textB s).length ≤ 140737488355328) => appendText5_at w0.heap.size v l s W h hb hr
  have hM := fun (v : Value) (l : List UInt8) (t : Tm) (W : World) (h : OwnB W w0.heap.size v l) (hb : w0.heap.size ≤ W.heap.size) (hk : KIn t.k) (hr : (l ++ termB t).length ≤ 140737488355328) => appendTerm5_at w0.heap.size v l t W h hb hk hr
  have hL := fun (v : Value) (l : List UInt8) (W : World) (h : OwnB W w0.heap.size v l) (hb : Below w0.heap.size w0 W) (hr : (l ++ listB termB ts).length ≤ 140737488355328) =>
    appendListTerm_at w0 v l ad cap ts W hx1 (fun k hk v l W h hb hr => appendTerm5_at w0.heap.size v l k W h hb.size (i3 k hk) hr) h hb hr
  have hN := fun (v : Value) (l : List UInt8) (W : World) (h : OwnB W w0.heap.size v l) (hb : Below w0.heap.size w0 W) (hr : (l ++ listB (fun y : Lv => litB y.l) ls).length ≤ 140737488355328) =>
    appendListLiteral_at w0 v l ba bc ls W hx2 (fun k hk v l W h hb hr => appendLiteral5_at w0 v l k W (hx3 k hk) (i4 _ (List.mem_map_of_mem hk)) h hb hr) h hb hr
  go_enter Try.func45, Try.ntmps45
  go_wp2_with fail
  have B0 := below_alloc w (.cells #[str v1, .bool a1, .int .i64 b1, str c1, str p, .slice ad ts.length cap, str v2, .bool a2, .int .i64 b2, str c2, .slice ba ls.length bc] 55)
  have H0 := heap_alloc_new w (.cells #[str v1, .bool a1, .int .i64 b1, str c1, str p, .slice ad ts.length cap, str v2, .bool a2, .int .i64 b2, str c2, .slice ba ls.length bc] 55)
  have G0 := Grows.of_below B0 hw.size
  refine (hM v l ⟨v1, ⟨a1, b1, c1⟩⟩ _ (hown.below B0) (Nat.le_trans hw.size B0.size) i1 hr1).mono ?_; rintro e w1 ⟨y1, rfl, o1, g1⟩
  have G1 := G0.trans g1
  have H1 := g1.calm _ _ _ H0 (by decide)
  clear H0 G0 g1 B0 hown
  have d4 := heap_cell H1 4
  simp at d4
  go_wp2_with fail
  refine (hT y1 _ p w1 o1 (Nat.le_trans hw.size G1.size) hr2).mono ?_; rintro e w2 ⟨y2, rfl, o2, g2⟩
  have G2 := G1.trans g2
  have H2 := g2.calm _ _ _ H1 (by decide)
  clear H1 G1 g2 d4
  have d5 := heap_cell H2 5
  simp at d5
  go_wp2_with fail
  refine (hL y2 _ w2 o2 (hw.trans G2.below) hr3).mono ?_; rintro e w3 ⟨y3, rfl, o3, g3⟩
  have G3 := G2.trans g3
  have H3 := g3.calm _ _ _ H2 (by decide)
  clear H2 G2 g3 d5
  have d6 := heap_cell H3 6; have d7 := heap_cell H3 7; have d8 := heap_cell H3 8; have d9 := heap_cell H3 9
  simp at d6 d7 d8 d9
  go_wp2_with fail
  refine (hM y3 _ ⟨v2, ⟨a2, b2, c2⟩⟩ w3 o3 (Nat.le_trans hw.size G3.size) i2 hr4).mono ?_; rintro e w4 ⟨y4, rfl, o4, g4⟩
  have G4 := G3.trans g4
  have H4 := g4.calm _ _ _ H3 (by decide)
  clear H3 G3 g4 d6 d7 d8 d9
  have d10 := heap_cell H4 10
  simp at d10
  go_wp2_with fail
  refine (hN y4 _ w4 o4 (hw.trans G4.below) hr).mono ?_; rintro e w5 ⟨y5, rfl, o5, g5⟩
  go_wp2_with fail
  go_ret
  exact ⟨y5, rfl, o5, G4.trans g5⟩
end Go.Proofs.Ytghhdbkgibpebaa

/-
  How many bytes facts and rules that may be have at most.
-/
namespace Go.Proofs.Ytghhdbkgibpebaa
open Go.RowKit Go.Sort

theorem text_len {s : List UInt8} (h : fitsB s = true) : (textB s).length ≤ 42 := by
  unfold fitsB at h
  simp only [Bool.and_eq_true, decide_eq_true_eq] at h
  have := int_len (s.length : Int) (by omega) (by omega)
  unfold intB at this
  unfold textB
  rw [List.length_append]; omega
theorem const_len {k : K} (hk : KIn k) (h : goodB k = true) : (constB k).length ≤ 43 := by
  unfold goodB at h
  unfold constB
  obtain ⟨nm, n, s⟩ := k
  cases nm
  · simp at h
    have := text_len h.2
    simp; omega
  · have := int_len n hk.1 hk.2
    simp; omega
theorem term_len {t : Tm} (hk : KIn t.k) (h : mayT t = true) : (termB t).length ≤ 44 := by
  have h2 : zeroK t.k = true → (constB t.k).length ≤ 43 := fun h => by
    rw [(zeroK_iff _).1 h]
    decide
  unfold mayT at h
  unfold termB kindT
  cases hv : t.v.isEmpty
  · rw [hv] at h
    simp at h
    have := text_len h.1
    simp; omega
  · rw [hv] at h
    simp at h
    cases hz : zeroK t.k
    · have := const_len hk (by simpa [hz] using h)
      simp; omega
    · simp
theorem list_len {α : Type} (B : α → List UInt8) (xs : List α) (n M : Nat) (hn : xs.length ≤ n) (hM : ∀ x ∈ xs, (B x).length ≤ M) (hN : n ≤ 1000000) : (listB B xs).length ≤ 10 + n * M := by
  have h1 := int_len (xs.length : Int) (by omega) (by omega)
  have h2 : (xs.flatMap B).length ≤ xs.length * M := by
    clear hn h1
    induction xs with
    | nil => simp
    | cons x r ih =>
      have a := hM x (by simp)
      have b := ih (fun y hy => hM y (by simp [hy]))
      rw [List.flatMap_cons, List.length_append, List.length_cons, Nat.succ_mul]; omega
  have h3 : xs.length * M ≤ n * M := Nat.mul_le_mul_right _ hn
  unfold listB
  rw [List.length_append]; omega
theorem fact_len {f : F} (hk : ∀ k ∈ f.ks, KIn k) (h : okB f = true) : (factB f).length ≤ 3000 := by
  unfold okB okP at h
  simp only [Bool.and_eq_true, Bool.not_eq_true', decide_eq_false_iff_not, List.all_eq_true] at h
  obtain ⟨⟨⟨⟨h1, h2⟩, h3⟩, h4⟩, h5⟩ := h
  have a1 := text_len h1; have a2 := text_len h2; have a3 := text_len h3
  have a4 := list_len constB f.ks 48 43 (by omega) (fun k hm => const_len (hk k hm) (h5 k hm)) (by omega)
  unfold factB
  simp only [List.length_append]; omega
theorem atom_len {p : List UInt8} {ts : List Tm} (hk : ∀ t ∈ ts, KIn t.k) (h : mayA p ts = true) : (textB p).length ≤ 42 ∧ (listB termB ts).length ≤ 2122 := by
  unfold mayA at h
  simp only [Bool.and_eq_true, decide_eq_true_eq, List.all_eq_true] at h
  exact ⟨text_len h.1.1, list_len termB ts 48 44 h.1.2 (fun t hm => term_len (hk t hm) (h.2 t hm)) (by omega)⟩
theorem lit_len {x : Lt} (hk : LIn x) (h : mayL x = true) : (litB x).length ≤ 2300 := by
  unfold mayL at h
  simp only [Bool.and_eq_true] at h
  obtain ⟨⟨h1, h2⟩, h3⟩ := h
  have a1 := term_len hk.1 h1; have a2 := term_len hk.2.1 h2; have a3 := atom_len hk.2.2 h3
  unfold litB
  simp only [List.length_append]; omega
theorem rule_len {x : Ru} (hk : RIn x) (h : mayR x = true) : (ruleB x).length ≤ 14000 := by
  unfold mayR at h
  simp only [Bool.and_eq_true, decide_eq_true_eq, List.all_eq_true] at h
  obtain ⟨⟨⟨⟨h1, h2⟩, h3⟩, h4⟩, h5⟩ := h
  have a1 := term_len hk.1 h1; have a2 := term_len hk.2.1 h2; have a3 := atom_len hk.2.2.1 h3
  have a4 := list_len litB x.body 5 2300 h4 (fun t hm => lit_len (hk.2.2.2 t hm) (h5 t hm)) (by omega)
  unfold ruleB
  simp only [List.length_append]; omega
theorem prog_len {l : List Ru} (hk : ∀ r ∈ l, RIn r) (hl : l.length ≤ 768) (h : l.all mayR = true) : (progB l).length ≤ 20000000 := by
  rw [List.all_eq_true] at h
  have := list_len ruleB l 768 14000 hl (fun r hm => rule_len (hk r hm) (h r hm)) (by omega)
  unfold progB; omega

/-! the program's PutFact and Encode -/
set_option maxRecDepth 100000 in
set_option maxHeartbeats 4000000 in
theorem putFact5_at (a : Option Addr) (c : Nat) (l : List UInt8) (x : Fv) (w : World) (ha : Holds w a c l) (hx : Fv.At w x) (hi : ∀ k ∈ x.ks, KIn k) (hl : l.length ≤ 10000000000000) :
    Calls Try.prog 12 #[.slice a l.length c, x.val] w fun e w' => ∃ v', e = .returned (.tuple #[v', errno (okB x.f)]) ∧ OwnB w' w.heap.size v' (bif okB x.f then l ++ factB x.f else l) ∧ Below w.heap.size w w' := by
  have hC := fun W (h : Below w.heap.size w W) => check_at x W (hx.below h (Nat.le_refl _))
  have hA := fun (v : Value) (W : World) (ho : OwnB W w.heap.size v l) (h : Below w.heap.size w W) (hok : okB x.f = true) => appendFact5_at w v l x W hx hi ho h (by have := fact_len (f := x.f) hi hok; rw [List.length_append]; omega)
  simp only [errno] at hC ⊢
  generalize factB x.f = B at *
  generalize okB x.f = ok at *
  obtain ⟨x1, x2, x3, xa, xc, xk⟩ := x
  go_enter Try.func12, Try.ntmps12
  have B0 := below_alloc w (.cells #[str x1, str x2, str x3, .slice xa xk.length xc] 24)
  have H0 := heap_alloc_new w (.cells #[str x1, str x2, str x3, .slice xa xk.length xc] 24)
  go_wp2_with (at_builtin; refine run_ob rfl _ _ rfl rfl (OwnB.nil _ w.heap.size) l.length rfl rfl (ha.below B0) B0.size (by simp; omega) ?_)
  intro v1 w1 o1 g1
  have H1 := g1.calm _ _ _ H0 (by decide)
  have B1 := B0.trans g1.below
  clear H0 B0 g1 hx ha
  have b0 := heap_cell H1 0; have b1 := heap_cell H1 1; have b2 := heap_cell H1 2; have b3 := heap_cell H1 3
  simp at b0 b1 b2 b3
  go_wp2_with fail
  refine (hC _ B1).mono ?_; rintro e w2 ⟨rfl, hb2⟩
  have o2 := o1.below hb2
  have H2 := below_heap hb2 H1
  have B2 := B1.trans (hb2.mono B1.size)
  clear b0 b1 b2 b3 o1 H1 B1 hb2 hC
  have b0 := heap_cell H2 0; have b1 := heap_cell H2 1; have b2 := heap_cell H2 2; have b3 := heap_cell H2 3
  simp at b0 b1 b2 b3
  cases ok
  · go_wp2_with fail
    go_ret2
    exact ⟨v1, rfl, o2, B2⟩
  · go_wp2_with fail
    refine (hA v1 w2 o2 B2 (by trivial)).mono ?_; rintro e w3 ⟨v3, rfl, o3, g3⟩
    go_wp2_with fail
    go_ret2
    exact ⟨v3, rfl, o3, B2.trans g3.below⟩

/-- what Encode answers -/
def encE (n : Nat) (ok : Bool) : Int := if 768 < n then 3 else bif ok then 0 else 50
set_option maxRecDepth 100000 in
set_option maxHeartbeats 4000000 in
theorem encode5_at (a : Option Addr) (c : Nat) (xs : List Rv) (w : World) (hx : Row rK w a c xs) (ax : ∀ x ∈ xs, Rv.At w x) (hi : ∀ x ∈ xs, RIn x.r) :
    Calls Try.prog 21 #[.slice a xs.length c] w fun e w' => ∃ v', e = .returned (.tuple #[v', .int .i64 (encE xs.length (xs.all fun x => mayR x.r))]) ∧ OwnB w' w.heap.size v' (if encE xs.length (xs.all fun x => mayR x.r) = 0 then progB (xs.map Rv.r) else []) ∧ Below w.heap.size w w' := by
  have few := hx.few
  have hP : progB (xs.map Rv.r) = listB (fun y : Rv => ruleB y.r) xs := by unfold progB; rw [listB_map ruleB Rv.r]
  have hall : (xs.map Rv.r).all mayR = xs.all fun x => mayR x.r := by rw [List.all_map]; rfl
  have hlen := fun (h1 : xs.length ≤ 768) (h2 : (xs.all fun x => mayR x.r) = true) => prog_len (l := xs.map Rv.r) (fun r hr => by obtain ⟨x, hx, rfl⟩ := List.mem_map.1 hr; exact hi x hx) (by simpa using h1) (by rw [hall]; exact h2)
  rw [hP] at hlen ⊢
  have hH := hasR_at a c xs w hx ax
  have hL := fun (W : World) (h : Below w.heap.size w W) (h1 : xs.length ≤ 768) (h2 : (xs.all fun x => mayR x.r) = true) => appendListRule_at w (.slice none 0 0) [] a c xs W hx (fun k hk v l W h hb hr => appendRule5_at w v l k W (ax k hk) (hi k hk) h hb hr) (OwnB.nil W _) h (by have := hlen h1 h2; rw [List.nil_append]; omega)
  clear hlen hall hP
  generalize listB (fun y : Rv => ruleB y.r) xs = B at *
  generalize (xs.all fun x => mayR x.r) = ok at *
  by_cases hb : (768 : Int) < (xs.length : Int)
  · have e1 : encE xs.length ok = 3 := by unfold encE; rw [if_pos (by omega)]
    rw [e1]
    clear hL
    go_enter Try.func21, Try.ntmps21
    go_wp2_with fail
    go_ret2
    exact ⟨_, rfl, OwnB.nil _ _, Below.refl _ _⟩
  · cases ok
    · have e1 : encE xs.length false = 50 := by unfold encE; rw [if_neg (by omega)]; rfl
      rw [e1]
      go_enter Try.func21, Try.ntmps21
      go_wp2_with fail
      refine hH.mono ?_; rintro e w1 ⟨rfl, hb1⟩
      go_wp2_with fail
      go_ret2
      exact ⟨_, rfl, OwnB.nil _ _, hb1⟩
    · have e1 : encE xs.length true = 0 := by unfold encE; rw [if_neg (by omega)]; rfl
      rw [e1]
      go_enter Try.func21, Try.ntmps21
      go_wp2_with fail
      refine hH.mono ?_; rintro e w1 ⟨rfl, hb1⟩
      go_wp2_with fail
      refine (hL w1 hb1 (by omega) (by trivial)).mono ?_; rintro e w2 ⟨v2, rfl, o2, g2⟩
      go_wp2_with fail
      go_ret2
      exact ⟨v2, rfl, by simpa using o2, hb1.trans g2.below⟩
end Go.Proofs.Ytghhdbkgibpebaa
