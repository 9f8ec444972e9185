/-
  Whether two terms, two lists of terms are the same: what slices.Equal answers.
-/
import Derived.Deep.QuietTactic
import Derived.BigQuiet
import Derived.Deep.LoopGhost
import Derived.Test.YtghhdbkgibpebaaTk
import Derived.Test.YtghhdbkgibpebaaOrd
namespace Go.Proofs.Ytghhdbkgibpebaa
open Go.RowKit Go.Sort

def sameT (t u : Tm) : Bool := (t.v == u.v) && ((t.k.num == u.k.num) && ((t.k.n == u.k.n) && (t.k.s == u.k.s)))
theorem sameT_iff (t u : Tm) : sameT t u = true ↔ t = u := by
  obtain ⟨v, ⟨a, b, c⟩⟩ := t; obtain ⟨v', ⟨a', b', c'⟩⟩ := u
  simp [sameT]
def sameK (k k' : K) : Bool := (k.num == k'.num) && ((k.n == k'.n) && (k.s == k'.s))
theorem beq_str (a b : List UInt8) : ((⟨a.toArray⟩ : ByteArray).toList == (⟨b.toArray⟩ : ByteArray).toList) = (a == b) := by rw [ByteArray.toList_eq, ByteArray.toList_eq]
theorem eqConst (k k' : K) (d : Nat) (w : World) : (Op.equalIn (d + 2) 49 (kval k) (kval k')).run Try.prog w = .ok (sameK k k') w := by
  rw [run_equalIn_struct w (d + 1) 49 _ _ (by kernel_rfl) (by kernel_rfl)]
  simp only [Program.fieldsOf, Try.underlying49, Op.eqFields]
  simp [part, Try.isAgg4, Try.isAgg3, Try.isAgg9, run_equalIn_bool' w d _ _ _ Try.underlying4, run_equalIn_int w d _ _ _ _ _ Try.underlying3, run_equalIn_string w d _ _ _ Try.underlying9, sameK]
  by_cases h1 : k.num = k'.num <;> by_cases h2 : k.n = k'.n <;> by_cases h3 : k.s = k'.s <;> simp [h1, h2, h3]
theorem eqTerm (t u : Tm) (w : World) : (Op.equalIn 10000 51 (tval t) (tval u)).run Try.prog w = .ok (sameT t u) w := by
  rw [run_equalIn_struct w 9999 51 _ _ (by kernel_rfl) (by kernel_rfl)]
  simp only [Program.fieldsOf, Try.underlying51, Op.eqFields]
  have hc := eqConst t.k u.k 9997 w
  simp [part, Try.isAgg9, Try.isAgg49, Try.sizeOf49, run_equalIn_string w 9998 _ _ _ Try.underlying9, hc]
  by_cases h1 : t.v = u.v <;> cases h2 : sameK t.k u.k <;> simp [sameT, h1] <;> simpa [sameK] using h2
def sameTs : List Tm → List Tm → Bool
  | [], [] => true
  | t :: r, u :: s => sameT t u && sameTs r s
  | _, _ => false
theorem sameTs_iff : ∀ ts us : List Tm, sameTs ts us = true ↔ ts = us
  | [], [] => by simp [sameTs]
  | t :: r, u :: s => by simp [sameTs, sameT_iff, sameTs_iff r s]
  | [], _ :: _ => by simp [sameTs]
  | _ :: _, [] => by simp [sameTs]
theorem sameTs_no {ts us : List Tm} (h : ts ≠ us) : sameTs ts us = false := by
  rw [Bool.eq_false_iff]; exact fun h' => h ((sameTs_iff _ _).1 h')

set_option maxHeartbeats 2000000 in
theorem equalT_at (a a' : Option Addr) (c c' : Nat) (xs ys : List Tm) (w : World) (hx : Row tK w a c xs) (hy : Row tK w a' c' ys) :
    Calls Try.prog 52 #[.slice a xs.length c, .slice a' ys.length c'] w fun e w' => e = .returned (.bool (sameTs xs ys)) ∧ Grew w w' := by
  have mixed : Try.prog.follows .mixedOrders = true := by kernel_rfl
  have b1 := hx.few; have b2 := hy.few
  by_cases hl : xs.length = ys.length
  rotate_left
  · have q0 : ((xs.length : Int) != (ys.length : Int)) = true := by simp; omega
    have hno : sameTs xs ys = false := sameTs_no fun h => hl (by rw [h])
    rw [hno]
    go_enter Try.func52, Try.ntmps52
    go_wp2_with fail
    go_ret
    exact ⟨rfl, Grew.refl _⟩
  · have q0 : ((xs.length : Int) != (ys.length : Int)) = false := by simp; omega
    have Hl := hideP hl; clear hl
    go_enter Try.func52, Try.ntmps52
    go_wp2_with fail
    go_loopw [5, 13] (fun _ v wr => ∃ k : Nat, v = .int .i64 (k : Int) ∧ k ≤ xs.length ∧ Hid (∀ j (h1 : j < xs.length) (h2 : j < ys.length), j < k → xs[j] = ys[j]) ∧ Grew w wr) (fun _ v _ => xs.length - (intOf v).toNat)
    case atStart => exact ⟨0, rfl, by omega, fun j _ _ h => absurd h (by omega), Grew.refl _⟩
    case round =>
      obtain ⟨k, rfl, hk, hev, hg⟩ := hrel
      by_cases hlt : k < xs.length
      · have q2 : (k : Int) < (xs.length : Int) := by omega
        have hlt' : k < ys.length := by have := Hl.out; omega
        have q3 : (k : Int) < (ys.length : Int) := by omega
        obtain ⟨P1, O1, rfl⟩ := hx.addr (Nat.lt_of_le_of_lt (Nat.zero_le _) hlt)
        obtain ⟨P2, O2, rfl⟩ := hy.addr (Nat.lt_of_le_of_lt (Nat.zero_le _) hlt')
        have r1 := (hx.below hg.below (Nat.le_refl _)).range k hlt
        have r2 := (hy.below hg.below (Nat.le_refl _)).range k hlt'
        have hev' : Hid (xs[k]'hlt = ys[k]'hlt' → ∀ j (h1 : j < xs.length) (h2 : j < ys.length), j < k + 1 → xs[j] = ys[j]) := fun h j h1 h2 hj => by
          by_cases e : j = k
          · subst e; exact h
          · exact hev.out j h1 h2 (by omega)
        have hno : Hid (xs[k]'hlt ≠ ys[k]'hlt' → sameTs xs ys = false) := fun h => sameTs_no fun he => h (by simp only [he])
        generalize (xs[k]'hlt) = p at *
        generalize (ys[k]'hlt') = q at *
        obtain ⟨v, ⟨A, B, C⟩⟩ := p; obtain ⟨v', ⟨A', B', C'⟩⟩ := q
        have a1 := r1 0 _ rfl; have a2 := r1 1 _ rfl; have a3 := r1 2 _ rfl; have a4 := r1 3 _ rfl
        have d1 := r2 0 _ rfl; have d2 := r2 1 _ rfl; have d3 := r2 2 _ rfl; have d4 := r2 3 _ rfl
        change wr.cell? ⟨P1, O1 + k * 4, none⟩ = _ at a1
        change wr.cell? ⟨P1, O1 + k * 4 + 1, none⟩ = _ at a2
        change wr.cell? ⟨P1, O1 + k * 4 + 2, none⟩ = _ at a3
        change wr.cell? ⟨P1, O1 + k * 4 + 3, none⟩ = _ at a4
        change wr.cell? ⟨P2, O2 + k * 4, none⟩ = _ at d1
        change wr.cell? ⟨P2, O2 + k * 4 + 1, none⟩ = _ at d2
        change wr.cell? ⟨P2, O2 + k * 4 + 2, none⟩ = _ at d3
        change wr.cell? ⟨P2, O2 + k * 4 + 3, none⟩ = _ at d4
        have hq := fun W => eqTerm ⟨v, ⟨A, B, C⟩⟩ ⟨v', ⟨A', B', C'⟩⟩ W
        cases hs : sameT ⟨v, ⟨A, B, C⟩⟩ ⟨v', ⟨A', B', C'⟩⟩
        · have hno' := hideP (hno.out fun e => by rw [(sameT_iff _ _).2 e] at hs; cases hs)
          rw [hs] at hq
          go_wp2_with fail
          go_quiet (fail)
          go_wp2_with fail
          go_ret
          exact ⟨ret_bool hno'.out.symm, hg.trans (Grew.drewN wr nq)⟩
        · have hev'' := hideP (hev'.out ((sameT_iff _ _).1 hs))
          rw [hs] at hq
          go_wp2_with fail
          go_quiet (fail)
          go_wp2_with fail
          exact ⟨⟨k + 1, by simp, by omega, hev'', hg.trans (Grew.drewN wr nq)⟩, by simp [intOf]; omega⟩
      · have q2 : ¬ (k : Int) < (xs.length : Int) := by omega
        have hyes : Hid (sameTs xs ys = true) := (sameTs_iff _ _).2 (List.ext_getElem Hl.out fun j h1 h2 => hev.out j h1 h2 (by omega))
        go_wp2_with fail
        go_ret
        exact ⟨ret_bool hyes.out.symm, hg⟩
end Go.Proofs.Ytghhdbkgibpebaa

/-
  Whether two literals, two rules are the same: what the program answers.
-/
namespace Go.Proofs.Ytghhdbkgibpebaa
open Go.RowKit Go.Sort

def sameL (x y : Lt) : Bool := sameT x.by_ y.by_ && ((x.pred == y.pred) && (sameTs x.args y.args && sameT x.at_ y.at_))
theorem sameL_iff (x y : Lt) : sameL x y = true ↔ x = y := by
  obtain ⟨a, b, c, d⟩ := x; obtain ⟨a', b', c', d'⟩ := y
  simp [sameL, sameT_iff, sameTs_iff]
def sameLs : List Lt → List Lt → Bool
  | [], [] => true
  | t :: r, u :: s => sameL t u && sameLs r s
  | _, _ => false
theorem sameLs_iff : ∀ ts us : List Lt, sameLs ts us = true ↔ ts = us
  | [], [] => by simp [sameLs]
  | t :: r, u :: s => by simp [sameLs, sameL_iff, sameLs_iff r s]
  | [], _ :: _ => by simp [sameLs]
  | _ :: _, [] => by simp [sameLs]
theorem sameLs_no {ts us : List Lt} (h : ts ≠ us) : sameLs ts us = false := by
  rw [Bool.eq_false_iff]; exact fun h' => h ((sameLs_iff _ _).1 h')
def sameR (x y : Ru) : Bool := sameT x.home y.home && ((x.pred == y.pred) && (sameTs x.args y.args && (sameT x.to_ y.to_ && sameLs x.body y.body)))
theorem sameR_iff (x y : Ru) : sameR x y = true ↔ x = y := by
  obtain ⟨a, b, c, d, e⟩ := x; obtain ⟨a', b', c', d', e'⟩ := y
  simp [sameR, sameT_iff, sameTs_iff, sameLs_iff]

set_option maxHeartbeats 4000000 in
theorem sameLiteral_at (x y : Lv) (w : World) (hx : Lv.At w x) (hy : Lv.At w y) : Calls Try.prog 54 #[lval x, lval y] w fun e w' => e = .returned (.bool (sameL x.l y.l)) ∧ Grew w w' := by
  obtain ⟨⟨v1, ⟨a1, b1, c1⟩⟩, p, ad, cap, ts, ⟨v2, ⟨a2, b2, c2⟩⟩⟩ := x
  obtain ⟨⟨v3, ⟨a3, b3, c3⟩⟩, p', ad', cap', ts', ⟨v4, ⟨a4, b4, c4⟩⟩⟩ := y
  have hx : Row tK w ad cap ts := hx
  have hy : Row tK w ad' cap' ts' := hy
  have hE := fun W (h : Grew w W) => equalT_at ad ad' cap cap' ts ts' W (hx.below h.below (Nat.le_refl _)) (hy.below h.below (Nat.le_refl _))
  have q1 := fun W => eqTerm ⟨v1, ⟨a1, b1, c1⟩⟩ ⟨v3, ⟨a3, b3, c3⟩⟩ W
  have q2 := fun W => eqTerm ⟨v2, ⟨a2, b2, c2⟩⟩ ⟨v4, ⟨a4, b4, c4⟩⟩ W
  show Calls _ _ _ _ fun e w' => e = .returned (.bool (sameT ⟨v1, ⟨a1, b1, c1⟩⟩ ⟨v3, ⟨a3, b3, c3⟩⟩ && ((p == p') && (sameTs ts ts' && sameT ⟨v2, ⟨a2, b2, c2⟩⟩ ⟨v4, ⟨a4, b4, c4⟩⟩)))) ∧ Grew w w'
  generalize sameT ⟨v1, ⟨a1, b1, c1⟩⟩ ⟨v3, ⟨a3, b3, c3⟩⟩ = s1 at *
  generalize sameT ⟨v2, ⟨a2, b2, c2⟩⟩ ⟨v4, ⟨a4, b4, c4⟩⟩ = s2 at *
  generalize sameTs ts ts' = s3 at *
  have G0 : ∀ o o' : Obj, Grew w ((w.alloc o).alloc o') := fun o o' => ((Grew.refl w).allocs o).allocs o'
  cases s1
  · go_enter Try.func54, Try.ntmps54
    go_wp2_with fail
    go_ret
    exact ⟨rfl, G0 _ _⟩
  · by_cases hp : p = p'
    · subst hp
      go_enter Try.func54, Try.ntmps54
      go_wp2_with fail
      refine (hE _ (G0 _ _)).mono ?_; rintro e w1 ⟨rfl, g1⟩
      have H1 := below_heap g1.below (below_heap (below_alloc _ _) (heap_alloc_new w (.cells #[str v1, .bool a1, .int .i64 b1, str c1, str p, .slice ad ts.length cap, str v2, .bool a2, .int .i64 b2, str c2] 80)))
      have H2 := below_heap g1.below (heap_alloc_new (w.alloc (.cells #[str v1, .bool a1, .int .i64 b1, str c1, str p, .slice ad ts.length cap, str v2, .bool a2, .int .i64 b2, str c2] 80)) (.cells #[str v3, .bool a3, .int .i64 b3, str c3, str p, .slice ad' ts'.length cap', str v4, .bool a4, .int .i64 b4, str c4] 80))
      rw [show (w.alloc (.cells #[str v1, .bool a1, .int .i64 b1, str c1, str p, .slice ad ts.length cap, str v2, .bool a2, .int .i64 b2, str c2] 80)).heap.size = w.heap.size + 1 by simp] at H2
      have G1 := (G0 _ _).trans g1
      clear hE g1 hx hy
      have d6 := heap_cell H1 6; have d7 := heap_cell H1 7; have d8 := heap_cell H1 8; have d9 := heap_cell H1 9
      have f6 := heap_cell H2 6; have f7 := heap_cell H2 7; have f8 := heap_cell H2 8; have f9 := heap_cell H2 9
      simp at d6 d7 d8 d9 f6 f7 f8 f9
      cases s3
      · go_wp2_with fail
        go_ret
        exact ⟨ret_bool (by simp), G1⟩
      · go_wp2_with fail
        go_ret
        exact ⟨ret_bool (by simp), G1⟩
    · have hp' : (p == p') = false := by simpa using hp
      go_enter Try.func54, Try.ntmps54
      go_wp2_with fail
      go_ret
      exact ⟨ret_bool (by simp [hp']), G0 _ _⟩
end Go.Proofs.Ytghhdbkgibpebaa

/-
  Whether two bodies, two rules, two facts are the same: what the program answers.
-/
namespace Go.Proofs.Ytghhdbkgibpebaa
open Go.RowKit Go.Sort

set_option maxRecDepth 100000 in
set_option maxHeartbeats 4000000 in
theorem equalL_at (a a' : Option Addr) (c c' : Nat) (xs ys : List Lv) (w : World) (hx : Row lK w a c xs) (hy : Row lK w a' c' ys) (ax : ∀ x ∈ xs, Lv.At w x) (ay : ∀ y ∈ ys, Lv.At w y) :
    Calls Try.prog 53 #[.slice a xs.length c, .slice a' ys.length c', .func (.func 54) #[] #[]] w fun e w' => e = .returned (.bool (sameLs (xs.map Lv.l) (ys.map Lv.l))) ∧ Below w.heap.size w w' := by
  have eg : ∀ args w, (callFunc 54 args).run Try.prog w = .ok (.enter 54 args) w := enters_of Try.func54 (by kernel_rfl) rfl
  have hC := fun (p q : Lv) (W : World) (hp : Lv.At W p) (hq : Lv.At W q) => sameLiteral_at p q W hp hq
  have b1 := hx.few; have b2 := hy.few
  have iN : (Try.prog.info? 80).map (·.size) = some 10 := by kernel_rfl
  by_cases hl : xs.length = ys.length
  rotate_left
  · have q0 : ((xs.length : Int) != (ys.length : Int)) = true := by simp; omega
    have hno : sameLs (xs.map Lv.l) (ys.map Lv.l) = false := sameLs_no fun h => hl (by have := congrArg List.length h; simpa using this)
    rw [hno]
    go_enter Try.func53, Try.ntmps53
    go_wp2_with fail
    go_ret
    exact ⟨rfl, Below.refl _ _⟩
  · have q0 : ((xs.length : Int) != (ys.length : Int)) = false := by simp; omega
    have Hl := hideP hl; clear hl
    go_enter Try.func53, Try.ntmps53
    go_wp2_with fail
    go_loopw [7, 8, 9, 17] (fun _ _ _ v wr => ∃ k : Nat, v = .int .i64 (k : Int) ∧ k ≤ xs.length ∧ Hid (∀ j (h1 : j < xs.length) (h2 : j < ys.length), j < k → xs[j].l = ys[j].l) ∧ Below w.heap.size w wr) (fun _ _ _ v _ => xs.length - (intOf v).toNat)
    case atStart => exact ⟨0, rfl, by omega, fun j _ _ h => absurd h (by omega), Below.refl _ _⟩
    case round =>
      obtain ⟨k, rfl, hk, hev, hg⟩ := hrel
      by_cases hlt : k < xs.length
      · have q2 : (k : Int) < (xs.length : Int) := by omega
        have hlt' : k < ys.length := by have := Hl.out; omega
        have q3 : (k : Int) < (ys.length : Int) := by omega
        obtain ⟨P1, O1, rfl⟩ := hx.addr (Nat.lt_of_le_of_lt (Nat.zero_le _) hlt)
        obtain ⟨P2, O2, rfl⟩ := hy.addr (Nat.lt_of_le_of_lt (Nat.zero_le _) hlt')
        have r1 : wr.rangeAt P1 (O1 + k * 10) (lv (xs[k]'hlt)) := (hx.below hg (Nat.le_refl _)).range k hlt
        have r2 : ∀ W, Below w.heap.size w W → W.rangeAt P2 (O2 + k * 10) (lv (ys[k]'hlt')) := fun W h => (hy.below h (Nat.le_refl _)).range k hlt'
        have hn := fun (W : World) (h : Below w.heap.size w W) => hC (xs[k]'hlt) (ys[k]'hlt') W ((ax _ (List.getElem_mem hlt)).below h (Nat.le_refl _)) ((ay _ (List.getElem_mem hlt')).below h (Nat.le_refl _))
        have hev' : Hid ((xs[k]'hlt).l = (ys[k]'hlt').l → ∀ j (h1 : j < xs.length) (h2 : j < ys.length), j < k + 1 → xs[j].l = ys[j].l) := fun h j h1 h2 hj => by
          by_cases e : j = k
          · subst e; exact h
          · exact hev.out j h1 h2 (by omega)
        have hno : Hid ((xs[k]'hlt).l ≠ (ys[k]'hlt').l → sameLs (xs.map Lv.l) (ys.map Lv.l) = false) := fun h => sameLs_no fun he => h (by
          have h1 : (xs.map Lv.l)[k]'(by simpa using hlt) = (ys.map Lv.l)[k]'(by simpa using hlt') := by simp only [he]
          simpa using h1)
        generalize (xs[k]'hlt) = p at *
        generalize (ys[k]'hlt') = q at *
        clear hC ax ay
        have z0 := hg.size
        have hF : ∀ (W X : World) (o : Obj), But W.heap.size (W.alloc o) X → Below W.heap.size W X := fun W X o d => (below_alloc W o).trans (d.lower (Nat.le_refl _) (by simp))
        have oP : (lv p).all (·.oneCell') = true := rfl
        have oQ : (lv q).all (·.oneCell') = true := rfl
        have iP : (Try.prog.info? 80).map (·.size) = some (lv p).length := iN
        have iQ : (Try.prog.info? 80).map (·.size) = some (lv q).length := iN
        go_wp2_with (first
          | (refine wpList_load_mid rfl 80 _ rfl P1 (O1 + k * 10) rfl (lv p) _ r1 Try.underlying80 rfl iP ?_)
          | (refine wpList_store_all rfl 80 _ _ rfl wr.heap.size 10 _ 80 (lv p) rfl rfl (heap_alloc_new wr _) rfl rfl iN oP ?_; intro w2 H2 d2; have B2 := hF wr w2 _ d2; have r2' := r2 w2 (hg.trans (B2.mono z0)))
          | (refine wpList_load_mid rfl 80 _ rfl P2 (O2 + k * 10) rfl (lv q) _ r2' Try.underlying80 rfl iQ ?_)
          | (refine wpList_store_all rfl 80 _ _ rfl w2.heap.size 10 _ 80 (lv q) rfl rfl (heap_alloc_new w2 _) rfl rfl iN oQ ?_; intro w3 H3 d3; have B3 := hF w2 w3 _ d3; have H2' := below_heap B3 H2)
          | (refine wpList_load_all rfl 80 _ rfl wr.heap.size 10 80 (lv p) _ rfl H2' rfl Try.underlying80 rfl iN ?_)
          | (refine wpList_load_all rfl 80 _ rfl w2.heap.size 10 80 (lv q) _ rfl H3 rfl Try.underlying80 rfl iN ?_))
        have BB := hg.trans ((Below.then B2 B3).mono z0)
        have hn' := hn w3 BB
        cases hr : sameL p.l q.l
        · have hno' := hideP (hno.out fun e => by rw [(sameL_iff _ _).2 e] at hr; cases hr)
          rw [hr] at hn'
          refine hn'.mono ?_; rintro e w4 ⟨rfl, g4⟩
          go_wp2_with fail
          go_ret
          exact ⟨ret_bool hno'.out.symm, BB.trans (g4.below.mono BB.size)⟩
        · have hev'' := hideP (hev'.out ((sameL_iff _ _).1 hr))
          rw [hr] at hn'
          refine hn'.mono ?_; rintro e w4 ⟨rfl, g4⟩
          go_wp2_with fail
          exact ⟨⟨k + 1, by simp, by omega, hev'', BB.trans (g4.below.mono BB.size)⟩, by simp [intOf]; omega⟩
      · have q2 : ¬ (k : Int) < (xs.length : Int) := by omega
        have hyes : Hid (sameLs (xs.map Lv.l) (ys.map Lv.l) = true) := (sameLs_iff _ _).2 (List.ext_getElem (by simpa using Hl.out) fun j h1 h2 => by
          simp only [List.getElem_map]
          exact hev.out j (by simpa using h1) (by simpa using h2) (by simp at h1; omega))
        go_wp2_with fail
        go_ret
        exact ⟨ret_bool hyes.out.symm, hg⟩

theorem sameFact_at (x y : Fv) (w : World) (hx : Fv.At w x) (hy : Fv.At w y) : Calls Try.prog 26 #[x.val, y.val] w fun e w' => e = .returned (.bool (decide (cF x.f y.f = 0))) ∧ Grew w w' := by
  have hO := fun (W : World) (hg : Grew w W) => order_at x y W (hx.grew hg) (hy.grew hg)
  have hg2 : ∀ o o' : Obj, Grew w ((w.alloc o).alloc o') := fun o o' => ((Grew.refl w).allocs o).allocs o'
  generalize cF x.f y.f = r at *
  obtain ⟨x1, x2, x3, xa, xc, xk⟩ := x; obtain ⟨y1, y2, y3, ya, yc, yk⟩ := y
  go_enter Try.func26, Try.ntmps26
  go_wp2_with fail
  refine (hO _ (hg2 _ _)).mono ?_; rintro e w1 ⟨rfl, hg⟩
  go_wp2_with fail
  go_ret
  refine ⟨ret_bool ?_, (hg2 _ _).trans hg⟩
  rw [Bool.eq_iff_iff]; simp

set_option maxRecDepth 100000 in
set_option maxHeartbeats 4000000 in
theorem sameRule_at (x y : Rv) (w : World) (hx : Rv.At w x) (hy : Rv.At w y) : Calls Try.prog 27 #[rval x, rval y] w fun e w' => e = .returned (.bool (sameR x.r y.r)) ∧ Below w.heap.size w w' := by
  obtain ⟨⟨v1, ⟨a1, b1, c1⟩⟩, p, ad, cap, ts, ⟨v2, ⟨a2, b2, c2⟩⟩, ba, bc, ls⟩ := x
  obtain ⟨⟨v3, ⟨a3, b3, c3⟩⟩, p', ad', cap', ts', ⟨v4, ⟨a4, b4, c4⟩⟩, ba', bc', ls'⟩ := y
  obtain ⟨hx1, hx2, hx3⟩ := hx
  obtain ⟨hy1, hy2, hy3⟩ := hy
  simp only at hx1 hx2 hx3 hy1 hy2 hy3
  have hE := fun W (h : Below w.heap.size w W) => equalT_at ad ad' cap cap' ts ts' W (hx1.below h (Nat.le_refl _)) (hy1.below h (Nat.le_refl _))
  have hL := fun W (h : Below w.heap.size w W) => equalL_at ba ba' bc bc' ls ls' W (hx2.below h (Nat.le_refl _)) (hy2.below h (Nat.le_refl _)) (fun l hl => (hx3 l hl).below h (Nat.le_refl _)) (fun l hl => (hy3 l hl).below h (Nat.le_refl _))
  have q1 := fun W => eqTerm ⟨v1, ⟨a1, b1, c1⟩⟩ ⟨v3, ⟨a3, b3, c3⟩⟩ W
  have q2 := fun W => eqTerm ⟨v2, ⟨a2, b2, c2⟩⟩ ⟨v4, ⟨a4, b4, c4⟩⟩ W
  show Calls _ _ _ _ fun e w' => e = .returned (.bool (sameT ⟨v1, ⟨a1, b1, c1⟩⟩ ⟨v3, ⟨a3, b3, c3⟩⟩ && ((p == p') && (sameTs ts ts' && (sameT ⟨v2, ⟨a2, b2, c2⟩⟩ ⟨v4, ⟨a4, b4, c4⟩⟩ && sameLs (ls.map Lv.l) (ls'.map Lv.l)))))) ∧ Below w.heap.size w w'
  generalize sameT ⟨v1, ⟨a1, b1, c1⟩⟩ ⟨v3, ⟨a3, b3, c3⟩⟩ = s1 at *
  generalize sameT ⟨v2, ⟨a2, b2, c2⟩⟩ ⟨v4, ⟨a4, b4, c4⟩⟩ = s2 at *
  generalize sameTs ts ts' = s3 at *
  generalize sameLs (ls.map Lv.l) (ls'.map Lv.l) = s4 at *
  have G0 : ∀ o o' : Obj, Below w.heap.size w ((w.alloc o).alloc o') := fun o o' => Below.then (below_alloc _ _) (below_alloc _ _)
  cases s1
  · go_enter Try.func27, Try.ntmps27
    go_wp2_with fail
    go_ret
    exact ⟨rfl, G0 _ _⟩
  · by_cases hp : p = p'
    · subst hp
      go_enter Try.func27, Try.ntmps27
      go_wp2_with fail
      refine (hE _ (G0 _ _)).mono ?_; rintro e w1 ⟨rfl, g1⟩
      have H1 := below_heap g1.below (below_heap (below_alloc _ _) (heap_alloc_new w (.cells #[str v1, .bool a1, .int .i64 b1, str c1, str p, .slice ad ts.length cap, str v2, .bool a2, .int .i64 b2, str c2, .slice ba ls.length bc] 55)))
      have H2 := below_heap g1.below (heap_alloc_new (w.alloc (.cells #[str v1, .bool a1, .int .i64 b1, str c1, str p, .slice ad ts.length cap, str v2, .bool a2, .int .i64 b2, str c2, .slice ba ls.length bc] 55)) (.cells #[str v3, .bool a3, .int .i64 b3, str c3, str p, .slice ad' ts'.length cap', str v4, .bool a4, .int .i64 b4, str c4, .slice ba' ls'.length bc'] 55))
      rw [show (w.alloc (.cells #[str v1, .bool a1, .int .i64 b1, str c1, str p, .slice ad ts.length cap, str v2, .bool a2, .int .i64 b2, str c2, .slice ba ls.length bc] 55)).heap.size = w.heap.size + 1 by simp] at H2
      have G1 := Below.then (G0 _ _) g1.below
      clear hE g1 hx1 hx2 hx3 hy1 hy2 hy3
      have d6 := heap_cell H1 6; have d7 := heap_cell H1 7; have d8 := heap_cell H1 8; have d9 := heap_cell H1 9; have d10 := heap_cell H1 10
      have f6 := heap_cell H2 6; have f7 := heap_cell H2 7; have f8 := heap_cell H2 8; have f9 := heap_cell H2 9; have f10 := heap_cell H2 10
      simp at d6 d7 d8 d9 d10 f6 f7 f8 f9 f10
      cases s3
      · go_wp2_with fail
        go_ret
        exact ⟨ret_bool (by simp), G1⟩
      · cases s2
        · go_wp2_with fail
          go_ret
          exact ⟨ret_bool (by simp), G1⟩
        · go_wp2_with fail
          refine (hL _ G1).mono ?_; rintro e w2 ⟨rfl, b2⟩
          go_wp2_with fail
          go_ret
          exact ⟨ret_bool (by simp), Below.then G1 b2⟩
    · have hp' : (p == p') = false := by simpa using hp
      go_enter Try.func27, Try.ntmps27
      go_wp2_with fail
      go_ret
      exact ⟨ret_bool (by simp [hp']), G0 _ _⟩
end Go.Proofs.Ytghhdbkgibpebaa
