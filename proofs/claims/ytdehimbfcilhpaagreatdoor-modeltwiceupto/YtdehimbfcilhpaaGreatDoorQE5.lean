/-
  The program's literal.
-/
import Derived.Test.YtdehimbfcilhpaaGreatDoorQE4
namespace Go.Proofs.YtdehimbfcilhpaaGreatDoor
open Go.RowKit Go.Lib Go.Shelf

def litE (home : Tm) (l : Lt) (f : F) (L : Mt.Env) : Mt.Env := (Mt.lit home l f L).getD []
def litB (home : Tm) (l : Lt) (f : F) (L : Mt.Env) : Bool := (Mt.lit home l f L).isSome
theorem litE_len (home : Tm) (l : Lt) (f : F) (L : Mt.Env) : (litE home l f L).length ≤ L.length + (l.args.length + 2) := by
  unfold litE
  cases h : Mt.lit home l f L with
  | none => simp
  | some e => exact Mt.lit_len h
theorem lit_of_none {home : Tm} {l : Lt} {f : F} {L : Mt.Env} (h : Mt.lit home l f L = none) : litE home l f L = [] ∧ litB home l f L = false := by unfold litE litB; rw [h]; exact ⟨rfl, rfl⟩
theorem lit_of_some {home : Tm} {l : Lt} {f : F} {L e : Mt.Env} (h : Mt.lit home l f L = some e) : litE home l f L = e ∧ litB home l f L = true := by unfold litE litB; rw [h]; exact ⟨rfl, rfl⟩
theorem uni_two (t : Tm) (k : K) (L : Mt.Env) : (Mt.uni t k L = none ∧ uniE t k L = [] ∧ uniB t k L = false) ∨ (∃ e, Mt.uni t k L = some e ∧ uniE t k L = e ∧ uniB t k L = true ∧ e.length ≤ L.length + 1) := by
  unfold uniE uniB
  cases h : Mt.uni t k L with
  | none => exact .inl ⟨rfl, rfl, rfl⟩
  | some e => exact .inr ⟨e, rfl, rfl, rfl, Mt.uni_len h⟩
theorem lv_cells {w : World} {b : Nat} {y : Lv} (H : w.heap[b]? = some (.cells (lv y).toArray 85)) :
    w.cell? ⟨b, 0, none⟩ = some (str y.by_.v) ∧ w.cell? ⟨b, 1, none⟩ = some (.bool y.by_.k.num) ∧ w.cell? ⟨b, 2, none⟩ = some (.int .i64 y.by_.k.n) ∧ w.cell? ⟨b, 3, none⟩ = some (str y.by_.k.s) ∧ w.cell? ⟨b, 5, none⟩ = some (.slice y.a y.args.length y.cap) := by
  refine ⟨?_, ?_, ?_, ?_, ?_⟩ <;> (rw [heap_cell H]; rfl)
theorem tv_cells {w : World} {b : Nat} {t : Tm} {T : TypeId} (H : w.heap[b]? = some (.cells (tv t).toArray T)) :
    w.cell? ⟨b, 0, none⟩ = some (str t.v) ∧ w.cell? ⟨b, 1, none⟩ = some (.bool t.k.num) ∧ w.cell? ⟨b, 2, none⟩ = some (.int .i64 t.k.n) ∧ w.cell? ⟨b, 3, none⟩ = some (str t.k.s) := by
  refine ⟨?_, ?_, ?_, ?_⟩ <;> (rw [heap_cell H]; rfl)
theorem fv_cells {w : World} {b : Nat} {x : Fv} (H : w.heap[b]? = some (.cells (fv x).toArray 36)) :
    w.cell? ⟨b, 0, none⟩ = some (str x.at_) ∧ w.cell? ⟨b, 1, none⟩ = some (str x.by_) ∧ w.cell? ⟨b, 2, none⟩ = some (str x.pred) ∧ w.cell? ⟨b, 3, none⟩ = some (.slice x.a x.ks.length x.cap) := by
  refine ⟨?_, ?_, ?_, ?_⟩ <;> (rw [heap_cell H]; rfl)

/-- three boxes: a term, a literal, a fact; of what lay below the base nothing turned -/
structure Bx3 (base S : Nat) (home : Tm) (y : Lv) (x : Fv) (w wc : World) : Prop where
  below : Below base w wc
  size : S ≤ wc.heap.size
  h0 : wc.heap[S]? = some (.cells (tv home).toArray 58)
  h1 : wc.heap[S + 1]? = some (.cells (lv y).toArray 85)
  h2 : wc.heap[S + 2]? = some (.cells (fv x).toArray 36)
theorem Bx3.next {base S : Nat} {home : Tm} {y : Lv} {x : Fv} {w wc wd : World} (h : Bx3 base S home y x w wc) (b : Below base wc wd) (s : ∀ ty : TypeId, ty ≠ 99 → Safe ty wc wd) : Bx3 base S home y x w wd :=
  ⟨h.below.trans b, Nat.le_trans h.size b.size, s _ (by decide) _ _ h.h0, s _ (by decide) _ _ h.h1, s _ (by decide) _ _ h.h2⟩
theorem Bx3.then {base S : Nat} {home : Tm} {y : Lv} {x : Fv} {w wc wd : World} (h : Bx3 base S home y x w wc) (b : Below wc.heap.size wc wd) (hb : base ≤ wc.heap.size) : Bx3 base S home y x w wd := h.next (b.mono hb) (fun _ _ => Safe.below b)

set_option maxRecDepth 100000 in
set_option maxHeartbeats 2000000 in
theorem mliteral_at (home : Tm) (y : Lv) (x : Fv) (base : Nat) (a : Option Addr) (c : Nat) (L : List Bd) (w : World) (hE : EnvAt base w (.slice a L.length c) L) (hb : base ≤ w.heap.size) (hf : L.length + y.args.length ≤ 900000) (hy : ∀ W, Below base w W → Lv.Aw W y) (hx : ∀ W, Below base w W → Fv.At W x) :
    Calls Tryz.prog 164 #[tval home, lval y, x.val, .slice a L.length c] w fun e w' => (∃ a' c', e = .returned (.tuple #[.slice a' (litE home y.l x.f L).length c', .bool (litB home y.l x.f L)]) ∧ EnvAt base w' (.slice a' (litE home y.l x.f L).length c') (litE home y.l x.f L)) ∧ Below base w w' ∧ ∀ ty : TypeId, ty ≠ 99 → Safe ty w w' := by
  have iT : (Tryz.prog.info? 58).map (·.size) = some 4 := by kernel_rfl
  have hyf := Row.few (show Row tK w y.a y.cap y.args from hy w (Below.refl _ _))
  have hxf := ArgsAt.few (show ArgsAt w x.a x.cap x.ks from hx w (Below.refl _ _))
  obtain ⟨h0, h1, h2, A0⟩ := boxes3 w (.cells (tv home).toArray 58) (.cells (lv y).toArray 85) (.cells (fv x).toArray 36)
  by_cases hc : y.pred = x.pred ∧ y.args.length = x.ks.length
  rotate_left
  · obtain ⟨z1, z2⟩ := lit_of_none (Mt.lit_no (home := home) (l := y.l) (f := x.f) (e := L) hc)
    rw [z1, z2]
    by_cases hp : y.pred = x.pred
    · have q1 : (y.pred == x.pred) = true := by simpa using hp
      have q2 : ((y.args.length : Int) != (x.ks.length : Int)) = true := by
        rw [bne_iff_ne]; intro h; exact hc ⟨hp, by omega⟩
      clear hp hc hy hx
      go_enter Tryz.func164, Tryz.ntmps164
      go_wp2_with fail
      go_ret2
      exact ⟨⟨none, 0, rfl, EnvAt.nil _ _⟩, A0.mono hb, fun _ _ => Safe.below A0⟩
    · have q1 : (y.pred == x.pred) = false := by simpa using hp
      clear hp hc hy hx
      go_enter Tryz.func164, Tryz.ntmps164
      go_wp2_with fail
      go_ret2
      exact ⟨⟨none, 0, rfl, EnvAt.nil _ _⟩, A0.mono hb, fun _ _ => Safe.below A0⟩
  · obtain ⟨hp, hl⟩ := hc
    have q1 : (y.pred == x.pred) = true := by simpa using hp
    have q2 : ((y.args.length : Int) != (x.ks.length : Int)) = false := by simp; omega
    have LY := hideP (fun h => Mt.lit_one_no (home := home) (l := y.l) (f := x.f) (e := L) hp hl h)
    have LS := hideP (fun e1 h => Mt.lit_one (home := home) (l := y.l) (f := x.f) (e := L) (e1 := e1) hp hl h)
    have hl' := hideP hl
    have TE := hideP (fun W => meither_at y.at_ home W)
    have X0 : Bx3 base w.heap.size home y x w _ := ⟨A0.mono hb, A0.size, h0, h1, h2⟩
    have r6 : (((w.alloc (.cells (tv home).toArray 58)).alloc (.cells (lv y).toArray 85)).alloc (.cells (fv x).toArray 36)).rangeAt (w.heap.size + 1) 6 (tv y.at_) := World.rangeAt_of_block h1 6 4
    have hE0 := hE.then A0 hb
    clear hp hl h0 h1 h2 hE
    go_enter Tryz.func164, Tryz.ntmps164
    go_wp2_with (first | (refine wpList_load_mid rfl 58 _ rfl (w.heap.size + 1) 6 rfl (tv y.at_) _ r6 Tryz.underlying58 rfl iT ?_) | (refine wpList_load_all rfl 58 _ rfl w.heap.size 4 58 (tv home) _ rfl X0.h0 rfl Tryz.underlying58 rfl iT ?_))
    refine (TE.out _).mono ?_
    rintro e w1 ⟨rfl, b1⟩
    have s0 : base ≤ w1.heap.size := Nat.le_trans hb (Below.then A0 b1).size
    have X1 := X0.then b1 (Nat.le_trans hb A0.size)
    have hE1 := hE0.then b1 (Nat.le_trans hb A0.size)
    have T1 := Below.then A0 b1
    clear X0 hE0 b1 r6 TE A0
    have HA : Hid (Mt.at1 home y.l = Mt.place home y.at_) := rfl
    have HB : Hid (Mt.by2 home y.l = Mt.place (Mt.place home y.at_) y.by_) := rfl
    generalize Mt.place home y.at_ = aT at *
    rw [HA.out] at LY LS
    have H1 := heap_alloc_new w1 (.cells #[.string { data := #[] }, .bool false, .int .i64 0, .string { data := #[] }] 58)
    have SF1 : ∀ ty : TypeId, Safe ty w w1 := fun _ => Safe.below T1
    have hS2 := heap_lt X1.h2
    go_wp2_with (refine wpList_store_all rfl 58 _ _ rfl w1.heap.size 4 _ 58 (tv aT) rfl rfl H1 rfl rfl iT rfl ?_; intro w2 H2 b2; have T2 := below_tok b2)
    have X2 := X1.then T2 s0
    have hE2 := hE1.then T2 s0
    have SF2 : ∀ ty : TypeId, Safe ty w w2 := fun ty => (SF1 ty).trans (Safe.below T2)
    have s2 : base ≤ w2.heap.size := Nat.le_trans s0 T2.size
    have hS3 : w.heap.size + 2 < w1.heap.size := hS2
    generalize hR : w1.heap.size = R at *
    clear hR H1 X1 hE1 SF1 b2 T2 T1 s0 hS2
    have gD := (Below.refl w2.heap.size w2).drew
    have X2d := X2.then gD s2
    have hE2d := hE2.then gD s2
    have H2d := below_heap gD H2
    have s2d : base ≤ w2.drew.heap.size := Nat.le_trans s2 gD.size
    have K2 : ∀ W, W.heap[R]? = some (.cells (tv aT).toArray 58) → Bx3 base w.heap.size home y x w W → (W.cell? ⟨R, 0, none⟩ = some (str aT.v) ∧ W.cell? ⟨R, 1, none⟩ = some (.bool aT.k.num) ∧ W.cell? ⟨R, 2, none⟩ = some (.int .i64 aT.k.n) ∧ W.cell? ⟨R, 3, none⟩ = some (str aT.k.s) ∧ W.cell? ⟨w.heap.size + 2, 0, none⟩ = some (str x.at_)) := fun W h1 h2 => by
      obtain ⟨c1, c2, c3, c4⟩ := tv_cells h1
      exact ⟨c1, c2, c3, c4, (fv_cells h2.h2).1⟩
    have HK2 := hideP K2
    clear K2
    have TT := hideP (fun W => mtext_at x.at_ W)
    have TU := hideP (fun W h1 h2 => munify_at aT (Mt.nm x.at_) base a c L W h1 h2 (by omega))
    go_region_held3 (fun W => W.cell? ⟨R, 0, none⟩ = some (str aT.v) ∧ W.cell? ⟨R, 1, none⟩ = some (.bool aT.k.num) ∧ W.cell? ⟨R, 2, none⟩ = some (.int .i64 aT.k.n) ∧ W.cell? ⟨R, 3, none⟩ = some (str aT.k.s) ∧ W.cell? ⟨w.heap.size + 2, 0, none⟩ = some (str x.at_)) (first | exact HK2.out _ H4 X4 | exact HK2.out _ H3 X3 | exact HK2.out _ H2d X2d) (first
      | (go_at_call 152; refine (TT.out _).mono ?_; rintro e w3 ⟨rfl, b3⟩; have X3 := X2d.then b3 s2d; have H3 := below_heap b3 H2d; have E3 := hE2d.then b3 s2d; have s3 := Nat.le_trans s2d b3.size; have SF3 : ∀ ty : TypeId, Safe ty w w3 := fun ty => (SF2 ty).trans ((Safe.below gD).trans (Safe.below b3)))
      | (go_at_call 109; refine (TU.out _ E3 s3).mono ?_; rintro e w4 ⟨⟨a4, c4, rfl, E4⟩, b4, k4⟩; have X4 := X3.next b4 k4; have H4 := k4 58 (by decide) _ _ H3; have SF4 : ∀ ty : TypeId, ty ≠ 99 → Safe ty w w4 := fun ty hn => (SF3 ty).trans (k4 ty hn)))
    have s4 : base ≤ w4.heap.size := Nat.le_trans hb X4.below.size
    clear hE2 hE2d TU TT HK2 gD X2 X2d H2 H2d X3 H3 E3 SF2 SF3 s2 s2d s3 b3 b4 k4
    rcases uni_two aT (Mt.nm x.at_) L with ⟨u1, u2, u3⟩ | ⟨e1, u1, u2, u3, u4⟩
    · rw [u2] at E4 ⊢
      rw [u3]
      obtain ⟨z1, z2⟩ := lit_of_none (LY.out u1)
      have Z1 := hideP z1
      have Z2 := hideP z2
      clear u1 u2 u3 z1 z2 LY LS
      simp only [List.length_nil] at E4 ⊢
      go_wp2_with fail
      go_loopw [3, 11, 12] (fun v3 v11 _ wr => v3 = .slice a4 0 c4 ∧ v11 = .bool false ∧ w4 = wr) (fun _ _ _ _ => 0)
      case atStart => exact ⟨rfl, rfl, rfl⟩
      case round =>
        obtain ⟨rfl, rfl, rfl⟩ := hrel
        go_wp2_with fail
        go_ret2
        rw [Z1.out, Z2.out]
        exact ⟨⟨a4, c4, rfl, E4⟩, X4.below, SF4⟩
    · rw [u2] at E4 ⊢
      rw [u3]
      have L1 : Hid (Mt.lit home y.l x.f L = (Mt.uni (Mt.by2 home y.l) (Mt.nm x.by_) e1).bind fun e2 => Mt.unis y.args x.ks e2) := LS.out e1 u1
      rw [HB.out] at L1
      clear u1 u2 u3 LY LS
      have gD := (Below.refl w4.heap.size w4).drew
      have X4d := X4.then gD s4
      have E4d := E4.then gD s4
      have H4d := below_heap gD H4
      have s4d : base ≤ w4.drew.heap.size := Nat.le_trans s4 gD.size
      have K2 : ∀ W, W.heap[R]? = some (.cells (tv aT).toArray 58) → Bx3 base w.heap.size home y x w W → (W.cell? ⟨R, 0, none⟩ = some (str aT.v) ∧ W.cell? ⟨R, 1, none⟩ = some (.bool aT.k.num) ∧ W.cell? ⟨R, 2, none⟩ = some (.int .i64 aT.k.n) ∧ W.cell? ⟨R, 3, none⟩ = some (str aT.k.s) ∧ W.cell? ⟨w.heap.size + 2, 1, none⟩ = some (str x.by_) ∧ W.cell? ⟨w.heap.size + 1, 0, none⟩ = some (str y.by_.v) ∧ W.cell? ⟨w.heap.size + 1, 1, none⟩ = some (.bool y.by_.k.num) ∧ W.cell? ⟨w.heap.size + 1, 2, none⟩ = some (.int .i64 y.by_.k.n) ∧ W.cell? ⟨w.heap.size + 1, 3, none⟩ = some (str y.by_.k.s)) := fun W h1 h2 => by
        obtain ⟨c1, c2, c3, c4⟩ := tv_cells h1
        obtain ⟨d1, d2, d3, d4, _⟩ := lv_cells h2.h1
        exact ⟨c1, c2, c3, c4, (fv_cells h2.h2).2.1, d1, d2, d3, d4⟩
      have HK2 := hideP K2
      clear K2
      have TE := hideP (fun W => meither_at y.by_ aT W)
      have TT := hideP (fun W => mtext_at x.by_ W)
      generalize Mt.place aT y.by_ = bT at *
      have TU := hideP (fun W h1 h2 => munify_at bT (Mt.nm x.by_) base a4 c4 e1 W h1 h2 (by omega))
      go_wp2_with fail
      go_region_held3 (fun W => W.cell? ⟨R, 0, none⟩ = some (str aT.v) ∧ W.cell? ⟨R, 1, none⟩ = some (.bool aT.k.num) ∧ W.cell? ⟨R, 2, none⟩ = some (.int .i64 aT.k.n) ∧ W.cell? ⟨R, 3, none⟩ = some (str aT.k.s) ∧ W.cell? ⟨w.heap.size + 2, 1, none⟩ = some (str x.by_) ∧ W.cell? ⟨w.heap.size + 1, 0, none⟩ = some (str y.by_.v) ∧ W.cell? ⟨w.heap.size + 1, 1, none⟩ = some (.bool y.by_.k.num) ∧ W.cell? ⟨w.heap.size + 1, 2, none⟩ = some (.int .i64 y.by_.k.n) ∧ W.cell? ⟨w.heap.size + 1, 3, none⟩ = some (str y.by_.k.s)) (first | exact HK2.out _ H7 X7 | exact HK2.out _ H6 X6 | exact HK2.out _ H5 X5 | exact HK2.out _ H4d X4d) (first
        | (go_at_call 84; refine (TE.out _).mono ?_; rintro e w5 ⟨rfl, b5⟩; have X5 := X4d.then b5 s4d; have H5 := below_heap b5 H4d; have E5 := E4d.then b5 s4d; have s5 := Nat.le_trans s4d b5.size; have SF5 : ∀ ty : TypeId, ty ≠ 99 → Safe ty w w5 := fun ty hn => (SF4 ty hn).trans ((Safe.below gD).trans (Safe.below b5)))
        | (go_at_call 152; refine (TT.out _).mono ?_; rintro e w6 ⟨rfl, b6⟩; have X6 := X5.then b6 s5; have H6 := below_heap b6 H5; have E6 := E5.then b6 s5; have s6 := Nat.le_trans s5 b6.size; have SF6 : ∀ ty : TypeId, ty ≠ 99 → Safe ty w w6 := fun ty hn => (SF5 ty hn).trans (Safe.below b6))
        | (go_at_call 109; refine (TU.out _ E6 s6).mono ?_; rintro e w7 ⟨⟨a7, c7, rfl, E7⟩, b7, k7⟩; have X7 := X6.next b7 k7; have H7 := k7 58 (by decide) _ _ H6; have SF7 : ∀ ty : TypeId, ty ≠ 99 → Safe ty w w7 := fun ty hn => (SF6 ty hn).trans (k7 ty hn)))
      have s7 : base ≤ w7.heap.size := Nat.le_trans hb X7.below.size
      clear E4d TU TT TE HK2 gD X4 X4d H4 H4d H7 X5 H5 E5 X6 H6 E6 SF4 SF5 SF6 s4 s4d s5 s6 b5 b6 b7 k7 E4
      rcases uni_two bT (Mt.nm x.by_) e1 with ⟨u1, u2, u3⟩ | ⟨e2, u1, u2, u3, u5⟩
      · rw [u2] at E7 ⊢
        rw [u3]
        have z0 := L1.out
        rw [u1] at z0
        obtain ⟨z1, z2⟩ := lit_of_none z0
        have Z1 := hideP z1
        have Z2 := hideP z2
        clear u1 u2 u3 z0 z1 z2 L1
        simp only [List.length_nil] at E7 ⊢
        go_wp2_with fail
        go_loopw [3, 11, 12] (fun v3 v11 _ wr => v3 = .slice a7 0 c7 ∧ v11 = .bool false ∧ w7 = wr) (fun _ _ _ _ => 0)
        case atStart => exact ⟨rfl, rfl, rfl⟩
        case round =>
          obtain ⟨rfl, rfl, rfl⟩ := hrel
          go_wp2_with fail
          go_ret2
          rw [Z1.out, Z2.out]
          exact ⟨⟨a7, c7, rfl, E7⟩, X7.below, SF7⟩
      · rw [u2] at E7 ⊢
        rw [u3]
        have L2 := L1.out
        rw [u1] at L2
        have L3 : Hid (Mt.lit home y.l x.f L = Mt.unis (y.args.drop 0) (x.ks.drop 0) e2) := L2
        clear u1 u2 u3 L1 L2
        go_wp2_with fail
        go_loopw [3, 11, 12] (fun v3 v11 v12 wr => ∃ (i : Nat) (M : List Bd) (ok : Bool) (a' : Option Addr) (c' : Nat), v3 = .slice a' M.length c' ∧ v11 = .bool ok ∧ v12 = .int .i64 (i : Int) ∧ i ≤ y.args.length ∧ M.length ≤ L.length + 2 + i ∧ EnvAt base wr (.slice a' M.length c') M ∧ Bx3 base w.heap.size home y x w wr ∧ (∀ ty : TypeId, ty ≠ 99 → Safe ty w wr) ∧ Hid ((ok = true → Mt.lit home y.l x.f L = Mt.unis (y.args.drop i) (x.ks.drop i) M) ∧ (ok = false → M = [] ∧ Mt.lit home y.l x.f L = none))) (fun _ _ v12 _ => y.args.length - (intOf v12).toNat)
        case atStart => exact ⟨0, e2, true, a7, c7, rfl, rfl, rfl, Nat.zero_le _, by omega, E7, X7, SF7, fun _ => L3.out, fun h => by cases h⟩
        case round =>
          obtain ⟨i, M, ok, a', c', rfl, rfl, rfl, hi, hM, E, X, SF, HL⟩ := hrel
          have cl := (lv_cells X.h1).2.2.2.2
          cases ok with
          | false =>
            obtain ⟨rfl, z0⟩ := HL.out.2 rfl
            obtain ⟨z1, z2⟩ := lit_of_none z0
            have Z1 := hideP z1
            have Z2 := hideP z2
            clear z0 z1 z2
            simp only [List.length_nil] at E ⊢
            go_wp2_with fail
            go_ret2
            rw [Z1.out, Z2.out]
            exact ⟨⟨a', c', rfl, E⟩, X.below, SF⟩
          | true =>
            by_cases hlt : i < y.args.length
            · have q3 : (i : Int) < (y.args.length : Int) := by omega
              have hlt' : i < x.ks.length := by have := hl'.out; omega
              have q4 : (i : Int) < (x.ks.length : Int) := by omega
              have ST := HL.out.1 rfl
              rw [Mt.unis_step hlt hlt'] at ST
              have HST := hideP ST
              clear ST HL
              have hY := hy wr X.below
              have hX := hx wr X.below
              have hlt0 : 0 < y.args.length := Nat.lt_of_le_of_lt (Nat.zero_le _) hlt
              obtain ⟨P1, O1, hP⟩ := Row.addr (show Row tK wr y.a y.cap y.args from hY) hlt0
              obtain ⟨P2, O2, hQ⟩ := ArgsAt.addr (show ArgsAt wr x.a x.cap x.ks from hX) (by omega)
              have s8 : base ≤ wr.heap.size := Nat.le_trans hb X.below.size
              have gD := (Below.refl wr.heap.size wr).drew
              have Xd := X.then gD s8
              have Ed := E.then gD s8
              have s8d : base ≤ wr.drew.heap.size := Nat.le_trans s8 gD.size
              have K2 : ∀ W, Bx3 base w.heap.size home y x w W → (W.cell? ⟨w.heap.size + 1, 5, none⟩ = some (.slice (some ⟨P1, O1, none⟩) y.args.length y.cap) ∧ W.cell? ⟨P1, O1 + i * 4, none⟩ = some (str (y.args[i]'hlt).v) ∧ W.cell? ⟨P1, O1 + i * 4 + 1, none⟩ = some (.bool (y.args[i]'hlt).k.num) ∧ W.cell? ⟨P1, O1 + i * 4 + 2, none⟩ = some (.int .i64 (y.args[i]'hlt).k.n) ∧ W.cell? ⟨P1, O1 + i * 4 + 3, none⟩ = some (str (y.args[i]'hlt).k.s) ∧ W.cell? ⟨w.heap.size + 2, 3, none⟩ = some (.slice (some ⟨P2, O2, none⟩) x.ks.length x.cap) ∧ W.cell? ⟨P2, O2 + i * 3, none⟩ = some (.bool (x.ks[i]'hlt').num) ∧ W.cell? ⟨P2, O2 + i * 3 + 1, none⟩ = some (.int .i64 (x.ks[i]'hlt').n) ∧ W.cell? ⟨P2, O2 + i * 3 + 2, none⟩ = some (str (x.ks[i]'hlt').s)) := fun W h2 => by
                have d5 := (lv_cells h2.h1).2.2.2.2
                have d3 := (fv_cells h2.h2).2.2.2
                have r1 : Row tK W y.a y.cap y.args := hy W h2.below
                have r2 : ArgsAt W x.a x.cap x.ks := hx W h2.below
                rw [hP] at d5 r1
                rw [hQ] at d3 r2
                have r3 := r1.range i hlt
                obtain ⟨m1, m2, m3⟩ := r2.get i hlt'
                exact ⟨d5, r3 0 _ rfl, r3 1 _ rfl, r3 2 _ rfl, r3 3 _ rfl, d3, m1, m2, m3⟩
              have HK2 := hideP K2
              rw [hP] at cl
              clear K2 hY hX hP hQ
              generalize (y.args[i]'hlt) = tt at *
              generalize (x.ks[i]'hlt') = kk at *
              have TU := hideP (fun W h1 h2 => munify_at tt kk base a' c' M W h1 h2 (by omega))
              go_wp2_with fail
              go_region_held3 (fun W => W.cell? ⟨w.heap.size + 1, 5, none⟩ = some (.slice (some ⟨P1, O1, none⟩) y.args.length y.cap) ∧ W.cell? ⟨P1, O1 + i * 4, none⟩ = some (str tt.v) ∧ W.cell? ⟨P1, O1 + i * 4 + 1, none⟩ = some (.bool tt.k.num) ∧ W.cell? ⟨P1, O1 + i * 4 + 2, none⟩ = some (.int .i64 tt.k.n) ∧ W.cell? ⟨P1, O1 + i * 4 + 3, none⟩ = some (str tt.k.s) ∧ W.cell? ⟨w.heap.size + 2, 3, none⟩ = some (.slice (some ⟨P2, O2, none⟩) x.ks.length x.cap) ∧ W.cell? ⟨P2, O2 + i * 3, none⟩ = some (.bool kk.num) ∧ W.cell? ⟨P2, O2 + i * 3 + 1, none⟩ = some (.int .i64 kk.n) ∧ W.cell? ⟨P2, O2 + i * 3 + 2, none⟩ = some (str kk.s)) (first | exact HK2.out _ X9 | exact HK2.out _ Xd) (first
                | (go_at_call 109; refine (TU.out _ Ed s8d).mono ?_; rintro e w9 ⟨⟨a9, c9, rfl, E9⟩, b9, k9⟩; have X9 := Xd.next b9 k9; have SF9 : ∀ ty : TypeId, ty ≠ 99 → Safe ty w w9 := fun ty hn => (SF ty hn).trans ((Safe.below gD).trans (k9 ty hn))))
              have UT := hideP (uni_two tt kk M)
              have UL := uniE_len tt kk M
              generalize hue : uniE tt kk M = M' at *
              generalize hub : uniB tt kk M = ok' at *
              clear hue hub
              go_wp2_with fail
              refine ⟨⟨i + 1, M', ok', a9, c9, rfl, rfl, by go_num, by omega, by omega, E9, X9, SF9, fun h => ?_, fun h => ?_⟩, by simp [intOf]; omega⟩
              · rcases UT.out with ⟨u1, u2, u3⟩ | ⟨e1, u1, u2, u3, _⟩
                · rw [u3] at h; cases h
                · subst u2
                  rw [HST.out, u1]; rfl
              · rcases UT.out with ⟨u1, u2, u3⟩ | ⟨e1, u1, u2, u3, _⟩
                · exact ⟨u2, by rw [HST.out, u1]; rfl⟩
                · rw [u3] at h; cases h
            · have q3 : ¬ (i : Int) < (y.args.length : Int) := by omega
              have z0 := HL.out.1 rfl
              rw [Mt.unis_done (by omega) (by have := hl'.out; omega)] at z0
              obtain ⟨z1, z2⟩ := lit_of_some z0
              have Z1 := hideP z1
              have Z2 := hideP z2
              clear z0 z1 z2
              go_wp2_with fail
              go_ret2
              rw [Z1.out, Z2.out]
              exact ⟨⟨a', c', rfl, E⟩, X.below, SF⟩
end Go.Proofs.YtdehimbfcilhpaaGreatDoor
