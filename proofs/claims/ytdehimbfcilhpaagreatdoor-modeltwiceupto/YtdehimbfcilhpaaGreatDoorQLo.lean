/-
  The program's Unify and Literal.
-/
import Derived.Test.YtdehimbfcilhpaaGreatDoorQE5
import Derived.Test.YtdehimbfcilhpaaGreatDoorQBx2
namespace Go.Proofs.YtdehimbfcilhpaaGreatDoor
open Go.RowKit Go.Lib Go.Shelf

set_option maxRecDepth 100000 in
set_option maxHeartbeats 400000 in
theorem mclip_at (a : Option Addr) (c : Nat) (L : List Bd) (w : World) (h : Row bK w a c L) : Calls Tryz.prog 110 #[.slice a L.length c] w fun e w' => e = .returned (.slice a L.length L.length) ∧ w = w' := by
  have hr := h.room
  have few := h.few
  cases a with
  | none =>
    obtain ⟨rfl, rfl⟩ := h.void rfl
    go_enter Tryz.func110, Tryz.ntmps110
    go_wp2_with fail
    go_ret
    exact ⟨rfl, rfl⟩
  | some ad =>
    have q0 : (L.length : Int) ≤ (c : Int) := by omega
    go_enter Tryz.func110, Tryz.ntmps110
    go_wp2_with fail
    go_ret
    exact ⟨rfl, rfl⟩
set_option maxRecDepth 100000 in
set_option maxHeartbeats 400000 in
theorem mown_at (a : Option Addr) (c : Nat) (L : List Bd) (w : World) (h : Row bK w a c L) (hf : L.length ≤ 1000000) : Calls Tryz.prog 111 #[.slice a L.length c] w fun e w' => (∃ a' c', e = .returned (.slice a' L.length c') ∧ RowT bK 99 w' a' c' L) ∧ Below w.heap.size w w' := by
  have o0 : w.ownsRow w.heap.size 99 bK.k (.slice none 0 0) ([] : List Bd).length (([] : List Bd).flatMap bK.enc) := World.ownsRow_nil _ _ _ _
  go_enter Tryz.func111, Tryz.ntmps111
  go_wp2_with (at_builtin; refine wpList_append_rec bK w rfl _ _ 65 99 rfl _ 48 Tryz.underlying65 Tryz.iB rfl (by decide) w.heap.size (.slice none 0 0) [] L a L.length c rfl o0 rfl rfl h (Nat.le_refl _) (by simp only [List.length_nil]; omega) ?_; intro v5 w5 o5 g5; obtain ⟨a5, c5, rfl, R5, _⟩ := own_row (D := bK) (xs := [] ++ L) o5 (by simp only [List.nil_append]; omega))
  go_ret
  exact ⟨⟨a5, c5, rfl, R5⟩, own_below o0 g5 (Nat.le_refl _)⟩

theorem tv3_cells {w : World} {b : Nat} {k : K} {T : TypeId} (H : w.heap[b]? = some (.cells (kv k).toArray T)) : w.cell? ⟨b, 0, none⟩ = some (.bool k.num) ∧ w.cell? ⟨b, 1, none⟩ = some (.int .i64 k.n) ∧ w.cell? ⟨b, 2, none⟩ = some (str k.s) := by
  refine ⟨?_, ?_, ?_⟩ <;> (rw [heap_cell H]; rfl)

set_option maxRecDepth 100000 in
set_option maxHeartbeats 800000 in
theorem mUnify_at (t : Tm) (k : K) (a : Option Addr) (c : Nat) (L : List Bd) (w : World) (h : Row bK w a c L) (hf : L.length ≤ 900000) :
    Calls Tryz.prog 79 #[tval t, kval k, .slice a L.length c] w fun e w' => (∃ a' c', e = .returned (.tuple #[.slice a' (uniE t k L).length c', .bool (uniB t k L)]) ∧ RowT bK 99 w' a' c' (uniE t k L)) ∧ Below w.heap.size w w' := by
  obtain ⟨h0, h1, A0⟩ := boxes2 w (.cells #[str t.v, .bool t.k.num, .int .i64 t.k.n, str t.k.s] 58) (.cells #[.bool k.num, .int .i64 k.n, str k.s] 56)
  have UL := uniE_len t k L
  go_enter Tryz.func79, Tryz.ntmps79
  go_wp2_with fail
  generalize hW : (w.alloc (.cells #[str t.v, .bool t.k.num, .int .i64 t.k.n, str t.k.s] 58)).alloc (.cells #[.bool k.num, .int .i64 k.n, str k.s] 56) = W at *
  have gD := (Below.refl W.heap.size W).drew
  have Ad := Below.then A0 gD
  have H0 := below_heap gD h0
  have H1 := below_heap gD h1
  have Rd := h.below Ad (Nat.le_refl _)
  have K2 : ∀ W : World, W.heap[w.heap.size]? = some (.cells (tv t).toArray 58) → W.heap[w.heap.size + 1]? = some (.cells (kv k).toArray 56) → (W.cell? ⟨w.heap.size, 0, none⟩ = some (str t.v) ∧ W.cell? ⟨w.heap.size, 1, none⟩ = some (.bool t.k.num) ∧ W.cell? ⟨w.heap.size, 2, none⟩ = some (.int .i64 t.k.n) ∧ W.cell? ⟨w.heap.size, 3, none⟩ = some (str t.k.s) ∧ W.cell? ⟨w.heap.size + 1, 0, none⟩ = some (.bool k.num) ∧ W.cell? ⟨w.heap.size + 1, 1, none⟩ = some (.int .i64 k.n) ∧ W.cell? ⟨w.heap.size + 1, 2, none⟩ = some (str k.s)) := fun W g0 g1 => by
    obtain ⟨c1, c2, c3, c4⟩ := tv_cells g0
    obtain ⟨d1, d2, d3⟩ := tv3_cells g1
    exact ⟨c1, c2, c3, c4, d1, d2, d3⟩
  have HK2 := hideP K2
  have TC := hideP (mclip_at a c L _ Rd)
  have EN : EnvAt W.drew.heap.size W.drew (.slice a L.length L.length) L := EnvAt.full fun W' hW' => by
    have := Rd.below hW' (Nat.le_refl _)
    exact ⟨Nat.le_refl _, this.few, fun hn => by
      have h9 := (this.void hn).1
      exact ⟨h9, by rw [h9]; rfl⟩, this.cells⟩
  have TU := hideP (munify_at t k W.drew.heap.size a L.length L W.drew EN (Nat.le_refl _) (by omega))
  clear K2 hW h0 h1 EN Rd
  go_region_held3 (fun W => W.cell? ⟨w.heap.size, 0, none⟩ = some (str t.v) ∧ W.cell? ⟨w.heap.size, 1, none⟩ = some (.bool t.k.num) ∧ W.cell? ⟨w.heap.size, 2, none⟩ = some (.int .i64 t.k.n) ∧ W.cell? ⟨w.heap.size, 3, none⟩ = some (str t.k.s) ∧ W.cell? ⟨w.heap.size + 1, 0, none⟩ = some (.bool k.num) ∧ W.cell? ⟨w.heap.size + 1, 1, none⟩ = some (.int .i64 k.n) ∧ W.cell? ⟨w.heap.size + 1, 2, none⟩ = some (str k.s)) (first | exact HK2.out _ J0 J1 | exact HK2.out _ H0 H1) (first
    | (go_at_call 110; refine TC.out.mono ?_; rintro e w3 ⟨rfl, rfl⟩)
    | (go_at_call 109; refine TU.out.mono ?_; rintro e w4 ⟨⟨a4, c4, rfl, E4⟩, b4, k4⟩; have J0 := k4 58 (by decide) _ _ H0; have J1 := k4 56 (by decide) _ _ H1))
  have R4 := (E4.row' (by omega)).2
  have B4 := Below.then Ad b4
  have TO := hideP (mown_at a4 c4 _ w4 R4 (by omega))
  clear E4 TU TC HK2 k4 b4 J0 J1
  go_wp2_with fail
  refine TO.out.mono ?_
  rintro e w5 ⟨⟨a5, c5, rfl, R5⟩, b5⟩
  go_wp2_with fail
  go_ret2
  exact ⟨⟨a5, c5, rfl, R5⟩, Below.then B4 b5⟩

theorem lv_cells10 {w : World} {b : Nat} {y : Lv} (H : w.heap[b]? = some (.cells (lv y).toArray 85)) :
    w.cell? ⟨b, 0, none⟩ = some (str y.by_.v) ∧ w.cell? ⟨b, 1, none⟩ = some (.bool y.by_.k.num) ∧ w.cell? ⟨b, 2, none⟩ = some (.int .i64 y.by_.k.n) ∧ w.cell? ⟨b, 3, none⟩ = some (str y.by_.k.s) ∧ w.cell? ⟨b, 4, none⟩ = some (str y.pred) ∧ w.cell? ⟨b, 5, none⟩ = some (.slice y.a y.args.length y.cap) ∧
    w.cell? ⟨b, 6, none⟩ = some (str y.at_.v) ∧ w.cell? ⟨b, 7, none⟩ = some (.bool y.at_.k.num) ∧ w.cell? ⟨b, 8, none⟩ = some (.int .i64 y.at_.k.n) ∧ w.cell? ⟨b, 9, none⟩ = some (str y.at_.k.s) := by
  refine ⟨?_, ?_, ?_, ?_, ?_, ?_, ?_, ?_, ?_, ?_⟩ <;> (rw [heap_cell H]; rfl)

/-- the cells of the three boxes -/
def Cl3 (S : Nat) (home : Tm) (y : Lv) (x : Fv) (W : World) : Prop :=
  W.cell? ⟨S, 0, none⟩ = some (str home.v) ∧ W.cell? ⟨S, 1, none⟩ = some (.bool home.k.num) ∧ W.cell? ⟨S, 2, none⟩ = some (.int .i64 home.k.n) ∧ W.cell? ⟨S, 3, none⟩ = some (str home.k.s) ∧
  W.cell? ⟨S + 1, 0, none⟩ = some (str y.by_.v) ∧ W.cell? ⟨S + 1, 1, none⟩ = some (.bool y.by_.k.num) ∧ W.cell? ⟨S + 1, 2, none⟩ = some (.int .i64 y.by_.k.n) ∧ W.cell? ⟨S + 1, 3, none⟩ = some (str y.by_.k.s) ∧ W.cell? ⟨S + 1, 4, none⟩ = some (str y.pred) ∧ W.cell? ⟨S + 1, 5, none⟩ = some (.slice y.a y.args.length y.cap) ∧
  W.cell? ⟨S + 1, 6, none⟩ = some (str y.at_.v) ∧ W.cell? ⟨S + 1, 7, none⟩ = some (.bool y.at_.k.num) ∧ W.cell? ⟨S + 1, 8, none⟩ = some (.int .i64 y.at_.k.n) ∧ W.cell? ⟨S + 1, 9, none⟩ = some (str y.at_.k.s) ∧
  W.cell? ⟨S + 2, 0, none⟩ = some (str x.at_) ∧ W.cell? ⟨S + 2, 1, none⟩ = some (str x.by_) ∧ W.cell? ⟨S + 2, 2, none⟩ = some (str x.pred) ∧ W.cell? ⟨S + 2, 3, none⟩ = some (.slice x.a x.ks.length x.cap)
theorem cl3_of {S : Nat} {home : Tm} {y : Lv} {x : Fv} {W : World} (h0 : W.heap[S]? = some (.cells (tv home).toArray 58)) (h1 : W.heap[S + 1]? = some (.cells (lv y).toArray 85)) (h2 : W.heap[S + 2]? = some (.cells (fv x).toArray 36)) : Cl3 S home y x W := by
  obtain ⟨c1, c2, c3, c4⟩ := tv_cells h0
  obtain ⟨d1, d2, d3, d4, d5, d6, d7, d8, d9, d10⟩ := lv_cells10 h1
  obtain ⟨e1, e2, e3, e4⟩ := fv_cells h2
  exact ⟨c1, c2, c3, c4, d1, d2, d3, d4, d5, d6, d7, d8, d9, d10, e1, e2, e3, e4⟩

set_option maxRecDepth 100000 in
set_option maxHeartbeats 1000000 in
theorem mLiteral_at (home : Tm) (y : Lv) (x : Fv) (a : Option Addr) (c : Nat) (L : List Bd) (w : World) (h : Row bK w a c L) (hf : L.length + y.args.length ≤ 800000) (hy : Lv.Aw w y) (hx : Fv.At w x) :
    Calls Tryz.prog 142 #[tval home, lval y, x.val, .slice a L.length c] w fun e w' => (∃ a' c', e = .returned (.tuple #[.slice a' (litE home y.l x.f L).length c', .bool (litB home y.l x.f L)]) ∧ RowT bK 99 w' a' c' (litE home y.l x.f L)) ∧ Below w.heap.size w w' := by
  obtain ⟨h0, h1, h2, A0⟩ := boxes3 w (.cells #[str home.v, .bool home.k.num, .int .i64 home.k.n, str home.k.s] 58) (.cells #[str y.by_.v, .bool y.by_.k.num, .int .i64 y.by_.k.n, str y.by_.k.s, str y.pred, .slice y.a y.args.length y.cap, str y.at_.v, .bool y.at_.k.num, .int .i64 y.at_.k.n, str y.at_.k.s] 85) (.cells #[str x.at_, str x.by_, str x.pred, .slice x.a x.ks.length x.cap] 36)
  have UL : (litE home y.l x.f L).length ≤ L.length + (y.args.length + 2) := litE_len home y.l x.f L
  go_enter Tryz.func142, Tryz.ntmps142
  go_wp2_with fail
  generalize hW : ((w.alloc (.cells #[str home.v, .bool home.k.num, .int .i64 home.k.n, str home.k.s] 58)).alloc (.cells #[str y.by_.v, .bool y.by_.k.num, .int .i64 y.by_.k.n, str y.by_.k.s, str y.pred, .slice y.a y.args.length y.cap, str y.at_.v, .bool y.at_.k.num, .int .i64 y.at_.k.n, str y.at_.k.s] 85)).alloc (.cells #[str x.at_, str x.by_, str x.pred, .slice x.a x.ks.length x.cap] 36) = W at *
  have gD := (Below.refl W.heap.size W).drew
  have Ad := Below.then A0 gD
  have H0 := below_heap gD h0
  have H1 := below_heap gD h1
  have H2 := below_heap gD h2
  have Rd := h.below Ad (Nat.le_refl _)
  have TC := hideP (mclip_at a c L _ Rd)
  have EN : EnvAt W.drew.heap.size W.drew (.slice a L.length L.length) L := EnvAt.full fun W' hW' => by
    have := Rd.below hW' (Nat.le_refl _)
    exact ⟨Nat.le_refl _, this.few, fun hn => by
      have h9 := (this.void hn).1
      exact ⟨h9, by rw [h9]; rfl⟩, this.cells⟩
  have TU := hideP (mliteral_at home y x W.drew.heap.size a L.length L W.drew EN (Nat.le_refl _) (by omega) (fun W' hW' => (hy.below Ad (Nat.le_refl _)).below hW' (Nat.le_refl _)) (fun W' hW' => (hx.below Ad (Nat.le_refl _)).below hW' (Nat.le_refl _)))
  clear hW h0 h1 h2 EN Rd hy hx
  go_region_held3 (fun W => W.cell? ⟨w.heap.size, 0, none⟩ = some (str home.v) ∧ W.cell? ⟨w.heap.size, 1, none⟩ = some (.bool home.k.num) ∧ W.cell? ⟨w.heap.size, 2, none⟩ = some (.int .i64 home.k.n) ∧ W.cell? ⟨w.heap.size, 3, none⟩ = some (str home.k.s) ∧
    W.cell? ⟨w.heap.size + 1, 0, none⟩ = some (str y.by_.v) ∧ W.cell? ⟨w.heap.size + 1, 1, none⟩ = some (.bool y.by_.k.num) ∧ W.cell? ⟨w.heap.size + 1, 2, none⟩ = some (.int .i64 y.by_.k.n) ∧ W.cell? ⟨w.heap.size + 1, 3, none⟩ = some (str y.by_.k.s) ∧ W.cell? ⟨w.heap.size + 1, 4, none⟩ = some (str y.pred) ∧ W.cell? ⟨w.heap.size + 1, 5, none⟩ = some (.slice y.a y.args.length y.cap) ∧
    W.cell? ⟨w.heap.size + 1, 6, none⟩ = some (str y.at_.v) ∧ W.cell? ⟨w.heap.size + 1, 7, none⟩ = some (.bool y.at_.k.num) ∧ W.cell? ⟨w.heap.size + 1, 8, none⟩ = some (.int .i64 y.at_.k.n) ∧ W.cell? ⟨w.heap.size + 1, 9, none⟩ = some (str y.at_.k.s) ∧
    W.cell? ⟨w.heap.size + 2, 0, none⟩ = some (str x.at_) ∧ W.cell? ⟨w.heap.size + 2, 1, none⟩ = some (str x.by_) ∧ W.cell? ⟨w.heap.size + 2, 2, none⟩ = some (str x.pred) ∧ W.cell? ⟨w.heap.size + 2, 3, none⟩ = some (.slice x.a x.ks.length x.cap)) (first | exact cl3_of J0 J1 J2 | exact cl3_of H0 H1 H2) (first
    | (go_at_call 110; refine TC.out.mono ?_; rintro e w3 ⟨rfl, rfl⟩)
    | (go_at_call 164; refine TU.out.mono ?_; rintro e w4 ⟨⟨a4, c4, rfl, E4⟩, b4, k4⟩; have J0 := k4 58 (by decide) _ _ H0; have J1 := k4 85 (by decide) _ _ H1; have J2 := k4 36 (by decide) _ _ H2))
  have R4 := (E4.row' (by omega)).2
  have B4 := Below.then Ad b4
  have TO := hideP (mown_at a4 c4 _ w4 R4 (by omega))
  clear E4 TU TC k4 b4 J0 J1 J2
  go_wp2_with fail
  refine TO.out.mono ?_
  rintro e w5 ⟨⟨a5, c5, rfl, R5⟩, b5⟩
  go_wp2_with fail
  go_ret2
  exact ⟨⟨a5, c5, rfl, R5⟩, Below.then B4 b5⟩
end Go.Proofs.YtdehimbfcilhpaaGreatDoor

/-
  The program's Literal: what it tells is a row of the call's own.
-/
namespace Go.Proofs.YtdehimbfcilhpaaGreatDoor
open Go.RowKit Go.Lib Go.Shelf

theorem ownsRow_base {w : World} {base base' : Nat} {e : TypeId} {size : Nat} {v : Value} {n : Nat} {xs : List Value} (h : w.ownsRow base e size v n xs) (hb : base' ≤ base) : w.ownsRow base' e size v n xs := by
  obtain ⟨h1, h2⟩ := h
  refine ⟨h1, ?_⟩
  rcases h2 with h2 | ⟨g, cap, cur, hv, hg, r⟩
  · exact .inl h2
  · exact .inr ⟨g, cap, cur, hv, Nat.le_trans hb hg, r⟩
set_option maxRecDepth 100000 in
theorem mownO_at (a : Option Addr) (c : Nat) (L : List Bd) (w : World) (h : Row bK w a c L) (hf : L.length ≤ 1000000) : Calls Tryz.prog 111 #[.slice a L.length c] w fun e w' => (∃ v', e = .returned v' ∧ w'.ownsRow w.heap.size 99 bK.k v' L.length (L.flatMap bK.enc)) ∧ Below w.heap.size w w' := by
  have o0 : w.ownsRow w.heap.size 99 bK.k (.slice none 0 0) ([] : List Bd).length (([] : List Bd).flatMap bK.enc) := World.ownsRow_nil _ _ _ _
  go_enter Tryz.func111, Tryz.ntmps111
  go_wp2_with (at_builtin; refine wpList_append_rec bK w rfl _ _ 65 99 rfl _ 48 Tryz.underlying65 Tryz.iB rfl (by decide) w.heap.size (.slice none 0 0) [] L a L.length c rfl o0 rfl rfl h (Nat.le_refl _) (by simp only [List.length_nil]; omega) ?_; intro v5 w5 o5 g5; obtain ⟨a5, c5, rfl, R5, _⟩ := own_row (D := bK) (xs := [] ++ L) o5 (by simp only [List.nil_append]; omega))
  go_ret
  exact ⟨⟨_, rfl, by simpa using o5⟩, own_below o0 g5 (Nat.le_refl _)⟩

set_option maxRecDepth 100000 in
set_option maxHeartbeats 1000000 in
theorem mLiteralO_at (home : Tm) (y : Lv) (x : Fv) (a : Option Addr) (c : Nat) (L : List Bd) (w : World) (h : Row bK w a c L) (hf : L.length + y.args.length ≤ 800000) (hy : Lv.Aw w y) (hx : Fv.At w x) :
    Calls Tryz.prog 142 #[tval home, lval y, x.val, .slice a L.length c] w fun e w' => (∃ a' c', e = .returned (.tuple #[.slice a' (litE home y.l x.f L).length c', .bool (litB home y.l x.f L)]) ∧ w'.ownsRow w.heap.size 99 bK.k (.slice a' (litE home y.l x.f L).length c') (litE home y.l x.f L).length ((litE home y.l x.f L).flatMap bK.enc)) ∧ Below w.heap.size w w' := by
  obtain ⟨h0, h1, h2, A0⟩ := boxes3 w (.cells #[str home.v, .bool home.k.num, .int .i64 home.k.n, str home.k.s] 58) (.cells #[str y.by_.v, .bool y.by_.k.num, .int .i64 y.by_.k.n, str y.by_.k.s, str y.pred, .slice y.a y.args.length y.cap, str y.at_.v, .bool y.at_.k.num, .int .i64 y.at_.k.n, str y.at_.k.s] 85) (.cells #[str x.at_, str x.by_, str x.pred, .slice x.a x.ks.length x.cap] 36)
  have UL : (litE home y.l x.f L).length ≤ L.length + (y.args.length + 2) := litE_len home y.l x.f L
  go_enter Tryz.func142, Tryz.ntmps142
  go_wp2_with fail
  generalize hW : ((w.alloc (.cells #[str home.v, .bool home.k.num, .int .i64 home.k.n, str home.k.s] 58)).alloc (.cells #[str y.by_.v, .bool y.by_.k.num, .int .i64 y.by_.k.n, str y.by_.k.s, str y.pred, .slice y.a y.args.length y.cap, str y.at_.v, .bool y.at_.k.num, .int .i64 y.at_.k.n, str y.at_.k.s] 85)).alloc (.cells #[str x.at_, str x.by_, str x.pred, .slice x.a x.ks.length x.cap] 36) = W at *
  have gD := (Below.refl W.heap.size W).drew
  have Ad := Below.then A0 gD
  have H0 := below_heap gD h0
  have H1 := below_heap gD h1
  have H2 := below_heap gD h2
  have Rd := h.below Ad (Nat.le_refl _)
  have TC := hideP (mclip_at a c L _ Rd)
  have EN : EnvAt W.drew.heap.size W.drew (.slice a L.length L.length) L := EnvAt.full fun W' hW' => by
    have := Rd.below hW' (Nat.le_refl _)
    exact ⟨Nat.le_refl _, this.few, fun hn => by
      have h9 := (this.void hn).1
      exact ⟨h9, by rw [h9]; rfl⟩, this.cells⟩
  have TU := hideP (mliteral_at home y x W.drew.heap.size a L.length L W.drew EN (Nat.le_refl _) (by omega) (fun W' hW' => (hy.below Ad (Nat.le_refl _)).below hW' (Nat.le_refl _)) (fun W' hW' => (hx.below Ad (Nat.le_refl _)).below hW' (Nat.le_refl _)))
  clear hW h0 h1 h2 EN Rd hy hx
  go_region_held3 (fun W => W.cell? ⟨w.heap.size, 0, none⟩ = some (str home.v) ∧ W.cell? ⟨w.heap.size, 1, none⟩ = some (.bool home.k.num) ∧ W.cell? ⟨w.heap.size, 2, none⟩ = some (.int .i64 home.k.n) ∧ W.cell? ⟨w.heap.size, 3, none⟩ = some (str home.k.s) ∧
    W.cell? ⟨w.heap.size + 1, 0, none⟩ = some (str y.by_.v) ∧ W.cell? ⟨w.heap.size + 1, 1, none⟩ = some (.bool y.by_.k.num) ∧ W.cell? ⟨w.heap.size + 1, 2, none⟩ = some (.int .i64 y.by_.k.n) ∧ W.cell? ⟨w.heap.size + 1, 3, none⟩ = some (str y.by_.k.s) ∧ W.cell? ⟨w.heap.size + 1, 4, none⟩ = some (str y.pred) ∧ W.cell? ⟨w.heap.size + 1, 5, none⟩ = some (.slice y.a y.args.length y.cap) ∧
    W.cell? ⟨w.heap.size + 1, 6, none⟩ = some (str y.at_.v) ∧ W.cell? ⟨w.heap.size + 1, 7, none⟩ = some (.bool y.at_.k.num) ∧ W.cell? ⟨w.heap.size + 1, 8, none⟩ = some (.int .i64 y.at_.k.n) ∧ W.cell? ⟨w.heap.size + 1, 9, none⟩ = some (str y.at_.k.s) ∧
    W.cell? ⟨w.heap.size + 2, 0, none⟩ = some (str x.at_) ∧ W.cell? ⟨w.heap.size + 2, 1, none⟩ = some (str x.by_) ∧ W.cell? ⟨w.heap.size + 2, 2, none⟩ = some (str x.pred) ∧ W.cell? ⟨w.heap.size + 2, 3, none⟩ = some (.slice x.a x.ks.length x.cap)) (first | exact cl3_of J0 J1 J2 | exact cl3_of H0 H1 H2) (first
    | (go_at_call 110; refine TC.out.mono ?_; rintro e w3 ⟨rfl, rfl⟩)
    | (go_at_call 164; refine TU.out.mono ?_; rintro e w4 ⟨⟨a4, c4, rfl, E4⟩, b4, k4⟩; have J0 := k4 58 (by decide) _ _ H0; have J1 := k4 85 (by decide) _ _ H1; have J2 := k4 36 (by decide) _ _ H2))
  have R4 := (E4.row' (by omega)).2
  have B4 := Below.then Ad b4
  have TO := hideP (mownO_at a4 c4 _ w4 R4 (by omega))
  clear E4 TU TC k4 b4 J0 J1 J2
  go_wp2_with fail
  refine TO.out.mono ?_
  rintro e w5 ⟨⟨v5, rfl, o5⟩, b5⟩
  obtain ⟨a5, c5, rfl, R5, _⟩ := own_row (D := bK) o5 (by omega)
  go_wp2_with fail
  go_ret2
  exact ⟨⟨a5, c5, rfl, ownsRow_base o5 B4.size⟩, Below.then B4 b5⟩
set_option maxRecDepth 100000 in
set_option maxHeartbeats 800000 in
theorem mUnifyO_at (t : Tm) (k : K) (a : Option Addr) (c : Nat) (L : List Bd) (w : World) (h : Row bK w a c L) (hf : L.length ≤ 900000) :
    Calls Tryz.prog 79 #[tval t, kval k, .slice a L.length c] w fun e w' => (∃ a' c', e = .returned (.tuple #[.slice a' (uniE t k L).length c', .bool (uniB t k L)]) ∧ RowT bK 99 w' a' c' (uniE t k L) ∧ From w.heap.size a') ∧ Below w.heap.size w w' := by
  obtain ⟨h0, h1, A0⟩ := boxes2 w (.cells #[str t.v, .bool t.k.num, .int .i64 t.k.n, str t.k.s] 58) (.cells #[.bool k.num, .int .i64 k.n, str k.s] 56)
  have UL := uniE_len t k L
  go_enter Tryz.func79, Tryz.ntmps79
  go_wp2_with fail
  generalize hW : (w.alloc (.cells #[str t.v, .bool t.k.num, .int .i64 t.k.n, str t.k.s] 58)).alloc (.cells #[.bool k.num, .int .i64 k.n, str k.s] 56) = W at *
  have gD := (Below.refl W.heap.size W).drew
  have Ad := Below.then A0 gD
  have H0 := below_heap gD h0
  have H1 := below_heap gD h1
  have Rd := h.below Ad (Nat.le_refl _)
  have K2 : ∀ W : World, W.heap[w.heap.size]? = some (.cells (tv t).toArray 58) → W.heap[w.heap.size + 1]? = some (.cells (kv k).toArray 56) → (W.cell? ⟨w.heap.size, 0, none⟩ = some (str t.v) ∧ W.cell? ⟨w.heap.size, 1, none⟩ = some (.bool t.k.num) ∧ W.cell? ⟨w.heap.size, 2, none⟩ = some (.int .i64 t.k.n) ∧ W.cell? ⟨w.heap.size, 3, none⟩ = some (str t.k.s) ∧ W.cell? ⟨w.heap.size + 1, 0, none⟩ = some (.bool k.num) ∧ W.cell? ⟨w.heap.size + 1, 1, none⟩ = some (.int .i64 k.n) ∧ W.cell? ⟨w.heap.size + 1, 2, none⟩ = some (str k.s)) := fun W g0 g1 => by
    obtain ⟨c1, c2, c3, c4⟩ := tv_cells g0
    obtain ⟨d1, d2, d3⟩ := tv3_cells g1
    exact ⟨c1, c2, c3, c4, d1, d2, d3⟩
  have HK2 := hideP K2
  have TC := hideP (mclip_at a c L _ Rd)
  have EN : EnvAt W.drew.heap.size W.drew (.slice a L.length L.length) L := EnvAt.full fun W' hW' => by
    have := Rd.below hW' (Nat.le_refl _)
    exact ⟨Nat.le_refl _, this.few, fun hn => by
      have h9 := (this.void hn).1
      exact ⟨h9, by rw [h9]; rfl⟩, this.cells⟩
  have TU := hideP (munify_at t k W.drew.heap.size a L.length L W.drew EN (Nat.le_refl _) (by omega))
  clear K2 hW h0 h1 EN Rd
  go_region_held3 (fun W => W.cell? ⟨w.heap.size, 0, none⟩ = some (str t.v) ∧ W.cell? ⟨w.heap.size, 1, none⟩ = some (.bool t.k.num) ∧ W.cell? ⟨w.heap.size, 2, none⟩ = some (.int .i64 t.k.n) ∧ W.cell? ⟨w.heap.size, 3, none⟩ = some (str t.k.s) ∧ W.cell? ⟨w.heap.size + 1, 0, none⟩ = some (.bool k.num) ∧ W.cell? ⟨w.heap.size + 1, 1, none⟩ = some (.int .i64 k.n) ∧ W.cell? ⟨w.heap.size + 1, 2, none⟩ = some (str k.s)) (first | exact HK2.out _ J0 J1 | exact HK2.out _ H0 H1) (first
    | (go_at_call 110; refine TC.out.mono ?_; rintro e w3 ⟨rfl, rfl⟩)
    | (go_at_call 109; refine TU.out.mono ?_; rintro e w4 ⟨⟨a4, c4, rfl, E4⟩, b4, k4⟩; have J0 := k4 58 (by decide) _ _ H0; have J1 := k4 56 (by decide) _ _ H1))
  have R4 := (E4.row' (by omega)).2
  have B4 := Below.then Ad b4
  have TO := hideP (mownO_at a4 c4 _ w4 R4 (by omega))
  clear E4 TU TC HK2 k4 b4 J0 J1
  go_wp2_with fail
  refine TO.out.mono ?_
  rintro e w5 ⟨⟨v5, rfl, o5⟩, b5⟩
  obtain ⟨a5, c5, rfl, R5, F5⟩ := own_row (D := bK) o5 (by omega)
  go_wp2_with fail
  go_ret2
  exact ⟨⟨a5, c5, rfl, R5, From.mono F5 B4.size⟩, Below.then B4 b5⟩
end Go.Proofs.YtdehimbfcilhpaaGreatDoor
