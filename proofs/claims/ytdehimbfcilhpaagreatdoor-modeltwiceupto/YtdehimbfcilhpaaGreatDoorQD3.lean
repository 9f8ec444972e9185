/-
  The reference's Literal.
-/
import Derived.Test.YtdehimbfcilhpaaGreatDoorQD2
import Derived.Test.YtdehimbfcilhpaaGreatDoorQE5
import Derived.Test.YtdehimbfcilhpaaGreatDoorQE9
namespace Go.Proofs.YtdehimbfcilhpaaGreatDoor
open Go.RowKit Go.Lib Go.Shelf

theorem by1_cases (l : Lt) (f : F) (e : Mt.Env) : (Mt.nul l.by_ = true ∧ f.by_ = f.at_ ∧ Mt.by1 l f e = some e) ∨ (Mt.nul l.by_ = true ∧ f.by_ ≠ f.at_ ∧ Mt.by1 l f e = none) ∨ (Mt.nul l.by_ = false ∧ Mt.by1 l f e = Mt.uni l.by_ (Mt.nm f.by_) e) := by
  unfold Mt.by1
  cases hn : Mt.nul l.by_ with
  | true =>
    by_cases h : f.by_ = f.at_
    · exact .inl ⟨rfl, h, by simp [h]⟩
    · exact .inr (.inl ⟨rfl, h, by simp [h]⟩)
  | false => exact .inr (.inr ⟨rfl, by simp⟩)

set_option maxRecDepth 100000 in
set_option maxHeartbeats 4000000 in
theorem rLiteral_at (home : Tm) (y : Lv) (x : Fv) (a : Option Addr) (c : Nat) (L : List Bd) (w : World) (h : Row bK w a c L) (hf : L.length + y.args.length ≤ 800000) (hy : Lv.Aw w y) (hx : Fv.At w x) :
    Calls Tryz.prog 54 #[tval home, lval y, x.val, .slice a L.length c] w fun e w' => (∃ a' c', e = .returned (.tuple #[.slice a' (litE home y.l x.f L).length c', .bool (litB home y.l x.f L)]) ∧ Row bK w' a' c' (litE home y.l x.f L)) ∧ Below w.heap.size w w' := by
  have iT : (Tryz.prog.info? 58).map (·.size) = some 4 := by kernel_rfl
  have hyf := Row.few (show Row tK w y.a y.cap y.args from hy)
  have hxf := ArgsAt.few (show ArgsAt w x.a x.cap x.ks from hx)
  obtain ⟨h0, h1, h2, A0⟩ := boxes3 w (.cells #[str home.v, .bool home.k.num, .int .i64 home.k.n, str home.k.s] 58) (.cells #[str y.by_.v, .bool y.by_.k.num, .int .i64 y.by_.k.n, str y.by_.k.s, str y.pred, .slice y.a y.args.length y.cap, str y.at_.v, .bool y.at_.k.num, .int .i64 y.at_.k.n, str y.at_.k.s] 85) (.cells #[str x.at_, str x.by_, str x.pred, .slice x.a x.ks.length x.cap] 36)
  by_cases hc : y.pred = x.pred ∧ y.args.length = x.ks.length
  rotate_left
  · obtain ⟨z1, z2⟩ := lit_of_none (Mt.lit_no (home := home) (l := y.l) (f := x.f) (e := L) hc)
    rw [z1, z2]
    by_cases hp : y.pred = x.pred
    · have q1 : (y.pred == x.pred) = true := by simpa using hp
      have q2 : ((y.args.length : Int) != (x.ks.length : Int)) = true := by
        rw [bne_iff_ne]; intro h; exact hc ⟨hp, by omega⟩
      clear hp hc hy hx
      go_enter Tryz.func54, Tryz.ntmps54
      go_wp2_with fail
      go_ret2
      exact ⟨⟨none, 0, rfl, Row.nil _ _⟩, A0⟩
    · have q1 : (y.pred == x.pred) = false := by simpa using hp
      clear hp hc hy hx
      go_enter Tryz.func54, Tryz.ntmps54
      go_wp2_with fail
      go_ret2
      exact ⟨⟨none, 0, rfl, Row.nil _ _⟩, A0⟩
  · obtain ⟨hp, hl⟩ := hc
    have q1 : (y.pred == x.pred) = true := by simpa using hp
    have q2 : ((y.args.length : Int) != (x.ks.length : Int)) = false := by simp; omega
    have LY := hideP (fun h => Mt.lit_one_no (home := home) (l := y.l) (f := x.f) (e := L) hp hl h)
    have LS := hideP (fun e1 h => Mt.lit_oneR (home := home) (l := y.l) (f := x.f) (e := L) (e1 := e1) hp hl h)
    have hl' := hideP hl
    have HA : Hid (Mt.at1 home y.l = if Mt.nul y.at_ = true then home else y.at_) := rfl
    have TN := hideP (fun t W => rnone11_at t W)
    generalize hW : ((w.alloc (.cells #[str home.v, .bool home.k.num, .int .i64 home.k.n, str home.k.s] 58)).alloc (.cells #[str y.by_.v, .bool y.by_.k.num, .int .i64 y.by_.k.n, str y.by_.k.s, str y.pred, .slice y.a y.args.length y.cap, str y.at_.v, .bool y.at_.k.num, .int .i64 y.at_.k.n, str y.at_.k.s] 85)).alloc (.cells #[str x.at_, str x.by_, str x.pred, .slice x.a x.ks.length x.cap] 36) = W at *
    have hs0 : W.heap.size = w.heap.size + 1 + 1 + 1 := by rw [← hW]; simp
    have X0 : Bx3 w.heap.size w.heap.size home y x w W := ⟨A0, A0.size, h0, h1, h2⟩
    have r6 : W.rangeAt (w.heap.size + 1) 6 (tv y.at_) := World.rangeAt_of_block h1 6 4
    have H3 := heap_alloc_new W (.cells #[.string { data := #[] }, .bool false, .int .i64 0, .string { data := #[] }] 58)
    have A3 := below_alloc W (.cells #[.string { data := #[] }, .bool false, .int .i64 0, .string { data := #[] }] 58)
    rw [hs0] at H3
    have r7 : (W.alloc (.cells #[.string { data := #[] }, .bool false, .int .i64 0, .string { data := #[] }] 58)).rangeAt (w.heap.size + 1) 6 (tv y.at_) := World.rangeAt_of_block (below_heap A3 h1) 6 4
    clear hp hl h0 h1 h2
    go_enter Tryz.func54, Tryz.ntmps54
    subst hW
    go_wp2_with (first | (refine wpList_load_mid rfl 58 _ rfl (w.heap.size + 1) 6 rfl (tv y.at_) _ r6 Tryz.underlying58 rfl iT ?_) | (refine wpList_load_mid rfl 58 _ rfl (w.heap.size + 1) 6 rfl (tv y.at_) _ r7 Tryz.underlying58 rfl iT ?_) | (refine wpList_store_all rfl 58 _ _ rfl (w.heap.size + 1 + 1 + 1) 4 _ 58 (tv y.at_) rfl rfl H3 rfl rfl iT rfl ?_; intro w1 G3 b1; have T1 := A3.trans (b1.lower (B := w.heap.size + 1 + 1 + 1) (Nat.le_refl _) (Nat.le_of_lt (heap_lt H3)) |>.mono (Nat.le_of_eq hs0))) | (refine wpList_load_all rfl 58 _ rfl (w.heap.size + 1 + 1 + 1) 4 58 (tv y.at_) _ rfl G3 rfl Tryz.underlying58 rfl iT ?_))
    have X1 := X0.then T1 (by omega)
    clear X0 T1 b1 H3 A3 r6 r7 hs0 A0
    refine (TN.out y.at_ w1).mono ?_
    rintro e w2 ⟨rfl, b2⟩
    have s1 := X1.size
    have X2 := X1.then b2 s1
    have G2 := below_heap b2 G3
    clear X1 b2 G3 s1
    generalize hq : Mt.nul y.at_ = q at *
    clear hq
    cases q with
    | true =>
      have HA1 : Hid (Mt.at1 home y.l = home) := HA.out
      have s2 := X2.size
      have n3 := heap_lt G2
      go_wp2_with (first | (refine wpList_load_all rfl 58 _ rfl w.heap.size 4 58 (tv home) _ rfl X2.h0 rfl Tryz.underlying58 rfl iT ?_) | (refine wpList_store_all rfl 58 _ _ rfl (w.heap.size + 1 + 1 + 1) 4 _ 58 (tv home) rfl rfl G2 rfl rfl iT rfl ?_; intro w3 G3 b3))
      have X3 : Bx3 w.heap.size w.heap.size home y x w w3 := ⟨X2.below.trans (b3.lower (by omega) s2), Nat.le_trans s2 b3.size, b3.heap (by omega) X2.h0, b3.heap (by omega) X2.h1, b3.heap (by omega) X2.h2⟩
      rw [HA1.out] at LY LS
      clear X2 G2 b3 s2 n3 HA HA1
      have s3 := X3.size
      have gD := (Below.refl w3.heap.size w3).drew
      have X3d := X3.then gD s3
      have G3d := below_heap gD G3
      have s3d := X3d.size
      have K2 : ∀ W, W.heap[w.heap.size + 1 + 1 + 1]? = some (.cells (tv home).toArray 58) → Bx3 w.heap.size w.heap.size home y x w W → (W.cell? ⟨w.heap.size + 1 + 1 + 1, 0, none⟩ = some (str home.v) ∧ W.cell? ⟨w.heap.size + 1 + 1 + 1, 1, none⟩ = some (.bool home.k.num) ∧ W.cell? ⟨w.heap.size + 1 + 1 + 1, 2, none⟩ = some (.int .i64 home.k.n) ∧ W.cell? ⟨w.heap.size + 1 + 1 + 1, 3, none⟩ = some (str home.k.s) ∧ W.cell? ⟨w.heap.size + 2, 0, none⟩ = some (str x.at_)) := fun W h1 h2 => by
        obtain ⟨c1, c2, c3, c4⟩ := tv_cells h1
        exact ⟨c1, c2, c3, c4, (fv_cells h2.h2).1⟩
      have HK2 := hideP K2
      clear K2
      have TT := hideP (fun W => rName_at x.at_ W)
      have TU := hideP (fun W h1 => rUnify_at home (Mt.nm x.at_) a c L W h1 (by omega))
      go_region_held3 (fun W => W.cell? ⟨w.heap.size + 1 + 1 + 1, 0, none⟩ = some (str home.v) ∧ W.cell? ⟨w.heap.size + 1 + 1 + 1, 1, none⟩ = some (.bool home.k.num) ∧ W.cell? ⟨w.heap.size + 1 + 1 + 1, 2, none⟩ = some (.int .i64 home.k.n) ∧ W.cell? ⟨w.heap.size + 1 + 1 + 1, 3, none⟩ = some (str home.k.s) ∧ W.cell? ⟨w.heap.size + 2, 0, none⟩ = some (str x.at_)) (first | exact HK2.out _ G5 X5 | exact HK2.out _ G4 X4 | exact HK2.out _ G3d X3d) (first
        | (go_at_call 28; refine (TT.out _).mono ?_; rintro e w4 ⟨rfl, b4⟩; have X4 := X3d.then b4 s3d; have G4 := below_heap b4 G3d; have s4 := X4.size)
        | (go_at_call 27; refine (TU.out _ (h.below X4.below (Nat.le_refl _))).mono ?_; rintro e w5 ⟨⟨a5, c5, rfl, E5⟩, b5⟩; have X5 := X4.then b5 s4; have G5 := below_heap b5 G4))
      clear TU TT HK2 gD X3 X3d G3 G3d X4 G4 s3 s3d s4 b4 b5 G5
      rcases uni_two home (Mt.nm x.at_) L with ⟨u1, u2, u3⟩ | ⟨e1, u1, u2, u3, u4⟩
      · rw [u3]
        obtain ⟨z1, z2⟩ := lit_of_none (LY.out u1)
        have Z1 := hideP z1
        have Z2 := hideP z2
        clear u1 u2 u3 z1 z2 LY LS
        go_wp2_with fail
        go_ret2
        rw [Z1.out, Z2.out]
        exact ⟨⟨none, 0, rfl, Row.nil _ _⟩, X5.below⟩
      · rw [u2] at E5 ⊢
        rw [u3]
        have L1 : Hid (Mt.lit home y.l x.f L = (Mt.by1 y.l x.f e1).bind fun e2 => Mt.unis y.args x.ks e2) := LS.out e1 u1
        have BC := hideP (by1_cases y.l x.f e1)
        clear u1 u2 u3 LY LS
        have rb := (lit_parts10 X5.h1).1
        have TB := hideP (TN.out y.by_)
        go_wp2_with (refine wpList_load_mid rfl 58 _ rfl (w.heap.size + 1) 0 rfl (tv y.by_) _ rb Tryz.underlying58 rfl iT ?_)
        refine (TB.out w5).mono ?_
        rintro e w6 ⟨rfl, b6⟩
        have s5 := X5.size
        have X6 := X5.then b6 s5
        have E6 := E5.below b6 (Nat.le_refl _)
        clear X5 E5 b6 s5 rb TB TN
        obtain ⟨m0, m1, _, _⟩ := fv_cells X6.h2
        rcases BC.out with ⟨v1, v2, v3⟩ | ⟨v1, v2, v3⟩ | ⟨v1, v3⟩
        · have v1' : Mt.nul y.by_ = true := v1
          have v4 : x.by_ = x.at_ := v2
          have v2' : (x.by_ == x.at_) = true := by simpa using v4
          clear v4
          rw [v1']
          have L2 := L1.out
          rw [v3] at L2
          have L3 : Hid (Mt.lit home y.l x.f L = Mt.unis (y.args.drop 0) (x.ks.drop 0) e1) := L2
          clear v1 v2 v3 v1' L1 L2 BC
          go_wp2_with fail
          go_loopw [11, 12, 13] (fun v11 _ v13 wr => ∃ (i : Nat) (M : List Bd) (a' : Option Addr) (c' : Nat), v11 = .slice a' M.length c' ∧ v13 = .int .i64 (i : Int) ∧ i ≤ y.args.length ∧ M.length ≤ L.length + 2 + i ∧ Row bK wr a' c' M ∧ Bx3 w.heap.size w.heap.size home y x w wr ∧ Hid (Mt.lit home y.l x.f L = Mt.unis (y.args.drop i) (x.ks.drop i) M)) (fun _ _ v13 _ => y.args.length - (intOf v13).toNat)
          case atStart => exact ⟨0, e1, a5, c5, rfl, rfl, Nat.zero_le _, by omega, E6, X6, L3⟩
          case round =>
            obtain ⟨i, M, a', c', rfl, rfl, hi, hM, E, X, HL⟩ := hrel
            have cl := (lv_cells X.h1).2.2.2.2
            by_cases hlt : i < y.args.length
            · have q3 : (i : Int) < (y.args.length : Int) := by omega
              have hlt' : i < x.ks.length := by have := hl'.out; omega
              have q4 : (i : Int) < (x.ks.length : Int) := by omega
              have ST := HL.out
              rw [Mt.unis_step hlt hlt'] at ST
              have HST := hideP ST
              clear ST HL
              obtain ⟨P1, O1, hP⟩ := Row.addr (show Row tK w y.a y.cap y.args from hy) (Nat.lt_of_le_of_lt (Nat.zero_le _) hlt)
              obtain ⟨P2, O2, hQ⟩ := ArgsAt.addr (show ArgsAt w x.a x.cap x.ks from hx) (by omega)
              have s8 := X.size
              have gD := (Below.refl wr.heap.size wr).drew
              have Xd := X.then gD s8
              have Ed := E.below gD (Nat.le_refl _)
              have s8d := Xd.size
              have K2 : ∀ W, Bx3 w.heap.size w.heap.size home y x w W → (W.cell? ⟨w.heap.size + 1, 5, none⟩ = some (.slice (some ⟨P1, O1, none⟩) y.args.length y.cap) ∧ W.cell? ⟨P1, O1 + i * 4, none⟩ = some (str (y.args[i]'hlt).v) ∧ W.cell? ⟨P1, O1 + i * 4 + 1, none⟩ = some (.bool (y.args[i]'hlt).k.num) ∧ W.cell? ⟨P1, O1 + i * 4 + 2, none⟩ = some (.int .i64 (y.args[i]'hlt).k.n) ∧ W.cell? ⟨P1, O1 + i * 4 + 3, none⟩ = some (str (y.args[i]'hlt).k.s) ∧ W.cell? ⟨w.heap.size + 2, 3, none⟩ = some (.slice (some ⟨P2, O2, none⟩) x.ks.length x.cap) ∧ W.cell? ⟨P2, O2 + i * 3, none⟩ = some (.bool (x.ks[i]'hlt').num) ∧ W.cell? ⟨P2, O2 + i * 3 + 1, none⟩ = some (.int .i64 (x.ks[i]'hlt').n) ∧ W.cell? ⟨P2, O2 + i * 3 + 2, none⟩ = some (str (x.ks[i]'hlt').s)) := fun W h2 => by
                have d5 := (lv_cells h2.h1).2.2.2.2
                have d3 := (fv_cells h2.h2).2.2.2
                have r1 : Row tK W y.a y.cap y.args := hy.below h2.below (Nat.le_refl _)
                have r2 : ArgsAt W x.a x.cap x.ks := hx.below h2.below (Nat.le_refl _)
                rw [hP] at d5 r1
                rw [hQ] at d3 r2
                have r3 := r1.range i hlt
                obtain ⟨m1, m2, m3⟩ := r2.get i hlt'
                exact ⟨d5, r3 0 _ rfl, r3 1 _ rfl, r3 2 _ rfl, r3 3 _ rfl, d3, m1, m2, m3⟩
              have HK2 := hideP K2
              rw [hP] at cl
              clear K2 hP hQ
              generalize (y.args[i]'hlt) = tt at *
              generalize (x.ks[i]'hlt') = kk at *
              have TU := hideP (fun W h1 => rUnify_at tt kk a' c' M W h1 (by omega))
              go_wp2_with fail
              go_region_held3 (fun W => W.cell? ⟨w.heap.size + 1, 5, none⟩ = some (.slice (some ⟨P1, O1, none⟩) y.args.length y.cap) ∧ W.cell? ⟨P1, O1 + i * 4, none⟩ = some (str tt.v) ∧ W.cell? ⟨P1, O1 + i * 4 + 1, none⟩ = some (.bool tt.k.num) ∧ W.cell? ⟨P1, O1 + i * 4 + 2, none⟩ = some (.int .i64 tt.k.n) ∧ W.cell? ⟨P1, O1 + i * 4 + 3, none⟩ = some (str tt.k.s) ∧ W.cell? ⟨w.heap.size + 2, 3, none⟩ = some (.slice (some ⟨P2, O2, none⟩) x.ks.length x.cap) ∧ W.cell? ⟨P2, O2 + i * 3, none⟩ = some (.bool kk.num) ∧ W.cell? ⟨P2, O2 + i * 3 + 1, none⟩ = some (.int .i64 kk.n) ∧ W.cell? ⟨P2, O2 + i * 3 + 2, none⟩ = some (str kk.s)) (first | exact HK2.out _ X9 | exact HK2.out _ Xd) (first
                | (go_at_call 27; refine (TU.out _ Ed).mono ?_; rintro e w9 ⟨⟨a9, c9, rfl, E9⟩, b9⟩; have X9 := Xd.then b9 s8d))
              have UL := uniE_len tt kk M
              rcases uni_two tt kk M with ⟨u1, u2, u3⟩ | ⟨e9, u1, u2, u3, u9⟩
              · rw [u3]
                have z0 := HST.out
                rw [u1] at z0
                obtain ⟨z1, z2⟩ := lit_of_none z0
                have Z1 := hideP z1
                have Z2 := hideP z2
                clear u1 u2 u3 z0 z1 z2 HST
                go_wp2_with fail
                go_ret2
                rw [Z1.out, Z2.out]
                exact ⟨⟨none, 0, rfl, Row.nil _ _⟩, X9.below⟩
              · rw [u3]
                rw [u2] at E9 UL ⊢
                have z0 := HST.out
                rw [u1] at z0
                have z3 := hideP z0
                clear u1 u2 u3 z0 HST
                go_wp2_with fail
                exact ⟨⟨i + 1, e9, a9, c9, rfl, by go_num, by omega, by omega, E9, X9, z3⟩, by simp [intOf]; omega⟩
            · have q3 : ¬ (i : Int) < (y.args.length : Int) := by omega
              have z0 := HL.out
              rw [Mt.unis_done (by omega) (by have := hl'.out; omega)] at z0
              obtain ⟨z1, z2⟩ := lit_of_some z0
              have Z1 := hideP z1
              have Z2 := hideP z2
              clear z0 z1 z2
              go_wp2_with fail
              go_ret2
              rw [Z1.out, Z2.out]
              exact ⟨⟨a', c', rfl, E⟩, X.below⟩
        · have v1' : Mt.nul y.by_ = true := v1
          have v4 : x.by_ ≠ x.at_ := v2
          have v2' : (x.by_ == x.at_) = false := by simpa using v4
          clear v4
          rw [v1']
          have z0 := L1.out
          rw [v3] at z0
          obtain ⟨z1, z2⟩ := lit_of_none z0
          have Z1 := hideP z1
          have Z2 := hideP z2
          clear v1 v2 v3 v1' z0 z1 z2 L1 BC
          go_wp2_with fail
          go_ret2
          rw [Z1.out, Z2.out]
          exact ⟨⟨none, 0, rfl, Row.nil _ _⟩, X6.below⟩
        · have v1' : Mt.nul y.by_ = false := v1
          rw [v1']
          have L2 := L1.out
          rw [v3] at L2
          have L3 : Hid (Mt.lit home y.l x.f L = (Mt.uni y.by_ (Mt.nm x.by_) e1).bind fun e2 => Mt.unis y.args x.ks e2) := L2
          clear v1 v3 v1' L1 L2 BC m0 m1
          have s6 := X6.size
          have gD := (Below.refl w6.heap.size w6).drew
          have X6d := X6.then gD s6
          have s6d := X6d.size
          have E6d := E6.below gD (Nat.le_refl _)
          have K2 : ∀ W, Bx3 w.heap.size w.heap.size home y x w W → (W.cell? ⟨w.heap.size + 1, 0, none⟩ = some (str y.by_.v) ∧ W.cell? ⟨w.heap.size + 1, 1, none⟩ = some (.bool y.by_.k.num) ∧ W.cell? ⟨w.heap.size + 1, 2, none⟩ = some (.int .i64 y.by_.k.n) ∧ W.cell? ⟨w.heap.size + 1, 3, none⟩ = some (str y.by_.k.s) ∧ W.cell? ⟨w.heap.size + 2, 1, none⟩ = some (str x.by_)) := fun W h2 => by
            obtain ⟨d1, d2, d3, d4, _⟩ := lv_cells h2.h1
            exact ⟨d1, d2, d3, d4, (fv_cells h2.h2).2.1⟩
          have HK2 := hideP K2
          clear K2
          have TT := hideP (fun W => rName_at x.by_ W)
          have TU := hideP (fun W h1 => rUnify_at y.by_ (Mt.nm x.by_) a5 c5 e1 W h1 (by omega))
          go_wp2_with fail
          go_region_held3 (fun W => W.cell? ⟨w.heap.size + 1, 0, none⟩ = some (str y.by_.v) ∧ W.cell? ⟨w.heap.size + 1, 1, none⟩ = some (.bool y.by_.k.num) ∧ W.cell? ⟨w.heap.size + 1, 2, none⟩ = some (.int .i64 y.by_.k.n) ∧ W.cell? ⟨w.heap.size + 1, 3, none⟩ = some (str y.by_.k.s) ∧ W.cell? ⟨w.heap.size + 2, 1, none⟩ = some (str x.by_)) (first | exact HK2.out _ X8 | exact HK2.out _ X7 | exact HK2.out _ X6d) (first
            | (go_at_call 28; refine (TT.out _).mono ?_; rintro e w7 ⟨rfl, b7⟩; have X7 := X6d.then b7 s6d; have E7 := E6d.below b7 (Nat.le_refl _); have s7 := X7.size)
            | (go_at_call 27; refine (TU.out _ E7).mono ?_; rintro e w8 ⟨⟨a8, c8, rfl, E8⟩, b8⟩; have X8 := X7.then b8 s7))
          clear TU TT HK2 gD X6 X6d X7 E6 E6d E7 s6 s6d s7 b7 b8
          rcases uni_two y.by_ (Mt.nm x.by_) e1 with ⟨u1, u2, u3⟩ | ⟨e2, u1, u2, u3, u5⟩
          · rw [u3]
            have z0 := L3.out
            rw [u1] at z0
            obtain ⟨z1, z2⟩ := lit_of_none z0
            have Z1 := hideP z1
            have Z2 := hideP z2
            clear u1 u2 u3 z0 z1 z2 L3
            go_wp2_with fail
            go_ret2
            rw [Z1.out, Z2.out]
            exact ⟨⟨none, 0, rfl, Row.nil _ _⟩, X8.below⟩
          · rw [u2] at E8 ⊢
            rw [u3]
            have L4 := L3.out
            rw [u1] at L4
            clear L3
            have L3 : Hid (Mt.lit home y.l x.f L = Mt.unis (y.args.drop 0) (x.ks.drop 0) e2) := L4
            clear u1 u2 u3 L4
            go_wp2_with fail
            go_loopw [11, 12, 13] (fun v11 _ v13 wr => ∃ (i : Nat) (M : List Bd) (a' : Option Addr) (c' : Nat), v11 = .slice a' M.length c' ∧ v13 = .int .i64 (i : Int) ∧ i ≤ y.args.length ∧ M.length ≤ L.length + 2 + i ∧ Row bK wr a' c' M ∧ Bx3 w.heap.size w.heap.size home y x w wr ∧ Hid (Mt.lit home y.l x.f L = Mt.unis (y.args.drop i) (x.ks.drop i) M)) (fun _ _ v13 _ => y.args.length - (intOf v13).toNat)
            case atStart => exact ⟨0, e2, a8, c8, rfl, rfl, Nat.zero_le _, by omega, E8, X8, L3⟩
            case round =>
              obtain ⟨i, M, a', c', rfl, rfl, hi, hM, E, X, HL⟩ := hrel
              have cl := (lv_cells X.h1).2.2.2.2
              by_cases hlt : i < y.args.length
              · have q3 : (i : Int) < (y.args.length : Int) := by omega
                have hlt' : i < x.ks.length := by have := hl'.out; omega
                have q4 : (i : Int) < (x.ks.length : Int) := by omega
                have ST := HL.out
                rw [Mt.unis_step hlt hlt'] at ST
                have HST := hideP ST
                clear ST HL
                obtain ⟨P1, O1, hP⟩ := Row.addr (show Row tK w y.a y.cap y.args from hy) (Nat.lt_of_le_of_lt (Nat.zero_le _) hlt)
                obtain ⟨P2, O2, hQ⟩ := ArgsAt.addr (show ArgsAt w x.a x.cap x.ks from hx) (by omega)
                have s8 := X.size
                have gD := (Below.refl wr.heap.size wr).drew
                have Xd := X.then gD s8
                have Ed := E.below gD (Nat.le_refl _)
                have s8d := Xd.size
                have K2 : ∀ W, Bx3 w.heap.size w.heap.size home y x w W → (W.cell? ⟨w.heap.size + 1, 5, none⟩ = some (.slice (some ⟨P1, O1, none⟩) y.args.length y.cap) ∧ W.cell? ⟨P1, O1 + i * 4, none⟩ = some (str (y.args[i]'hlt).v) ∧ W.cell? ⟨P1, O1 + i * 4 + 1, none⟩ = some (.bool (y.args[i]'hlt).k.num) ∧ W.cell? ⟨P1, O1 + i * 4 + 2, none⟩ = some (.int .i64 (y.args[i]'hlt).k.n) ∧ W.cell? ⟨P1, O1 + i * 4 + 3, none⟩ = some (str (y.args[i]'hlt).k.s) ∧ W.cell? ⟨w.heap.size + 2, 3, none⟩ = some (.slice (some ⟨P2, O2, none⟩) x.ks.length x.cap) ∧ W.cell? ⟨P2, O2 + i * 3, none⟩ = some (.bool (x.ks[i]'hlt').num) ∧ W.cell? ⟨P2, O2 + i * 3 + 1, none⟩ = some (.int .i64 (x.ks[i]'hlt').n) ∧ W.cell? ⟨P2, O2 + i * 3 + 2, none⟩ = some (str (x.ks[i]'hlt').s)) := fun W h2 => by
                  have d5 := (lv_cells h2.h1).2.2.2.2
                  have d3 := (fv_cells h2.h2).2.2.2
                  have r1 : Row tK W y.a y.cap y.args := hy.below h2.below (Nat.le_refl _)
                  have r2 : ArgsAt W x.a x.cap x.ks := hx.below h2.below (Nat.le_refl _)
                  rw [hP] at d5 r1
                  rw [hQ] at d3 r2
                  have r3 := r1.range i hlt
                  obtain ⟨m1, m2, m3⟩ := r2.get i hlt'
                  exact ⟨d5, r3 0 _ rfl, r3 1 _ rfl, r3 2 _ rfl, r3 3 _ rfl, d3, m1, m2, m3⟩
                have HK2 := hideP K2
                rw [hP] at cl
                clear K2 hP hQ
                generalize (y.args[i]'hlt) = tt at *
                generalize (x.ks[i]'hlt') = kk at *
                have TU := hideP (fun W h1 => rUnify_at tt kk a' c' M W h1 (by omega))
                go_wp2_with fail
                go_region_held3 (fun W => W.cell? ⟨w.heap.size + 1, 5, none⟩ = some (.slice (some ⟨P1, O1, none⟩) y.args.length y.cap) ∧ W.cell? ⟨P1, O1 + i * 4, none⟩ = some (str tt.v) ∧ W.cell? ⟨P1, O1 + i * 4 + 1, none⟩ = some (.bool tt.k.num) ∧ W.cell? ⟨P1, O1 + i * 4 + 2, none⟩ = some (.int .i64 tt.k.n) ∧ W.cell? ⟨P1, O1 + i * 4 + 3, none⟩ = some (str tt.k.s) ∧ W.cell? ⟨w.heap.size + 2, 3, none⟩ = some (.slice (some ⟨P2, O2, none⟩) x.ks.length x.cap) ∧ W.cell? ⟨P2, O2 + i * 3, none⟩ = some (.bool kk.num) ∧ W.cell? ⟨P2, O2 + i * 3 + 1, none⟩ = some (.int .i64 kk.n) ∧ W.cell? ⟨P2, O2 + i * 3 + 2, none⟩ = some (str kk.s)) (first | exact HK2.out _ X9 | exact HK2.out _ Xd) (first
                  | (go_at_call 27; refine (TU.out _ Ed).mono ?_; rintro e w9 ⟨⟨a9, c9, rfl, E9⟩, b9⟩; have X9 := Xd.then b9 s8d))
                have UL := uniE_len tt kk M
                rcases uni_two tt kk M with ⟨u1, u2, u3⟩ | ⟨e9, u1, u2, u3, u9⟩
                · rw [u3]
                  have z0 := HST.out
                  rw [u1] at z0
                  obtain ⟨z1, z2⟩ := lit_of_none z0
                  have Z1 := hideP z1
                  have Z2 := hideP z2
                  clear u1 u2 u3 z0 z1 z2 HST
                  go_wp2_with fail
                  go_ret2
                  rw [Z1.out, Z2.out]
                  exact ⟨⟨none, 0, rfl, Row.nil _ _⟩, X9.below⟩
                · rw [u3]
                  rw [u2] at E9 UL ⊢
                  have z0 := HST.out
                  rw [u1] at z0
                  have z3 := hideP z0
                  clear u1 u2 u3 z0 HST
                  go_wp2_with fail
                  exact ⟨⟨i + 1, e9, a9, c9, rfl, by go_num, by omega, by omega, E9, X9, z3⟩, by simp [intOf]; omega⟩
              · have q3 : ¬ (i : Int) < (y.args.length : Int) := by omega
                have z0 := HL.out
                rw [Mt.unis_done (by omega) (by have := hl'.out; omega)] at z0
                obtain ⟨z1, z2⟩ := lit_of_some z0
                have Z1 := hideP z1
                have Z2 := hideP z2
                clear z0 z1 z2
                go_wp2_with fail
                go_ret2
                rw [Z1.out, Z2.out]
                exact ⟨⟨a', c', rfl, E⟩, X.below⟩
    | false =>
      have HA1 : Hid (Mt.at1 home y.l = y.at_) := HA.out
      rw [HA1.out] at LY LS
      have X3 := X2
      have G3 := G2
      clear X2 G2 HA HA1
      generalize hw3 : w2 = w3 at *
      clear hw3
      go_wp2_with fail
      have s3 := X3.size
      have gD := (Below.refl w3.heap.size w3).drew
      have X3d := X3.then gD s3
      have G3d := below_heap gD G3
      have s3d := X3d.size
      have K2 : ∀ W, W.heap[w.heap.size + 1 + 1 + 1]? = some (.cells (tv y.at_).toArray 58) → Bx3 w.heap.size w.heap.size home y x w W → (W.cell? ⟨w.heap.size + 1 + 1 + 1, 0, none⟩ = some (str y.at_.v) ∧ W.cell? ⟨w.heap.size + 1 + 1 + 1, 1, none⟩ = some (.bool y.at_.k.num) ∧ W.cell? ⟨w.heap.size + 1 + 1 + 1, 2, none⟩ = some (.int .i64 y.at_.k.n) ∧ W.cell? ⟨w.heap.size + 1 + 1 + 1, 3, none⟩ = some (str y.at_.k.s) ∧ W.cell? ⟨w.heap.size + 2, 0, none⟩ = some (str x.at_)) := fun W h1 h2 => by
        obtain ⟨c1, c2, c3, c4⟩ := tv_cells h1
        exact ⟨c1, c2, c3, c4, (fv_cells h2.h2).1⟩
      have HK2 := hideP K2
      clear K2
      have TT := hideP (fun W => rName_at x.at_ W)
      have TU := hideP (fun W h1 => rUnify_at y.at_ (Mt.nm x.at_) a c L W h1 (by omega))
      go_region_held3 (fun W => W.cell? ⟨w.heap.size + 1 + 1 + 1, 0, none⟩ = some (str y.at_.v) ∧ W.cell? ⟨w.heap.size + 1 + 1 + 1, 1, none⟩ = some (.bool y.at_.k.num) ∧ W.cell? ⟨w.heap.size + 1 + 1 + 1, 2, none⟩ = some (.int .i64 y.at_.k.n) ∧ W.cell? ⟨w.heap.size + 1 + 1 + 1, 3, none⟩ = some (str y.at_.k.s) ∧ W.cell? ⟨w.heap.size + 2, 0, none⟩ = some (str x.at_)) (first | exact HK2.out _ G5 X5 | exact HK2.out _ G4 X4 | exact HK2.out _ G3d X3d) (first
        | (go_at_call 28; refine (TT.out _).mono ?_; rintro e w4 ⟨rfl, b4⟩; have X4 := X3d.then b4 s3d; have G4 := below_heap b4 G3d; have s4 := X4.size)
        | (go_at_call 27; refine (TU.out _ (h.below X4.below (Nat.le_refl _))).mono ?_; rintro e w5 ⟨⟨a5, c5, rfl, E5⟩, b5⟩; have X5 := X4.then b5 s4; have G5 := below_heap b5 G4))
      clear TU TT HK2 gD X3 X3d G3 G3d X4 G4 s3 s3d s4 b4 b5 G5
      rcases uni_two y.at_ (Mt.nm x.at_) L with ⟨u1, u2, u3⟩ | ⟨e1, u1, u2, u3, u4⟩
      · rw [u3]
        obtain ⟨z1, z2⟩ := lit_of_none (LY.out u1)
        have Z1 := hideP z1
        have Z2 := hideP z2
        clear u1 u2 u3 z1 z2 LY LS
        go_wp2_with fail
        go_ret2
        rw [Z1.out, Z2.out]
        exact ⟨⟨none, 0, rfl, Row.nil _ _⟩, X5.below⟩
      · rw [u2] at E5 ⊢
        rw [u3]
        have L1 : Hid (Mt.lit home y.l x.f L = (Mt.by1 y.l x.f e1).bind fun e2 => Mt.unis y.args x.ks e2) := LS.out e1 u1
        have BC := hideP (by1_cases y.l x.f e1)
        clear u1 u2 u3 LY LS
        have rb := (lit_parts10 X5.h1).1
        have TB := hideP (TN.out y.by_)
        go_wp2_with (refine wpList_load_mid rfl 58 _ rfl (w.heap.size + 1) 0 rfl (tv y.by_) _ rb Tryz.underlying58 rfl iT ?_)
        refine (TB.out w5).mono ?_
        rintro e w6 ⟨rfl, b6⟩
        have s5 := X5.size
        have X6 := X5.then b6 s5
        have E6 := E5.below b6 (Nat.le_refl _)
        clear X5 E5 b6 s5 rb TB TN
        obtain ⟨m0, m1, _, _⟩ := fv_cells X6.h2
        rcases BC.out with ⟨v1, v2, v3⟩ | ⟨v1, v2, v3⟩ | ⟨v1, v3⟩
        · have v1' : Mt.nul y.by_ = true := v1
          have v4 : x.by_ = x.at_ := v2
          have v2' : (x.by_ == x.at_) = true := by simpa using v4
          clear v4
          rw [v1']
          have L2 := L1.out
          rw [v3] at L2
          have L3 : Hid (Mt.lit home y.l x.f L = Mt.unis (y.args.drop 0) (x.ks.drop 0) e1) := L2
          clear v1 v2 v3 v1' L1 L2 BC
          go_wp2_with fail
          go_loopw [11, 12, 13] (fun v11 _ v13 wr => ∃ (i : Nat) (M : List Bd) (a' : Option Addr) (c' : Nat), v11 = .slice a' M.length c' ∧ v13 = .int .i64 (i : Int) ∧ i ≤ y.args.length ∧ M.length ≤ L.length + 2 + i ∧ Row bK wr a' c' M ∧ Bx3 w.heap.size w.heap.size home y x w wr ∧ Hid (Mt.lit home y.l x.f L = Mt.unis (y.args.drop i) (x.ks.drop i) M)) (fun _ _ v13 _ => y.args.length - (intOf v13).toNat)
          case atStart => exact ⟨0, e1, a5, c5, rfl, rfl, Nat.zero_le _, by omega, E6, X6, L3⟩
          case round =>
            obtain ⟨i, M, a', c', rfl, rfl, hi, hM, E, X, HL⟩ := hrel
            have cl := (lv_cells X.h1).2.2.2.2
            by_cases hlt : i < y.args.length
            · have q3 : (i : Int) < (y.args.length : Int) := by omega
              have hlt' : i < x.ks.length := by have := hl'.out; omega
              have q4 : (i : Int) < (x.ks.length : Int) := by omega
              have ST := HL.out
              rw [Mt.unis_step hlt hlt'] at ST
              have HST := hideP ST
              clear ST HL
              obtain ⟨P1, O1, hP⟩ := Row.addr (show Row tK w y.a y.cap y.args from hy) (Nat.lt_of_le_of_lt (Nat.zero_le _) hlt)
              obtain ⟨P2, O2, hQ⟩ := ArgsAt.addr (show ArgsAt w x.a x.cap x.ks from hx) (by omega)
              have s8 := X.size
              have gD := (Below.refl wr.heap.size wr).drew
              have Xd := X.then gD s8
              have Ed := E.below gD (Nat.le_refl _)
              have s8d := Xd.size
              have K2 : ∀ W, Bx3 w.heap.size w.heap.size home y x w W → (W.cell? ⟨w.heap.size + 1, 5, none⟩ = some (.slice (some ⟨P1, O1, none⟩) y.args.length y.cap) ∧ W.cell? ⟨P1, O1 + i * 4, none⟩ = some (str (y.args[i]'hlt).v) ∧ W.cell? ⟨P1, O1 + i * 4 + 1, none⟩ = some (.bool (y.args[i]'hlt).k.num) ∧ W.cell? ⟨P1, O1 + i * 4 + 2, none⟩ = some (.int .i64 (y.args[i]'hlt).k.n) ∧ W.cell? ⟨P1, O1 + i * 4 + 3, none⟩ = some (str (y.args[i]'hlt).k.s) ∧ W.cell? ⟨w.heap.size + 2, 3, none⟩ = some (.slice (some ⟨P2, O2, none⟩) x.ks.length x.cap) ∧ W.cell? ⟨P2, O2 + i * 3, none⟩ = some (.bool (x.ks[i]'hlt').num) ∧ W.cell? ⟨P2, O2 + i * 3 + 1, none⟩ = some (.int .i64 (x.ks[i]'hlt').n) ∧ W.cell? ⟨P2, O2 + i * 3 + 2, none⟩ = some (str (x.ks[i]'hlt').s)) := fun W h2 => by
                have d5 := (lv_cells h2.h1).2.2.2.2
                have d3 := (fv_cells h2.h2).2.2.2
                have r1 : Row tK W y.a y.cap y.args := hy.below h2.below (Nat.le_refl _)
                have r2 : ArgsAt W x.a x.cap x.ks := hx.below h2.below (Nat.le_refl _)
                rw [hP] at d5 r1
                rw [hQ] at d3 r2
                have r3 := r1.range i hlt
                obtain ⟨m1, m2, m3⟩ := r2.get i hlt'
                exact ⟨d5, r3 0 _ rfl, r3 1 _ rfl, r3 2 _ rfl, r3 3 _ rfl, d3, m1, m2, m3⟩
              have HK2 := hideP K2
              rw [hP] at cl
              clear K2 hP hQ
              generalize (y.args[i]'hlt) = tt at *
              generalize (x.ks[i]'hlt') = kk at *
              have TU := hideP (fun W h1 => rUnify_at tt kk a' c' M W h1 (by omega))
              go_wp2_with fail
              go_region_held3 (fun W => W.cell? ⟨w.heap.size + 1, 5, none⟩ = some (.slice (some ⟨P1, O1, none⟩) y.args.length y.cap) ∧ W.cell? ⟨P1, O1 + i * 4, none⟩ = some (str tt.v) ∧ W.cell? ⟨P1, O1 + i * 4 + 1, none⟩ = some (.bool tt.k.num) ∧ W.cell? ⟨P1, O1 + i * 4 + 2, none⟩ = some (.int .i64 tt.k.n) ∧ W.cell? ⟨P1, O1 + i * 4 + 3, none⟩ = some (str tt.k.s) ∧ W.cell? ⟨w.heap.size + 2, 3, none⟩ = some (.slice (some ⟨P2, O2, none⟩) x.ks.length x.cap) ∧ W.cell? ⟨P2, O2 + i * 3, none⟩ = some (.bool kk.num) ∧ W.cell? ⟨P2, O2 + i * 3 + 1, none⟩ = some (.int .i64 kk.n) ∧ W.cell? ⟨P2, O2 + i * 3 + 2, none⟩ = some (str kk.s)) (first | exact HK2.out _ X9 | exact HK2.out _ Xd) (first
                | (go_at_call 27; refine (TU.out _ Ed).mono ?_; rintro e w9 ⟨⟨a9, c9, rfl, E9⟩, b9⟩; have X9 := Xd.then b9 s8d))
              have UL := uniE_len tt kk M
              rcases uni_two tt kk M with ⟨u1, u2, u3⟩ | ⟨e9, u1, u2, u3, u9⟩
              · rw [u3]
                have z0 := HST.out
                rw [u1] at z0
                obtain ⟨z1, z2⟩ := lit_of_none z0
                have Z1 := hideP z1
                have Z2 := hideP z2
                clear u1 u2 u3 z0 z1 z2 HST
                go_wp2_with fail
                go_ret2
                rw [Z1.out, Z2.out]
                exact ⟨⟨none, 0, rfl, Row.nil _ _⟩, X9.below⟩
              · rw [u3]
                rw [u2] at E9 UL ⊢
                have z0 := HST.out
                rw [u1] at z0
                have z3 := hideP z0
                clear u1 u2 u3 z0 HST
                go_wp2_with fail
                exact ⟨⟨i + 1, e9, a9, c9, rfl, by go_num, by omega, by omega, E9, X9, z3⟩, by simp [intOf]; omega⟩
            · have q3 : ¬ (i : Int) < (y.args.length : Int) := by omega
              have z0 := HL.out
              rw [Mt.unis_done (by omega) (by have := hl'.out; omega)] at z0
              obtain ⟨z1, z2⟩ := lit_of_some z0
              have Z1 := hideP z1
              have Z2 := hideP z2
              clear z0 z1 z2
              go_wp2_with fail
              go_ret2
              rw [Z1.out, Z2.out]
              exact ⟨⟨a', c', rfl, E⟩, X.below⟩
        · have v1' : Mt.nul y.by_ = true := v1
          have v4 : x.by_ ≠ x.at_ := v2
          have v2' : (x.by_ == x.at_) = false := by simpa using v4
          clear v4
          rw [v1']
          have z0 := L1.out
          rw [v3] at z0
          obtain ⟨z1, z2⟩ := lit_of_none z0
          have Z1 := hideP z1
          have Z2 := hideP z2
          clear v1 v2 v3 v1' z0 z1 z2 L1 BC
          go_wp2_with fail
          go_ret2
          rw [Z1.out, Z2.out]
          exact ⟨⟨none, 0, rfl, Row.nil _ _⟩, X6.below⟩
        · have v1' : Mt.nul y.by_ = false := v1
          rw [v1']
          have L2 := L1.out
          rw [v3] at L2
          have L3 : Hid (Mt.lit home y.l x.f L = (Mt.uni y.by_ (Mt.nm x.by_) e1).bind fun e2 => Mt.unis y.args x.ks e2) := L2
          clear v1 v3 v1' L1 L2 BC m0 m1
          have s6 := X6.size
          have gD := (Below.refl w6.heap.size w6).drew
          have X6d := X6.then gD s6
          have s6d := X6d.size
          have E6d := E6.below gD (Nat.le_refl _)
          have K2 : ∀ W, Bx3 w.heap.size w.heap.size home y x w W → (W.cell? ⟨w.heap.size + 1, 0, none⟩ = some (str y.by_.v) ∧ W.cell? ⟨w.heap.size + 1, 1, none⟩ = some (.bool y.by_.k.num) ∧ W.cell? ⟨w.heap.size + 1, 2, none⟩ = some (.int .i64 y.by_.k.n) ∧ W.cell? ⟨w.heap.size + 1, 3, none⟩ = some (str y.by_.k.s) ∧ W.cell? ⟨w.heap.size + 2, 1, none⟩ = some (str x.by_)) := fun W h2 => by
            obtain ⟨d1, d2, d3, d4, _⟩ := lv_cells h2.h1
            exact ⟨d1, d2, d3, d4, (fv_cells h2.h2).2.1⟩
          have HK2 := hideP K2
          clear K2
          have TT := hideP (fun W => rName_at x.by_ W)
          have TU := hideP (fun W h1 => rUnify_at y.by_ (Mt.nm x.by_) a5 c5 e1 W h1 (by omega))
          go_wp2_with fail
          go_region_held3 (fun W => W.cell? ⟨w.heap.size + 1, 0, none⟩ = some (str y.by_.v) ∧ W.cell? ⟨w.heap.size + 1, 1, none⟩ = some (.bool y.by_.k.num) ∧ W.cell? ⟨w.heap.size + 1, 2, none⟩ = some (.int .i64 y.by_.k.n) ∧ W.cell? ⟨w.heap.size + 1, 3, none⟩ = some (str y.by_.k.s) ∧ W.cell? ⟨w.heap.size + 2, 1, none⟩ = some (str x.by_)) (first | exact HK2.out _ X8 | exact HK2.out _ X7 | exact HK2.out _ X6d) (first
            | (go_at_call 28; refine (TT.out _).mono ?_; rintro e w7 ⟨rfl, b7⟩; have X7 := X6d.then b7 s6d; have E7 := E6d.below b7 (Nat.le_refl _); have s7 := X7.size)
            | (go_at_call 27; refine (TU.out _ E7).mono ?_; rintro e w8 ⟨⟨a8, c8, rfl, E8⟩, b8⟩; have X8 := X7.then b8 s7))
          clear TU TT HK2 gD X6 X6d X7 E6 E6d E7 s6 s6d s7 b7 b8
          rcases uni_two y.by_ (Mt.nm x.by_) e1 with ⟨u1, u2, u3⟩ | ⟨e2, u1, u2, u3, u5⟩
          · rw [u3]
            have z0 := L3.out
            rw [u1] at z0
            obtain ⟨z1, z2⟩ := lit_of_none z0
            have Z1 := hideP z1
            have Z2 := hideP z2
            clear u1 u2 u3 z0 z1 z2 L3
            go_wp2_with fail
            go_ret2
            rw [Z1.out, Z2.out]
            exact ⟨⟨none, 0, rfl, Row.nil _ _⟩, X8.below⟩
          · rw [u2] at E8 ⊢
            rw [u3]
            have L4 := L3.out
            rw [u1] at L4
            clear L3
            have L3 : Hid (Mt.lit home y.l x.f L = Mt.unis (y.args.drop 0) (x.ks.drop 0) e2) := L4
            clear u1 u2 u3 L4
            go_wp2_with fail
            go_loopw [11, 12, 13] (fun v11 _ v13 wr => ∃ (i : Nat) (M : List Bd) (a' : Option Addr) (c' : Nat), v11 = .slice a' M.length c' ∧ v13 = .int .i64 (i : Int) ∧ i ≤ y.args.length ∧ M.length ≤ L.length + 2 + i ∧ Row bK wr a' c' M ∧ Bx3 w.heap.size w.heap.size home y x w wr ∧ Hid (Mt.lit home y.l x.f L = Mt.unis (y.args.drop i) (x.ks.drop i) M)) (fun _ _ v13 _ => y.args.length - (intOf v13).toNat)
            case atStart => exact ⟨0, e2, a8, c8, rfl, rfl, Nat.zero_le _, by omega, E8, X8, L3⟩
            case round =>
              obtain ⟨i, M, a', c', rfl, rfl, hi, hM, E, X, HL⟩ := hrel
              have cl := (lv_cells X.h1).2.2.2.2
              by_cases hlt : i < y.args.length
              · have q3 : (i : Int) < (y.args.length : Int) := by omega
                have hlt' : i < x.ks.length := by have := hl'.out; omega
                have q4 : (i : Int) < (x.ks.length : Int) := by omega
                have ST := HL.out
                rw [Mt.unis_step hlt hlt'] at ST
                have HST := hideP ST
                clear ST HL
                obtain ⟨P1, O1, hP⟩ := Row.addr (show Row tK w y.a y.cap y.args from hy) (Nat.lt_of_le_of_lt (Nat.zero_le _) hlt)
                obtain ⟨P2, O2, hQ⟩ := ArgsAt.addr (show ArgsAt w x.a x.cap x.ks from hx) (by omega)
                have s8 := X.size
                have gD := (Below.refl wr.heap.size wr).drew
                have Xd := X.then gD s8
                have Ed := E.below gD (Nat.le_refl _)
                have s8d := Xd.size
                have K2 : ∀ W, Bx3 w.heap.size w.heap.size home y x w W → (W.cell? ⟨w.heap.size + 1, 5, none⟩ = some (.slice (some ⟨P1, O1, none⟩) y.args.length y.cap) ∧ W.cell? ⟨P1, O1 + i * 4, none⟩ = some (str (y.args[i]'hlt).v) ∧ W.cell? ⟨P1, O1 + i * 4 + 1, none⟩ = some (.bool (y.args[i]'hlt).k.num) ∧ W.cell? ⟨P1, O1 + i * 4 + 2, none⟩ = some (.int .i64 (y.args[i]'hlt).k.n) ∧ W.cell? ⟨P1, O1 + i * 4 + 3, none⟩ = some (str (y.args[i]'hlt).k.s) ∧ W.cell? ⟨w.heap.size + 2, 3, none⟩ = some (.slice (some ⟨P2, O2, none⟩) x.ks.length x.cap) ∧ W.cell? ⟨P2, O2 + i * 3, none⟩ = some (.bool (x.ks[i]'hlt').num) ∧ W.cell? ⟨P2, O2 + i * 3 + 1, none⟩ = some (.int .i64 (x.ks[i]'hlt').n) ∧ W.cell? ⟨P2, O2 + i * 3 + 2, none⟩ = some (str (x.ks[i]'hlt').s)) := fun W h2 => by
                  have d5 := (lv_cells h2.h1).2.2.2.2
                  have d3 := (fv_cells h2.h2).2.2.2
                  have r1 : Row tK W y.a y.cap y.args := hy.below h2.below (Nat.le_refl _)
                  have r2 : ArgsAt W x.a x.cap x.ks := hx.below h2.below (Nat.le_refl _)
                  rw [hP] at d5 r1
                  rw [hQ] at d3 r2
                  have r3 := r1.range i hlt
                  obtain ⟨m1, m2, m3⟩ := r2.get i hlt'
                  exact ⟨d5, r3 0 _ rfl, r3 1 _ rfl, r3 2 _ rfl, r3 3 _ rfl, d3, m1, m2, m3⟩
                have HK2 := hideP K2
                rw [hP] at cl
                clear K2 hP hQ
                generalize (y.args[i]'hlt) = tt at *
                generalize (x.ks[i]'hlt') = kk at *
                have TU := hideP (fun W h1 => rUnify_at tt kk a' c' M W h1 (by omega))
                go_wp2_with fail
                go_region_held3 (fun W => W.cell? ⟨w.heap.size + 1, 5, none⟩ = some (.slice (some ⟨P1, O1, none⟩) y.args.length y.cap) ∧ W.cell? ⟨P1, O1 + i * 4, none⟩ = some (str tt.v) ∧ W.cell? ⟨P1, O1 + i * 4 + 1, none⟩ = some (.bool tt.k.num) ∧ W.cell? ⟨P1, O1 + i * 4 + 2, none⟩ = some (.int .i64 tt.k.n) ∧ W.cell? ⟨P1, O1 + i * 4 + 3, none⟩ = some (str tt.k.s) ∧ W.cell? ⟨w.heap.size + 2, 3, none⟩ = some (.slice (some ⟨P2, O2, none⟩) x.ks.length x.cap) ∧ W.cell? ⟨P2, O2 + i * 3, none⟩ = some (.bool kk.num) ∧ W.cell? ⟨P2, O2 + i * 3 + 1, none⟩ = some (.int .i64 kk.n) ∧ W.cell? ⟨P2, O2 + i * 3 + 2, none⟩ = some (str kk.s)) (first | exact HK2.out _ X9 | exact HK2.out _ Xd) (first
                  | (go_at_call 27; refine (TU.out _ Ed).mono ?_; rintro e w9 ⟨⟨a9, c9, rfl, E9⟩, b9⟩; have X9 := Xd.then b9 s8d))
                have UL := uniE_len tt kk M
                rcases uni_two tt kk M with ⟨u1, u2, u3⟩ | ⟨e9, u1, u2, u3, u9⟩
                · rw [u3]
                  have z0 := HST.out
                  rw [u1] at z0
                  obtain ⟨z1, z2⟩ := lit_of_none z0
                  have Z1 := hideP z1
                  have Z2 := hideP z2
                  clear u1 u2 u3 z0 z1 z2 HST
                  go_wp2_with fail
                  go_ret2
                  rw [Z1.out, Z2.out]
                  exact ⟨⟨none, 0, rfl, Row.nil _ _⟩, X9.below⟩
                · rw [u3]
                  rw [u2] at E9 UL ⊢
                  have z0 := HST.out
                  rw [u1] at z0
                  have z3 := hideP z0
                  clear u1 u2 u3 z0 HST
                  go_wp2_with fail
                  exact ⟨⟨i + 1, e9, a9, c9, rfl, by go_num, by omega, by omega, E9, X9, z3⟩, by simp [intOf]; omega⟩
              · have q3 : ¬ (i : Int) < (y.args.length : Int) := by omega
                have z0 := HL.out
                rw [Mt.unis_done (by omega) (by have := hl'.out; omega)] at z0
                obtain ⟨z1, z2⟩ := lit_of_some z0
                have Z1 := hideP z1
                have Z2 := hideP z2
                clear z0 z1 z2
                go_wp2_with fail
                go_ret2
                rw [Z1.out, Z2.out]
                exact ⟨⟨a', c', rfl, E⟩, X.below⟩
end Go.Proofs.YtdehimbfcilhpaaGreatDoor
