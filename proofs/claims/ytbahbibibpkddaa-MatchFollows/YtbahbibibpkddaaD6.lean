/-
  The reference's Follows.
-/
import Derived.Test.YtbahbibibpkddaaEC
import Derived.Test.YtbahbibibpkddaaD3
import Derived.Test.YtbahbibibpkddaaD4
namespace Go.Proofs.Ytbahbibibpkddaa
open Go.RowKit Go.Lib Go.Shelf

set_option maxRecDepth 100000 in
set_option maxHeartbeats 4000000 in
theorem rFollows_at (r : Rv) (n : Int) (x : Fv) (a : Option Addr) (c : Nat) (xs : List Fv) (w : World) (hr : Rv.Aw w r) (hx : Fv.At w x) (hl : Row fK w a c xs) (he : ∀ z ∈ xs, Fv.At w z) (hba : r.args.length ≤ 200) (hbb : r.body.length ≤ 200) (hbc : ∀ y ∈ r.body, y.args.length ≤ 200) :
    Calls Try.prog 25 #[rval r, dval5 n x a c xs] w fun e w' => e = .returned (.bool (Mt.fol r.r x.f (xs.map Fv.f))) ∧ Below w.heap.size w w' := by
  have iR : (Try.prog.info? 37).map (·.size) = some 11 := by kernel_rfl
  have iF : (Try.prog.info? 40).map (·.size) = some 4 := by kernel_rfl
  have hrl : r.r.body.length = r.body.length := List.length_map ..
  have hfl : (xs.map Fv.f).length = xs.length := List.length_map ..
  have hlf := hl.few
  obtain ⟨h0, h1, A0⟩ := boxes2 w (.cells #[str r.home.v, .bool r.home.k.num, .int .i64 r.home.k.n, str r.home.k.s, str r.pred, .slice r.a r.args.length r.cap, str r.to_.v, .bool r.to_.k.num, .int .i64 r.to_.k.n, str r.to_.k.s, .slice r.ba r.body.length r.bcap] 37) (.cells #[.int .i64 n, str x.at_, str x.by_, str x.pred, .slice x.a x.ks.length x.cap, .slice a xs.length c] 55)
  have c10 := (rv_home5 (x := r) h0).2.2.2.2
  go_enter Try.func25, Try.ntmps25
  go_wp2_with fail
  generalize hW : (w.alloc (.cells #[str r.home.v, .bool r.home.k.num, .int .i64 r.home.k.n, str r.home.k.s, str r.pred, .slice r.a r.args.length r.cap, str r.to_.v, .bool r.to_.k.num, .int .i64 r.to_.k.n, str r.to_.k.s, .slice r.ba r.body.length r.bcap] 37)).alloc (.cells #[.int .i64 n, str x.at_, str x.by_, str x.pred, .slice x.a x.ks.length x.cap, .slice a xs.length c] 55) = W0 at *
  clear hW
  have X0 : BxD r n x a c xs w W0 := ⟨A0, h0, h1⟩
  have gD := (Below.refl W0.heap.size W0).drew
  have X0d := X0.then gD
  have K1 : ∀ W, BxD r n x a c xs w W → (W.cell? ⟨w.heap.size, 0, none⟩ = some (str r.home.v) ∧ W.cell? ⟨w.heap.size, 1, none⟩ = some (.bool r.home.k.num) ∧ W.cell? ⟨w.heap.size, 2, none⟩ = some (.int .i64 r.home.k.n) ∧ W.cell? ⟨w.heap.size, 3, none⟩ = some (str r.home.k.s) ∧ W.cell? ⟨w.heap.size + 1, 2, none⟩ = some (str x.by_)) := fun W hX => by
    obtain ⟨d0, d1, d2, d3, _⟩ := rv_home5 hX.h0
    exact ⟨d0, d1, d2, d3, (dv_cells hX.h1).2.1⟩
  have HK1 := hideP K1
  clear K1
  have TT := hideP (fun W => rName_at x.by_ W)
  have TU := hideP (fun W => rUnify_at r.home (Mt.nm x.by_) none 0 [] W (Row.nil _ _) (by simp))
  clear h0 h1 A0 X0 gD c10
  go_region_held3 (fun W => W.cell? ⟨w.heap.size, 0, none⟩ = some (str r.home.v) ∧ W.cell? ⟨w.heap.size, 1, none⟩ = some (.bool r.home.k.num) ∧ W.cell? ⟨w.heap.size, 2, none⟩ = some (.int .i64 r.home.k.n) ∧ W.cell? ⟨w.heap.size, 3, none⟩ = some (str r.home.k.s) ∧ W.cell? ⟨w.heap.size + 1, 2, none⟩ = some (str x.by_)) (first | with_reducible exact HK1.out _ X0d | with_reducible exact HK1.out _ X1 | with_reducible exact HK1.out _ X2) (first
    | (go_at_call 38; refine (TT.out _).mono ?_; rintro e w1 ⟨rfl, b1⟩; have X1 := X0d.then b1)
    | (go_at_call 13; refine (TU.out _).mono ?_; rintro e w2 ⟨⟨a2, c2, rfl, E2⟩, b2⟩; have X2 := X1.then b2))
  clear TU TT HK1 X0d X1 b1 b2
  have cr := (rv_home5 X2.h0).2.2.2.2
  have cd := (dv_cells X2.h1).2.2.2.2
  rcases uni_two r.home (Mt.nm x.by_) [] with ⟨u1, u2, u3⟩ | ⟨e1, u1, u2, u3, u4⟩
  · rw [u3]
    have Z := hideP (Mt.fol_no (r := r.r) (h := x.f) (b := xs.map Fv.f) (by show Option.bind (Mt.uni r.home (Mt.nm x.by_) []) _ = none; rw [u1]; rfl))
    clear u1 u2 u3
    go_wp2_with fail
    go_ret
    exact ⟨ret_bool Z.out.symm, X2.below⟩
  · rw [u2] at E2 ⊢
    rw [u3]
    have FSo := hideP (fol_folF (r := r.r) (h := x.f) (b := xs.map Fv.f) (e := e1) u1)
    clear u1 u2 u3
    by_cases hlen : r.body.length = xs.length
    rotate_left
    · have q0 : ((r.body.length : Int) != (xs.length : Int)) = true := by rw [bne_iff_ne]; omega
      have Z := hideP (Mt.fol_len (r := r.r) (h := x.f) (b := xs.map Fv.f) (by rw [hrl, hfl]; exact hlen))
      clear hlen FSo
      go_wp2_with fail
      go_ret
      exact ⟨ret_bool Z.out.symm, X2.below⟩
    · have q0 : ((r.body.length : Int) != (xs.length : Int)) = false := by simp; omega
      have Hlen := hideP hlen
      clear hlen
      go_wp2_with fail
      go_loopw [5, 6, 7] (fun v5 _ v7 wr => ∃ (i : Nat) (M : List Bd) (a' : Option Addr) (c' : Nat), v5 = .slice a' M.length c' ∧ v7 = .int .i64 (i : Int) ∧ i ≤ r.body.length ∧ M.length ≤ 1 + 202 * i ∧ Row bK wr a' c' M ∧ BxD r n x a c xs w wr ∧ Hid (Mt.fol r.r x.f (xs.map Fv.f) = folF r.r x.f (r.r.body.drop i) ((xs.map Fv.f).drop i) M)) (fun _ _ v7 _ => r.body.length - (RowKit.intOf v7).toNat)
      case atStart => exact ⟨0, e1, a2, c2, rfl, rfl, Nat.zero_le _, by simpa using u4, E2, X2, FSo⟩
      case round =>
        obtain ⟨i, M, a', c', rfl, rfl, hi, hM, E, X, HL⟩ := hrel
        have cl := (rv_home5 X.h0).2.2.2.2
        by_cases hlt : i < r.body.length
        · have q3 : (i : Int) < (r.body.length : Int) := by omega
          have hlt' : i < xs.length := by have := Hlen.out; omega
          have q4 : (i : Int) < (xs.length : Int) := by omega
          have ST := HL.out
          rw [folF_step (by omega) (by omega), show r.r.body[i]'(by omega) = (r.body[i]'hlt).l by simp [Rv.r], show (xs.map Fv.f)[i]'(by omega) = (xs[i]'hlt').f by simp] at ST
          have HST := hideP ST
          clear ST HL
          obtain ⟨P1, O1, hP⟩ := hr.body.addr (Nat.lt_of_le_of_lt (Nat.zero_le _) hlt)
          obtain ⟨P2, O2, hQ⟩ := hl.addr (Nat.lt_of_le_of_lt (Nat.zero_le _) hlt')
          have aY := hr.each _ (List.getElem_mem hlt)
          have lY := hbc _ (List.getElem_mem hlt)
          have aZ := he _ (List.getElem_mem hlt')
          have K2 : ∀ W, BxD r n x a c xs w W → (W.cell? ⟨w.heap.size, 0, none⟩ = some (str r.home.v) ∧ W.cell? ⟨w.heap.size, 1, none⟩ = some (.bool r.home.k.num) ∧ W.cell? ⟨w.heap.size, 2, none⟩ = some (.int .i64 r.home.k.n) ∧ W.cell? ⟨w.heap.size, 3, none⟩ = some (str r.home.k.s) ∧ W.cell? ⟨w.heap.size, 10, none⟩ = some (.slice (some ⟨P1, O1, none⟩) r.body.length r.bcap) ∧ W.cell? ⟨P1, O1 + i * 10, none⟩ = some (str (r.body[i]'hlt).by_.v) ∧ W.cell? ⟨P1, O1 + i * 10 + 1, none⟩ = some (.bool (r.body[i]'hlt).by_.k.num) ∧ W.cell? ⟨P1, O1 + i * 10 + 2, none⟩ = some (.int .i64 (r.body[i]'hlt).by_.k.n) ∧ W.cell? ⟨P1, O1 + i * 10 + 3, none⟩ = some (str (r.body[i]'hlt).by_.k.s) ∧ W.cell? ⟨P1, O1 + i * 10 + 4, none⟩ = some (str (r.body[i]'hlt).pred) ∧ W.cell? ⟨P1, O1 + i * 10 + 5, none⟩ = some (.slice (r.body[i]'hlt).a (r.body[i]'hlt).args.length (r.body[i]'hlt).cap) ∧ W.cell? ⟨P1, O1 + i * 10 + 6, none⟩ = some (str (r.body[i]'hlt).at_.v) ∧ W.cell? ⟨P1, O1 + i * 10 + 7, none⟩ = some (.bool (r.body[i]'hlt).at_.k.num) ∧ W.cell? ⟨P1, O1 + i * 10 + 8, none⟩ = some (.int .i64 (r.body[i]'hlt).at_.k.n) ∧ W.cell? ⟨P1, O1 + i * 10 + 9, none⟩ = some (str (r.body[i]'hlt).at_.k.s) ∧ W.cell? ⟨w.heap.size + 1, 5, none⟩ = some (.slice (some ⟨P2, O2, none⟩) xs.length c) ∧ W.cell? ⟨P2, O2 + i * 4, none⟩ = some (str (xs[i]'hlt').at_) ∧ W.cell? ⟨P2, O2 + i * 4 + 1, none⟩ = some (str (xs[i]'hlt').by_) ∧ W.cell? ⟨P2, O2 + i * 4 + 2, none⟩ = some (str (xs[i]'hlt').pred) ∧ W.cell? ⟨P2, O2 + i * 4 + 3, none⟩ = some (.slice (xs[i]'hlt').a (xs[i]'hlt').ks.length (xs[i]'hlt').cap)) := fun W hX => by
            obtain ⟨d0, d1, d2, d3, d10⟩ := rv_home5 hX.h0
            have d5 := (dv_cells hX.h1).2.2.2.2
            have hB := hr.body.below hX.below (Nat.le_refl _)
            have hF := hl.below hX.below (Nat.le_refl _)
            rw [hP] at d10 hB
            rw [hQ] at d5 hF
            obtain ⟨e0, e1, e2, e3, e4, e5, e6, e7, e8, e9⟩ := lv_in5 (hB.range i hlt)
            have rf := hF.range i hlt'
            exact ⟨d0, d1, d2, d3, d10, e0, e1, e2, e3, e4, e5, e6, e7, e8, e9, d5, rf 0 _ rfl, rf 1 _ rfl, rf 2 _ rfl, rf 3 _ rfl⟩
          have HK2 := hideP K2
          rw [hP] at cl
          clear K2 hP hQ
          generalize (r.body[i]'hlt) = y at *
          generalize (xs[i]'hlt') = z at *
          have gD := (Below.refl wr.heap.size wr).drew
          have Xd := X.then gD
          have Ed := E.below gD (Nat.le_refl _)
          have TL := hideP (fun W h1 h3 => rLiteral_at r.home y z a' c' M W h1 (by omega) (aY.below (B := w.heap.size) h3 (Nat.le_refl _)) (aZ.below (B := w.heap.size) h3 (Nat.le_refl _)))
          go_wp2_with fail
          go_region_held3 (fun W => W.cell? ⟨w.heap.size, 0, none⟩ = some (str r.home.v) ∧ W.cell? ⟨w.heap.size, 1, none⟩ = some (.bool r.home.k.num) ∧ W.cell? ⟨w.heap.size, 2, none⟩ = some (.int .i64 r.home.k.n) ∧ W.cell? ⟨w.heap.size, 3, none⟩ = some (str r.home.k.s) ∧ W.cell? ⟨w.heap.size, 10, none⟩ = some (.slice (some ⟨P1, O1, none⟩) r.body.length r.bcap) ∧ W.cell? ⟨P1, O1 + i * 10, none⟩ = some (str y.by_.v) ∧ W.cell? ⟨P1, O1 + i * 10 + 1, none⟩ = some (.bool y.by_.k.num) ∧ W.cell? ⟨P1, O1 + i * 10 + 2, none⟩ = some (.int .i64 y.by_.k.n) ∧ W.cell? ⟨P1, O1 + i * 10 + 3, none⟩ = some (str y.by_.k.s) ∧ W.cell? ⟨P1, O1 + i * 10 + 4, none⟩ = some (str y.pred) ∧ W.cell? ⟨P1, O1 + i * 10 + 5, none⟩ = some (.slice y.a y.args.length y.cap) ∧ W.cell? ⟨P1, O1 + i * 10 + 6, none⟩ = some (str y.at_.v) ∧ W.cell? ⟨P1, O1 + i * 10 + 7, none⟩ = some (.bool y.at_.k.num) ∧ W.cell? ⟨P1, O1 + i * 10 + 8, none⟩ = some (.int .i64 y.at_.k.n) ∧ W.cell? ⟨P1, O1 + i * 10 + 9, none⟩ = some (str y.at_.k.s) ∧ W.cell? ⟨w.heap.size + 1, 5, none⟩ = some (.slice (some ⟨P2, O2, none⟩) xs.length c) ∧ W.cell? ⟨P2, O2 + i * 4, none⟩ = some (str z.at_) ∧ W.cell? ⟨P2, O2 + i * 4 + 1, none⟩ = some (str z.by_) ∧ W.cell? ⟨P2, O2 + i * 4 + 2, none⟩ = some (str z.pred) ∧ W.cell? ⟨P2, O2 + i * 4 + 3, none⟩ = some (.slice z.a z.ks.length z.cap)) (first | with_reducible exact HK2.out _ Xd | with_reducible exact HK2.out _ X9) (first
            | (go_at_call 17; refine (TL.out _ Ed Xd.below).mono ?_; rintro e w9 ⟨⟨a9, c9, rfl, E9⟩, b9⟩; have X9 := Xd.then b9))
          rcases lit_two r.home y.l z.f M with ⟨u1, u2, u3⟩ | ⟨e9, u1, u2, u3, u9⟩
          · rw [u3]
            have z0 := HST.out
            have u5 : Mt.lit r.r.home y.l z.f M = _ := u1
            rw [u5] at z0
            have Z := hideP z0
            clear u1 u2 u3 u5 z0 HST
            go_wp2_with fail
            go_ret
            exact ⟨ret_bool Z.out.symm, X9.below⟩
          · rw [u3]
            rw [u2] at E9 ⊢
            have z0 := HST.out
            have u5 : Mt.lit r.r.home y.l z.f M = _ := u1
            rw [u5] at z0
            have Z := hideP z0
            have u8 : e9.length ≤ M.length + (y.args.length + 2) := u9
            clear u1 u2 u3 u5 z0 HST u9
            go_wp2_with fail
            exact ⟨⟨i + 1, e9, a9, c9, rfl, by go_num, by omega, by omega, E9, X9, Z⟩, by simp [RowKit.intOf]; omega⟩
        · have q3 : ¬ (i : Int) < (r.body.length : Int) := by omega
          have HFOL := HL.out
          have hl5 := Hlen.out
          have RM := E
          have fo : Hid (Mt.fol r.r x.f (xs.map Fv.f) = match Mt.head r.r M with
              | none => false
              | some f => decide (cF f x.f = 0)) := by
            show _ = _
            rw [HFOL, folF_done (by omega) (by omega)]
            cases Mt.head r.r M <;> rfl
          clear HFOL hl5 HL
          have TH := hideP (rHead_at r a' c' M wr (hr.below X.below (Nat.le_refl _)) RM (by omega))
          go_wp2_with (refine wpList_load_all rfl 37 _ rfl w.heap.size 11 37 (rv r) _ rfl X.h0 rfl Try.underlying37 rfl iR ?_)
          refine TH.out.mono ?_
          rintro e w6 ⟨⟨z6, rfl, R6, e6⟩, b6⟩
          have X6 := X.then b6
          have N7 := heap_alloc_new w6 (.cells #[.string { data := #[] }, .string { data := #[] }, .string { data := #[] }, .slice none 0 0] 40)
          clear TH b6
          rcases fact_two5 e6 with ⟨u1, u2⟩ | ⟨u1, u2⟩
          · have z0 := fo.out
            rw [u1] at z0
            have Z := hideP z0
            rw [u2]
            clear u1 u2 z0 fo e6
            go_wp2_with (refine wpList_store_all rfl 40 _ _ rfl w6.heap.size 4 _ 40 (fv z6) rfl rfl N7 rfl rfl iF rfl ?_; intro w7 F7 b7; have T7 := below_tok b7)
            go_ret
            exact ⟨ret_bool Z.out.symm, Below.then X6.below T7⟩
          · have z0 := fo.out
            rw [u1] at z0
            have Z := hideP z0
            rw [u2]
            clear u1 u2 z0 fo e6
            have TO := hideP (fun W (hW : Below w6.heap.size w6 W) => reforder_at z6 x W (row_args (R6.safe (Safe.below hW)).row) (hx.below (Below.then X6.below hW) (Nat.le_refl _)))
            go_wp2_with (refine wpList_store_all rfl 40 _ _ rfl w6.heap.size 4 _ 40 (fv z6) rfl rfl N7 rfl rfl iF rfl ?_; intro w7 F7 b7; have T7 := below_tok b7; have X7 := X6.then T7; obtain ⟨v0, v1, v2, v3⟩ := fv_cells F7; obtain ⟨d1, d2, d3, d4, _⟩ := dv_cells X7.h1)
            refine (TO.out w7 T7).mono ?_
            rintro e w8 ⟨rfl, g8⟩
            have B8 := Below.then X7.below g8.below
            clear TO
            by_cases hc : cF z6.f x.f = 0
            · rw [hc]
              rw [show decide (cF z6.f x.f = 0) = true by simp [hc]] at Z
              clear hc
              go_wp2_with fail
              go_ret
              exact ⟨ret_bool Z.out.symm, B8⟩
            · rw [show decide (cF z6.f x.f = 0) = false by simp [hc]] at Z
              generalize cF z6.f x.f = rr at *
              have q6 : (rr == 0) = false := by simpa using hc
              go_wp2_with fail
              go_ret
              exact ⟨ret_bool Z.out.symm, B8⟩
end Go.Proofs.Ytbahbibibpkddaa
