/-
  MatchLiterals: a rule's first literal against any fact, by any bindings, is the document's.
-/
import Derived.Test.YtbahbibibpkddaaY2
import Derived.Test.YtbahbibibpkddaaD3
namespace Go.Proofs.Ytbahbibibpkddaa
open Go.RowKit Go.Lib Go.Shelf

theorem Try.iF11 : (Try.prog.info? 40).map (fun i => (i.zero, i.size, i.bytes)) = some (some (.agg #[.string .empty, .string .empty, .string .empty, .slice none 0 0]), 4, 72) := by kernel_rfl
theorem row_lies {w : World} {a : Option Addr} {c : Nat} {xs : List Fv} (h : Row fK w a c xs) (hc : c ≤ maxLen) (hf : xs.length ≤ 1954687338211) : Lies w a c xs := ⟨h.room, hc, hf, h.void, h.cells⟩
/-- the cells of a literal that lies in a row -/
theorem lv_in {w : World} {b o : Nat} {y : Lv} (h : w.rangeAt b o (lv y)) :
    w.cell? ⟨b, o, none⟩ = some (str y.by_.v) ∧ w.cell? ⟨b, o + 1, none⟩ = some (.bool y.by_.k.num) ∧ w.cell? ⟨b, o + 2, none⟩ = some (.int .i64 y.by_.k.n) ∧ w.cell? ⟨b, o + 3, none⟩ = some (str y.by_.k.s) ∧ w.cell? ⟨b, o + 4, none⟩ = some (str y.pred) ∧ w.cell? ⟨b, o + 5, none⟩ = some (.slice y.a y.args.length y.cap) ∧
    w.cell? ⟨b, o + 6, none⟩ = some (str y.at_.v) ∧ w.cell? ⟨b, o + 7, none⟩ = some (.bool y.at_.k.num) ∧ w.cell? ⟨b, o + 8, none⟩ = some (.int .i64 y.at_.k.n) ∧ w.cell? ⟨b, o + 9, none⟩ = some (str y.at_.k.s) :=
  ⟨h 0 _ rfl, h 1 _ rfl, h 2 _ rfl, h 3 _ rfl, h 4 _ rfl, h 5 _ rfl, h 6 _ rfl, h 7 _ rfl, h 8 _ rfl, h 9 _ rfl⟩
theorem rv_home {w : World} {b : Nat} {x : Rv} (H : w.heap[b]? = some (.cells (rv x).toArray 37)) :
    w.cell? ⟨b, 0, none⟩ = some (str x.home.v) ∧ w.cell? ⟨b, 1, none⟩ = some (.bool x.home.k.num) ∧ w.cell? ⟨b, 2, none⟩ = some (.int .i64 x.home.k.n) ∧ w.cell? ⟨b, 3, none⟩ = some (str x.home.k.s) ∧ w.cell? ⟨b, 10, none⟩ = some (.slice x.ba x.body.length x.bcap) := by
  refine ⟨?_, ?_, ?_, ?_, ?_⟩ <;> (rw [heap_cell H]; rfl)
/-- a rule's and a fact's box; of what lay in the world w nothing turned -/
structure Bx2 (r : Rv) (x : Fv) (w wc : World) : Prop where
  below : Below w.heap.size w wc
  h0 : wc.heap[w.heap.size]? = some (.cells (rv r).toArray 37)
  h1 : wc.heap[w.heap.size + 1]? = some (.cells (fv x).toArray 40)
theorem Bx2.then {r : Rv} {x : Fv} {w wc wd : World} (h : Bx2 r x w wc) (b : Below wc.heap.size wc wd) : Bx2 r x w wd := ⟨Below.then h.below b, below_heap b h.h0, below_heap b h.h1⟩

set_option maxRecDepth 100000 in
set_option maxHeartbeats 2000000 in
theorem matchLiterals_walk (r : Rv) (x : Fv) (b : Option Addr) (d : Nat) (L : List Bd) (w : World) (hr : Rv.Aw w r) (tr : TxR r) (hx : Fv.At w x) (tx : TxF x) (hE : Row bK w b d L) :
    Calls Try.prog 4 #[rval r, x.val, .slice b L.length d] w fun e w' => e = .returned (.bool true) ∧ Below w.heap.size w w' := by
  have iR : (Try.prog.info? 37).map (·.size) = some 11 := by kernel_rfl
  have iF : (Try.prog.info? 40).map (·.size) = some 4 := by kernel_rfl
  have few := hE.few
  have LV := hideP (fun W => live11_at W)
  obtain ⟨h0, h1, A0⟩ := boxes2 w (.cells (rv r).toArray 37) (.cells (fv x).toArray 40)
  obtain ⟨g0, g1, g2, A1⟩ := boxes3 w (.cells (rv r).toArray 37) (.cells (fv x).toArray 40) (.cells (fv x).toArray 40)
  have F1 : Lies _ (some ⟨w.heap.size + 1 + 1, 0, none⟩) 1 [x] := row_lies (row_block fK g2 x rfl) (by decide) (by simp)
  have TL := hideP (light_at r (some ⟨w.heap.size + 1 + 1, 0, none⟩) 1 [x] b d L _ (hr.below A1 (Nat.le_refl _)) tr F1 (fun z hz => by rw [List.mem_singleton.1 hz]; exact ⟨hx.below A1 (Nat.le_refl _), tx⟩) (hE.below A1 (Nat.le_refl _)))
  have hbf := hr.body.few
  go_enter Try.func4, Try.ntmps4
  go_wp2_with (first | (refine wpList_load_all rfl 37 _ rfl w.heap.size 11 37 (rv r) _ rfl h0 rfl Try.underlying37 rfl iR ?_) | (refine wpList_load_all rfl 40 _ rfl (w.heap.size + 1) 4 40 (fv x) _ rfl h1 rfl Try.underlying40 rfl iF ?_) | (refine wpList_build_one rfl 42 40 _ rfl (fv x) _ 4 72 rfl rfl (by decide) (by decide) Try.underlying42 Try.iF11 ?_))
  refine TL.out.mono ?_
  rintro e w1 ⟨⟨q, rfl, hq⟩, b1⟩
  have X1 : Bx2 r x w w1 := ⟨Below.then A1 b1, below_heap b1 g0, below_heap b1 g1⟩
  clear h0 h1 A0 g0 g1 g2 A1 F1 TL b1
  cases q with
  | false =>
    go_wp2_with fail
    refine (LV.out _).mono ?_
    rintro e w2 ⟨rfl, b2⟩
    go_wp2_with fail
    go_ret
    exact ⟨rfl, Below.then X1.below b2⟩
  | true =>
    obtain ⟨f2, _, l2⟩ := hq rfl
    have c10 := (rv_home X1.h0).2.2.2.2
    clear hq
    by_cases hb : 0 < r.body.length
    rotate_left
    · have q1 : r.body.length = 0 := by omega
      have q2 : ((r.body.length : Int) == 0) = true := by rw [beq_iff_eq]; omega
      clear q1 hb
      go_wp2_with fail
      refine (LV.out _).mono ?_
      rintro e w2 ⟨rfl, b2⟩
      go_wp2_with fail
      go_ret
      exact ⟨rfl, Below.then X1.below b2⟩
    · have q2 : ((r.body.length : Int) == 0) = false := by rw [beq_eq_false_iff_ne]; omega
      have q3 : (0 : Int) < (r.body.length : Int) := by omega
      obtain ⟨P1, O1, hP⟩ := hr.body.addr hb
      have aY := hr.each _ (List.getElem_mem hb)
      have KK : ∀ W, Bx2 r x w W → (W.cell? ⟨w.heap.size, 0, none⟩ = some (str r.home.v) ∧ W.cell? ⟨w.heap.size, 1, none⟩ = some (.bool r.home.k.num) ∧ W.cell? ⟨w.heap.size, 2, none⟩ = some (.int .i64 r.home.k.n) ∧ W.cell? ⟨w.heap.size, 3, none⟩ = some (str r.home.k.s) ∧ W.cell? ⟨w.heap.size, 10, none⟩ = some (.slice (some ⟨P1, O1, none⟩) r.body.length r.bcap) ∧
          W.cell? ⟨P1, O1, none⟩ = some (str (r.body[0]'hb).by_.v) ∧ W.cell? ⟨P1, O1 + 1, none⟩ = some (.bool (r.body[0]'hb).by_.k.num) ∧ W.cell? ⟨P1, O1 + 2, none⟩ = some (.int .i64 (r.body[0]'hb).by_.k.n) ∧ W.cell? ⟨P1, O1 + 3, none⟩ = some (str (r.body[0]'hb).by_.k.s) ∧ W.cell? ⟨P1, O1 + 4, none⟩ = some (str (r.body[0]'hb).pred) ∧ W.cell? ⟨P1, O1 + 5, none⟩ = some (.slice (r.body[0]'hb).a (r.body[0]'hb).args.length (r.body[0]'hb).cap) ∧
          W.cell? ⟨P1, O1 + 6, none⟩ = some (str (r.body[0]'hb).at_.v) ∧ W.cell? ⟨P1, O1 + 7, none⟩ = some (.bool (r.body[0]'hb).at_.k.num) ∧ W.cell? ⟨P1, O1 + 8, none⟩ = some (.int .i64 (r.body[0]'hb).at_.k.n) ∧ W.cell? ⟨P1, O1 + 9, none⟩ = some (str (r.body[0]'hb).at_.k.s) ∧
          W.cell? ⟨w.heap.size + 1, 0, none⟩ = some (str x.at_) ∧ W.cell? ⟨w.heap.size + 1, 1, none⟩ = some (str x.by_) ∧ W.cell? ⟨w.heap.size + 1, 2, none⟩ = some (str x.pred) ∧ W.cell? ⟨w.heap.size + 1, 3, none⟩ = some (.slice x.a x.ks.length x.cap)) := fun W hX => by
        obtain ⟨c0, c1, c2, c3, c10⟩ := rv_home hX.h0
        have hB := hr.body.below hX.below (Nat.le_refl _)
        rw [hP] at c10 hB
        have rg := hB.range 0 hb
        rw [Nat.zero_mul, Nat.add_zero] at rg
        obtain ⟨d0, d1, d2, d3, d4, d5, d6, d7, d8, d9⟩ := lv_in rg
        obtain ⟨e0, e1, e2, e3⟩ := fv_cells hX.h1
        exact ⟨c0, c1, c2, c3, c10, d0, d1, d2, d3, d4, d5, d6, d7, d8, d9, e0, e1, e2, e3⟩
      have HK := hideP KK
      have ya := f2.c _ (List.getElem_mem hb)
      generalize (r.body[0]'hb) = y at *
      clear KK hP hb
      have TM := hideP (fun W hW => mLiteral_at r.home y x b d L W (hE.below (B := w.heap.size) hW (Nat.le_refl _)) (by omega) (aY.below hW (Nat.le_refl _)) (hx.below hW (Nat.le_refl _)))
      have TR := hideP (fun W hW => rLiteral_at r.home y x b d L W (hE.below (B := w.heap.size) hW (Nat.le_refl _)) (by omega) (aY.below hW (Nat.le_refl _)) (hx.below hW (Nat.le_refl _)))
      have X1d := X1.then (Below.refl w1.heap.size w1).drew
      have hn0 : 0 < r.body.length := by omega
      generalize hn : r.body.length = n at *
      clear hn
      go_wp2_with fail
      go_region_held3 (fun W => W.cell? ⟨w.heap.size, 0, none⟩ = some (str r.home.v) ∧ W.cell? ⟨w.heap.size, 1, none⟩ = some (.bool r.home.k.num) ∧ W.cell? ⟨w.heap.size, 2, none⟩ = some (.int .i64 r.home.k.n) ∧ W.cell? ⟨w.heap.size, 3, none⟩ = some (str r.home.k.s) ∧ W.cell? ⟨w.heap.size, 10, none⟩ = some (.slice (some ⟨P1, O1, none⟩) n r.bcap) ∧
          W.cell? ⟨P1, O1, none⟩ = some (str y.by_.v) ∧ W.cell? ⟨P1, O1 + 1, none⟩ = some (.bool y.by_.k.num) ∧ W.cell? ⟨P1, O1 + 2, none⟩ = some (.int .i64 y.by_.k.n) ∧ W.cell? ⟨P1, O1 + 3, none⟩ = some (str y.by_.k.s) ∧ W.cell? ⟨P1, O1 + 4, none⟩ = some (str y.pred) ∧ W.cell? ⟨P1, O1 + 5, none⟩ = some (.slice y.a y.args.length y.cap) ∧
          W.cell? ⟨P1, O1 + 6, none⟩ = some (str y.at_.v) ∧ W.cell? ⟨P1, O1 + 7, none⟩ = some (.bool y.at_.k.num) ∧ W.cell? ⟨P1, O1 + 8, none⟩ = some (.int .i64 y.at_.k.n) ∧ W.cell? ⟨P1, O1 + 9, none⟩ = some (str y.at_.k.s) ∧
          W.cell? ⟨w.heap.size + 1, 0, none⟩ = some (str x.at_) ∧ W.cell? ⟨w.heap.size + 1, 1, none⟩ = some (str x.by_) ∧ W.cell? ⟨w.heap.size + 1, 2, none⟩ = some (str x.pred) ∧ W.cell? ⟨w.heap.size + 1, 3, none⟩ = some (.slice x.a x.ks.length x.cap)) (first | exact HK.out _ X2 | exact HK.out _ X1d) (first
        | (go_at_call 16; refine (TM.out _ X1d.below).mono ?_; rintro e w2 ⟨⟨a2, c2, rfl, R2⟩, b2⟩; have X2 := X1d.then b2))
      clear X1 X1d b2
      have gD := (Below.refl w2.heap.size w2).drew
      have X2d := X2.then gD
      go_wp2_with fail
      go_region_held3 (fun W => W.cell? ⟨w.heap.size, 0, none⟩ = some (str r.home.v) ∧ W.cell? ⟨w.heap.size, 1, none⟩ = some (.bool r.home.k.num) ∧ W.cell? ⟨w.heap.size, 2, none⟩ = some (.int .i64 r.home.k.n) ∧ W.cell? ⟨w.heap.size, 3, none⟩ = some (str r.home.k.s) ∧ W.cell? ⟨w.heap.size, 10, none⟩ = some (.slice (some ⟨P1, O1, none⟩) n r.bcap) ∧
          W.cell? ⟨P1, O1, none⟩ = some (str y.by_.v) ∧ W.cell? ⟨P1, O1 + 1, none⟩ = some (.bool y.by_.k.num) ∧ W.cell? ⟨P1, O1 + 2, none⟩ = some (.int .i64 y.by_.k.n) ∧ W.cell? ⟨P1, O1 + 3, none⟩ = some (str y.by_.k.s) ∧ W.cell? ⟨P1, O1 + 4, none⟩ = some (str y.pred) ∧ W.cell? ⟨P1, O1 + 5, none⟩ = some (.slice y.a y.args.length y.cap) ∧
          W.cell? ⟨P1, O1 + 6, none⟩ = some (str y.at_.v) ∧ W.cell? ⟨P1, O1 + 7, none⟩ = some (.bool y.at_.k.num) ∧ W.cell? ⟨P1, O1 + 8, none⟩ = some (.int .i64 y.at_.k.n) ∧ W.cell? ⟨P1, O1 + 9, none⟩ = some (str y.at_.k.s) ∧
          W.cell? ⟨w.heap.size + 1, 0, none⟩ = some (str x.at_) ∧ W.cell? ⟨w.heap.size + 1, 1, none⟩ = some (str x.by_) ∧ W.cell? ⟨w.heap.size + 1, 2, none⟩ = some (str x.pred) ∧ W.cell? ⟨w.heap.size + 1, 3, none⟩ = some (.slice x.a x.ks.length x.cap)) (first | exact HK.out _ X3 | exact HK.out _ X2d) (first
        | (go_at_call 17; refine (TR.out _ X2d.below).mono ?_; rintro e w3 ⟨⟨a3, c3, rfl, R3⟩, b3⟩; have X3 := X2d.then b3))
      have R2' := (R2.row.below gD (Nat.le_refl _)).below b3 (Nat.le_refl _)
      clear X2 X2d gD b3 R2 HK TM TR
      generalize litE r.home y.l x.f L = E1 at *
      generalize litB r.home y.l x.f L = E2 at *
      go_wp2_with fail
      refine (rlike11_at a2 a3 c2 c3 E1 w3 R2' R3).mono ?_
      rintro e w4 ⟨rfl, b4⟩
      go_wp2_with fail
      refine (LV.out _).mono ?_
      rintro e w5 ⟨rfl, b5⟩
      go_wp2_with fail
      go_ret
      exact ⟨rfl, Below.then (Below.then X3.below b4) b5⟩
end Go.Proofs.Ytbahbibibpkddaa
