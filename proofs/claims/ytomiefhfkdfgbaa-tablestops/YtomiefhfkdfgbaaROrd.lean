/-
  Facts: what the reference's Order answers.
-/
import Derived.Test.YtomiefhfkdfgbaaOrd
import Derived.Shelf.SlSortCmp.QuietGrown
namespace Go.Proofs.Ytomiefhfkdfgbaa
open Go.RowKit Go.Sort

/-- two facts' boxes: where their Args stand -/
theorem boxes_args (w : World) (o1 o2 : Array Value) (t : TypeId) (v1 v2 : Value) (h1 : o1[3]? = some v1) (h2 : o2[3]? = some v2) :
    ((w.alloc (.cells o1 t)).alloc (.cells o2 t)).cell? ⟨w.heap.size, 3, none⟩ = some v1 ∧ ((w.alloc (.cells o1 t)).alloc (.cells o2 t)).cell? ⟨w.heap.size + 1, 3, none⟩ = some v2 := by
  constructor
  · simp [h1]
  · simp [h2]

set_option maxHeartbeats 4000000 in
theorem reforder_at (x y : Fv) (w : World) (hx : Fv.At w x) (hy : Fv.At w y) : Calls Try.prog 40 #[x.val, y.val] w fun e w' => e = .returned (.int .i64 (cF x.f y.f)) ∧ Grew w w' := by
  have hS := fun (l m : List UInt8) (W : World) => texts_at l m W
  have hC := fun (p q : K) (W : World) => refcompare_at p q W
  have mixed : Try.prog.follows .mixedOrders = true := by kernel_rfl
  have eg : ∀ args w, (callFunc 46 args).run Try.prog w = .ok (.enter 46 args) w := enters_of Try.func46 (by kernel_rfl) rfl
  have hg2 : ∀ o o' : Obj, Grew w ((w.alloc o).alloc o') := fun o o' => ((Grew.refl w).allocs o).allocs o'
  have e1 := @cF_at x.f y.f; have e2 := @cF_by x.f y.f; have e3 := @cF_pred x.f y.f; have e4 := @cF_args x.f y.f
  generalize cF x.f y.f = r at *
  simp only [Fv.f] at e1 e2 e3 e4
  obtain ⟨x1, x2, x3, xa, xc, xk⟩ := x; obtain ⟨y1, y2, y3, ya, yc, yk⟩ := y
  have hx : ArgsAt w xa xc xk := hx
  have hy : ArgsAt w ya yc yk := hy
  simp only at e1 e2 e3 e4
  have E1 := hideP e1; have E2 := hideP e2; have E3 := hideP e3; have E4 := hideP e4; clear e1 e2 e3 e4
  by_cases h1 : x1 = y1
  rotate_left
  · have k1 : (x1 == y1) = false := by simp [h1]
    have z1 := E1.out (by rw [ne_eq, cT_zero]; exact h1)
    have Z1 := hideP z1; clear z1
    go_enter Try.func40, Try.ntmps40
    go_wp2_with (go_at_call 59; refine (hS x1 y1 _).mono ?_; rintro e w' ⟨rfl, rfl⟩)
    go_ret
    exact ⟨ret_int Z1.out.symm, hg2 _ _⟩
  have z0 : cT x1 y1 = 0 := (cT_zero _ _).2 h1
  subst h1
  by_cases h2 : x2 = y2
  rotate_left
  · have k1 : (x2 == y2) = false := by simp [h2]
    have z1 := E2.out z0 (by rw [ne_eq, cT_zero]; exact h2)
    have Z1 := hideP z1; clear z1
    go_enter Try.func40, Try.ntmps40
    go_wp2_with (go_at_call 59; refine (hS x2 y2 _).mono ?_; rintro e w' ⟨rfl, rfl⟩)
    go_ret
    exact ⟨ret_int Z1.out.symm, hg2 _ _⟩
  have z2 : cT x2 y2 = 0 := (cT_zero _ _).2 h2
  subst h2
  by_cases h3 : x3 = y3
  rotate_left
  · have k1 : (x3 == y3) = false := by simp [h3]
    have z1 := E3.out z0 z2 (by rw [ne_eq, cT_zero]; exact h3)
    have Z1 := hideP z1; clear z1
    go_enter Try.func40, Try.ntmps40
    go_wp2_with (go_at_call 59; refine (hS x3 y3 _).mono ?_; rintro e w' ⟨rfl, rfl⟩)
    go_ret
    exact ⟨ret_int Z1.out.symm, hg2 _ _⟩
  have z3 : cT x3 y3 = 0 := (cT_zero _ _).2 h3
  subst h3
  have Z := hideP (E4.out z0 z2 z3)
  clear E1 E2 E3 E4 z0 z2 z3 hS
  have b1 := hx.few; have b2 := hy.few
  go_enter Try.func40, Try.ntmps40
  go_wp2_with fail
  obtain ⟨w2, hw2⟩ : ∃ w2, w2 = (w.alloc (.cells #[str x1, str x2, str x3, .slice xa xk.length xc] 34)).alloc (.cells #[str x1, str x2, str x3, .slice ya yk.length yc] 34) := ⟨_, rfl⟩
  have G2 : Grew w w2 := by rw [hw2]; exact hg2 _ _
  obtain ⟨B1, B2⟩ := boxes_args w #[str x1, str x2, str x3, .slice xa xk.length xc] #[str x1, str x2, str x3, .slice ya yk.length yc] 34 _ _ rfl rfl
  rw [← hw2] at B1 B2 ⊢
  have hx2 := ArgsAt.below hx G2.below (Nat.le_refl _)
  have hy2 := ArgsAt.below hy G2.below (Nat.le_refl _)
  have hB1 := cell_block B1; have hB2 := cell_block B2
  clear hw2 hx hy hg2
  go_loopw [5, 6] (fun v _ wr => ∃ k : Nat, v = .int .i64 (k : Int) ∧ k ≤ xk.length ∧ k ≤ yk.length ∧ Hid (Even xk yk k) ∧ Grew w2 wr) (fun v _ _ => xk.length - (intOf v).toNat)
  case atStart => exact ⟨0, rfl, by omega, by omega, fun j _ _ h => absurd h (by omega), Grew.refl _⟩
  case round =>
    obtain ⟨k, rfl, hk, hk', hev, hg⟩ := hrel
    have c1 := (hg.below.cell (p := ⟨w.heap.size, 3, none⟩) hB1).trans B1
    have c2 := (hg.below.cell (p := ⟨w.heap.size + 1, 3, none⟩) hB2).trans B2
    have n1 := cell_block c1; have n2 := cell_block c2
    by_cases hlt : k < xk.length
    · have q2 : (k : Int) < (xk.length : Int) := by omega
      by_cases hlt' : k < yk.length
      · have q4 : (k : Int) < (yk.length : Int) := by omega
        obtain ⟨P1, O1, rfl⟩ := hx2.addr (Nat.lt_of_le_of_lt (Nat.zero_le _) hlt)
        obtain ⟨P2, O2, rfl⟩ := hy2.addr (Nat.lt_of_le_of_lt (Nat.zero_le _) hlt')
        obtain ⟨a1, a2, a3⟩ := (hx2.below hg.below (Nat.le_refl _)).get k hlt
        obtain ⟨d1, d2, d3⟩ := (hy2.below hg.below (Nat.le_refl _)).get k hlt'
        have n3 := cell_block a1; have n4 := cell_block d1
        have hn := hC xk[k] yk[k]
        have hev' : Hid (cK xk[k] yk[k] = 0 → Even xk yk (k + 1)) := fun h j hjx hjy hj => by
          by_cases e : j = k
          · subst e; exact h
          · exact hev.out j hjx hjy (by omega)
        have hhit : Hid (cK xk[k] yk[k] ≠ 0 → cL cK xk yk = cK xk[k] yk[k]) := fun h => cL_hit cK xk yk k hlt hlt' (fun j hjx hjy hj => hev.out j hjx hjy hj) h
        generalize xk[k] = p at *
        generalize yk[k] = q at *
        have C1 := fun n os => cell_grown (cell_block c1) c1 n os
        have C2 := fun n os => cell_grown (cell_block c2) c2 n os
        have A1 := fun n os => cell_grown (cell_block a1) a1 n os
        have A2 := fun n os => cell_grown (cell_block a2) a2 n os
        have A3 := fun n os => cell_grown (cell_block a3) a3 n os
        have D1 := fun n os => cell_grown (cell_block d1) d1 n os
        have D2 := fun n os => cell_grown (cell_block d2) d2 n os
        have D3 := fun n os => cell_grown (cell_block d3) d3 n os
        clear hC
        by_cases hr : cK p q = 0
        · have hev'' := hideP (hev'.out hr)
          simp only [hr] at hn
          go_wp2_with fail
          go_quiet_grown (first | (go_at_fn 46; refine Calls.grown_of (hn _)))
          go_wp2_with fail
          exact ⟨⟨k + 1, by simp, by omega, by omega, hev'', hg.trans (Grew.grow _ _ _)⟩, by simp [intOf]; omega⟩
        · have hhit' := hideP (hhit.out hr)
          generalize cK p q = r at hn hr hhit'
          go_wp2_with fail
          go_quiet_grown (first | (go_at_fn 46; refine Calls.grown_of (hn _)))
          go_wp2_with fail
          go_ret
          exact ⟨ret_int (by rw [Z.out, hhit'.out]), G2.trans (hg.trans (Grew.grow _ _ _))⟩
      · have q4 : ¬ (k : Int) < (yk.length : Int) := by omega
        have q5 : ¬ (xk.length : Int) < (yk.length : Int) := by omega
        have q6 : (yk.length : Int) < (xk.length : Int) := by omega
        go_wp2_with fail
        go_ret
        refine ⟨ret_int ?_, G2.trans hg⟩
        rw [Z.out, cL_long cK xk yk (by omega) fun j hjx hjy => hev.out j hjx hjy (by omega)]
    · have q2 : ¬ (k : Int) < (xk.length : Int) := by omega
      by_cases hlt' : xk.length < yk.length
      · have q3 : (xk.length : Int) < (yk.length : Int) := by omega
        go_wp2_with fail
        go_ret
        refine ⟨ret_int ?_, G2.trans hg⟩
        rw [Z.out, cL_short cK xk yk (by omega) fun j hjx hjy => hev.out j hjx hjy (by omega)]
      · have q3 : ¬ (xk.length : Int) < (yk.length : Int) := by omega
        have q4 : ¬ (yk.length : Int) < (xk.length : Int) := by omega
        go_wp2_with fail
        go_ret
        refine ⟨ret_int ?_, G2.trans hg⟩
        rw [Z.out, cL_even cK xk yk (by omega) fun j hjx hjy => hev.out j hjx hjy (by omega)]

end Go.Proofs.Ytomiefhfkdfgbaa
