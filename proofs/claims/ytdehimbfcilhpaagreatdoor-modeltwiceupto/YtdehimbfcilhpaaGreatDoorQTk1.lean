/-
  Bindings compared by their values; what a literal took.
-/
import Derived.Test.YtdehimbfcilhpaaGreatDoorQLo
import Derived.Test.YtdehimbfcilhpaaGreatDoorQCpt
import Derived.Test.YtdehimbfcilhpaaGreatDoorQShelfB
import Derived.Test.YtdehimbfcilhpaaGreatDoorQCpt2
namespace Go.Proofs.YtdehimbfcilhpaaGreatDoor
open Go.RowKit Go.Lib Go.Shelf Go.Sort

theorem Row.getB {w : World} {b o cap : Nat} {xs : List Bd} (h : Row bK w (some ⟨b, o, none⟩) cap xs) (i : Nat) (hi : i < xs.length) :
    w.cell? ⟨b, o + i * 4, none⟩ = some (str xs[i].1) ∧ w.cell? ⟨b, o + i * 4 + 1, none⟩ = some (.bool xs[i].2.num) ∧ w.cell? ⟨b, o + i * 4 + 2, none⟩ = some (.int .i64 xs[i].2.n) ∧ w.cell? ⟨b, o + i * 4 + 3, none⟩ = some (str xs[i].2.s) := by
  have r : w.rangeAt b (o + i * 4) (bv xs[i]) := h.range i hi
  exact ⟨r 0 _ rfl, r 1 _ rfl, r 2 _ rfl, r 3 _ rfl⟩
def cBd (x y : Bd) : Int := cK x.2 y.2
theorem pre_cBd : Pre cBd := pre_cK.on (fun x : Bd => x.2)
def EvenB (x y : List Bd) (k : Nat) : Prop := ∀ j (hx : j < x.length) (hy : j < y.length), j < k → cBd x[j] y[j] = 0

set_option maxRecDepth 100000 in
theorem comp1_at (p q : Bd) (w : World) : Calls Tryz.prog 167 #[bval p, bval q] w fun e w' => e = .returned (.int .i64 (cBd p q)) ∧ Grew w w' := by
  have hC := fun (W : World) => compare_at p.2 q.2 W
  have hg2 : ∀ o o' : Obj, Grew w ((w.alloc o).alloc o') := fun o o' => ((Grew.refl w).allocs o).allocs o'
  show Calls _ _ _ _ fun e w' => e = .returned (.int .i64 (cK p.2 q.2)) ∧ Grew w w'
  generalize cK p.2 q.2 = r at *
  obtain ⟨v, ⟨a, n, s⟩⟩ := p
  obtain ⟨v', ⟨a', n', s'⟩⟩ := q
  go_enter Tryz.func167, Tryz.ntmps167
  go_wp2_with fail
  refine (hC _).mono ?_; rintro e w1 ⟨rfl, hg⟩
  go_wp2_with fail
  go_ret
  exact ⟨rfl, (hg2 _ _).trans hg⟩

set_option maxRecDepth 100000 in
set_option maxHeartbeats 2000000 in
theorem compareFuncB_at (a a' : Option Addr) (c c' : Nat) (x y : List Bd) (w : World) (hx : Row bK w a c x) (hy : Row bK w a' c' y) :
    Calls Tryz.prog 166 #[.slice a x.length c, .slice a' y.length c', .func (.func 167) #[] #[]] w
      fun e w' => e = .returned (.int .i64 (cL cBd x y)) ∧ Grew w w' := by
  have hC := fun (p q : Bd) (W : World) => comp1_at p q W
  have b1 := hx.few; have b2 := hy.few
  have eg : ∀ args w, (callFunc 167 args).run Tryz.prog w = .ok (.enter 167 args) w := enters_of Tryz.func167 (by kernel_rfl) rfl
  go_enter Tryz.func166, Tryz.ntmps166
  go_wp2_with fail
  go_loopw [7, 8, 9, 10, 13] (fun _ _ _ _ v wr => ∃ k : Nat, v = .int .i64 (k : Int) ∧ k ≤ x.length ∧ k ≤ y.length ∧ Hid (EvenB x y k) ∧ Grew w wr) (fun _ _ _ _ v _ => x.length - (intOf v).toNat)
  case atStart => exact ⟨0, rfl, by omega, by omega, fun j _ _ h => absurd h (by omega), Grew.refl _⟩
  case round =>
    obtain ⟨k, rfl, hk, hk', hev, hg⟩ := hrel
    by_cases hlt : k < x.length
    · have q2 : (k : Int) < (x.length : Int) := by omega
      obtain ⟨B1, O1, rfl⟩ := hx.addr (by omega)
      obtain ⟨c1, c2, c3, c4⟩ := (hx.below hg.below (Nat.le_refl _)).getB k hlt
      have n1 := cell_block c1
      by_cases hlt' : k < y.length
      · have q3 : ¬ (y.length : Int) ≤ (k : Int) := by omega
        have q4 : (k : Int) < (y.length : Int) := by omega
        obtain ⟨B2, O2, rfl⟩ := hy.addr (by omega)
        obtain ⟨d1, d2, d3, d4⟩ := (hy.below hg.below (Nat.le_refl _)).getB k hlt'
        have n2 := cell_block d1
        have hn := hC x[k] y[k]
        have hev' : Hid (cBd x[k] y[k] = 0 → EvenB x y (k + 1)) := fun h j hjx hjy hj => by
          by_cases e : j = k
          · subst e; exact h
          · exact hev.out j hjx hjy (by omega)
        have hhit : Hid (cBd x[k] y[k] ≠ 0 → cL cBd x y = cBd x[k] y[k]) := fun h => cL_hit cBd x y k hlt hlt' (fun j hjx hjy hj => hev.out j hjx hjy hj) h
        generalize x[k] = p at *
        generalize y[k] = q at *
        by_cases hr : cBd p q = 0
        · have hev'' := hideP (hev'.out hr)
          simp only [hr] at hn
          go_wp2_with fail
          refine (hn _).mono ?_; rintro e w1 ⟨rfl, hg1⟩
          go_wp2_with fail
          exact ⟨⟨k + 1, by simp, by omega, by omega, hev'', (hg.allocs _).allocs _ |>.trans hg1⟩, by simp [intOf]; omega⟩
        · have hhit' := hideP (hhit.out hr)
          generalize cBd p q = r at hn hr hhit'
          go_wp2_with fail
          refine (hn _).mono ?_; rintro e w1 ⟨rfl, hg1⟩
          go_wp2_with fail
          go_ret
          exact ⟨ret_int hhit'.out.symm, (hg.allocs _).allocs _ |>.trans hg1⟩
      · have q3 : (y.length : Int) ≤ (k : Int) := by omega
        go_wp2_with fail
        go_ret
        refine ⟨ret_int ?_, hg.allocs _⟩
        rw [cL_long cBd x y (by omega) fun j hjx hjy => hev.out j hjx hjy (by omega)]
    · have q2 : ¬ (k : Int) < (x.length : Int) := by omega
      by_cases hlt' : x.length < y.length
      · have q3 : (x.length : Int) < (y.length : Int) := by omega
        go_wp2_with fail
        go_ret
        refine ⟨ret_int ?_, hg⟩
        rw [cL_short cBd x y (by omega) fun j hjx hjy => hev.out j hjx hjy (by omega)]
      · have q3 : ¬ (x.length : Int) < (y.length : Int) := by omega
        go_wp2_with fail
        go_ret
        refine ⟨ret_int ?_, hg⟩
        rw [cL_even cBd x y (by omega) fun j hjx hjy => hev.out j hjx hjy (by omega)]

theorem compareB_at (a a' : Option Addr) (c c' : Nat) (x y : List Bd) (w : World) (hx : Row bK w a c x) (hy : Row bK w a' c' y) :
    Calls Tryz.prog 146 #[.slice a x.length c, .slice a' y.length c'] w fun e w' => e = .returned (.int .i64 (cL cBd x y)) ∧ Grew w w' := by
  have hC := compareFuncB_at a a' c c' x y w hx hy
  generalize cL cBd x y = r at *
  go_enter Tryz.func146, Tryz.ntmps146
  go_wp2_with fail
  refine hC.mono ?_; rintro e w1 ⟨rfl, hg⟩
  go_wp2_with fail
  go_ret
  exact ⟨rfl, hg⟩

/-- WHAT A LITERAL TOOK, in memory: the fact's number, what is bound by it that others see -/
structure Tk where
  i : Nat
  a : Option Addr
  cap : Nat
  ks : List Bd
def tkv (x : Tk) : List Value := [.int .i64 (x.i : Int), .slice x.a x.ks.length x.cap]
abbrev Tk.val (x : Tk) : Value := .agg #[.int .i64 (x.i : Int), .slice x.a x.ks.length x.cap]
def tkK : Kd Tk := ⟨tkv, 2, fun _ => rfl, fun _ => rfl, by decide⟩
theorem tkv_len (x : Tk) : (tkv x).length = 2 := rfl
theorem tkv_one (x : Tk) : ∀ u ∈ tkv x, u.oneCell' = true := by
  intro u hk
  simp only [tkv, List.mem_cons, List.not_mem_nil, or_false] at hk
  rcases hk with rfl | rfl <;> rfl
abbrev Tk.At (w : World) (x : Tk) : Prop := Row bK w x.a x.cap x.ks
theorem Tk.At.grew {w w' : World} {x : Tk} (h : Tk.At w x) (hb : Grew w w') : Tk.At w' x := Row.below h hb.below (Nat.le_refl _)
def cTk (x y : Tk) : Int := cL cBd x.ks y.ks
theorem pre_cTk : Pre cTk := pre_cBd.list.on Tk.ks

theorem order1_at (x y : Tk) (w : World) (hx : Tk.At w x) (hy : Tk.At w y) : Calls Tryz.prog 145 #[x.val, y.val] w fun e w' => e = .returned (.int .i64 (cTk x y)) ∧ ∃ q os, w' = grow (w.drewN q) os := by
  have hO := fun (W : World) (hg : Grew w W) => compareB_at x.a y.a x.cap y.cap x.ks y.ks W (hx.grew hg) (hy.grew hg)
  have hg2 : ∀ o o' : Obj, Grew w ((w.alloc o).alloc o') := fun o o' => ((Grew.refl w).allocs o).allocs o'
  show Calls _ _ _ _ fun e w' => e = .returned (.int .i64 (cL cBd x.ks y.ks)) ∧ Grew w w'
  generalize cL cBd x.ks y.ks = r at *
  obtain ⟨xi, xa, xc, xk⟩ := x; obtain ⟨yi, ya, yc, yk⟩ := y
  go_enter Tryz.func145, Tryz.ntmps145
  go_wp2_with fail
  refine (hO _ (hg2 _ _)).mono ?_; rintro e w1 ⟨rfl, hg⟩
  go_wp2_with fail
  go_ret
  exact ⟨rfl, (hg2 _ _).trans hg⟩
theorem same1_at (x y : Tk) (w : World) (hx : Tk.At w x) (hy : Tk.At w y) : Calls Tryz.prog 148 #[x.val, y.val] w fun e w' => e = .returned (.bool (decide (cTk x y = 0))) ∧ ∃ q os, w' = grow (w.drewN q) os := by
  have hO := fun (W : World) (hg : Grew w W) => compareB_at x.a y.a x.cap y.cap x.ks y.ks W (hx.grew hg) (hy.grew hg)
  have hg2 : ∀ o o' : Obj, Grew w ((w.alloc o).alloc o') := fun o o' => ((Grew.refl w).allocs o).allocs o'
  show Calls _ _ _ _ fun e w' => e = .returned (.bool (decide (cL cBd x.ks y.ks = 0))) ∧ Grew w w'
  generalize cL cBd x.ks y.ks = r at *
  obtain ⟨xi, xa, xc, xk⟩ := x; obtain ⟨yi, ya, yc, yk⟩ := y
  go_enter Tryz.func148, Tryz.ntmps148
  go_wp2_with fail
  refine (hO _ (hg2 _ _)).mono ?_; rintro e w1 ⟨rfl, hg⟩
  go_wp2_with fail
  go_ret
  refine ⟨ret_bool ?_, (hg2 _ _).trans hg⟩
  rw [Bool.eq_iff_iff]; simp
end Go.Proofs.YtdehimbfcilhpaaGreatDoor
