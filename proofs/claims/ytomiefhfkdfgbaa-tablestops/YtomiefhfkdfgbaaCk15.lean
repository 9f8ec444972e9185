/-
  Facts: what Check, the program's and the reference's, answers.
-/
import Derived.Test.YtomiefhfkdfgbaaOrd
import Derived.Test.YtomiefhfkdfgbaaGo15
import Derived.Shelf.SlicesQ.IndexFunc
namespace Go.Proofs.Ytomiefhfkdfgbaa
open Go.RowKit Go.Sort

def okP (a b c : List UInt8) (ks : List K) : Bool := fitsB a && fitsB b && fitsB c && !decide ((48 : Int) < (ks.length : Int)) && ks.all goodB
def okB (x : F) : Bool := okP x.at_ x.by_ x.pred x.ks
theorem okP_yes {a b c : List UInt8} {ks : List K} (h1 : fitsB a = true) (h2 : fitsB b = true) (h3 : fitsB c = true) (h4 : ¬ (48 : Int) < (ks.length : Int)) : okP a b c ks = ks.all goodB := by
  unfold okP; rw [h1, h2, h3, decide_eq_false h4]; rfl
theorem okP_no {a b c : List UInt8} {ks : List K} (h : ¬ (fitsB a = true ∧ fitsB b = true ∧ fitsB c = true ∧ ¬ (48 : Int) < (ks.length : Int))) : okP a b c ks = false := by
  rw [Bool.eq_false_iff]; intro h'
  unfold okP at h'
  simp only [Bool.and_eq_true] at h'
  exact h ⟨h'.1.1.1.1, h'.1.1.1.2, h'.1.1.2, by simpa using h'.1.2⟩
def errno (b : Bool) : Value := .int .i64 (bif b then 0 else 40)

theorem check1_at (x : K) (w : World) : Calls Try.prog 50 #[kval x] w fun e w' => e = .returned (.bool (!goodB x)) ∧ Grew w w' := by
  have hS := fun W => good_at x W
  generalize goodB x = c at *
  go_enter Try.func50, Try.ntmps50
  go_wp2_with (go_at_call 51; refine (hS _).mono ?_; rintro e w1 ⟨rfl, hg⟩)
  go_ret
  exact ⟨rfl, ((Grew.refl _).allocs _).trans hg⟩

set_option maxHeartbeats 1000000 in
theorem hasK_nil (a : Option Addr) (c : Nat) (f : Value) (w : World) : Calls Try.prog 49 #[.slice a 0 c, f] w fun e w' => e = .returned (.bool false) ∧ w = w' := by
  go_enter Try.func49, Try.ntmps49
  go_wp2
  go_loopw [5, 8] (fun _ v wr => v = .int .i64 0 ∧ w = wr) (fun _ _ _ => 0)
  case atStart => exact ⟨rfl, rfl⟩
  case round =>
    obtain ⟨rfl, rfl⟩ := hrel
    go_wp2
    go_ret
    exact ⟨rfl, rfl⟩

theorem hasK_at (a : Option Addr) (c : Nat) (ks : List K) (w : World) (hx : ArgsAt w a c ks) :
    Calls Try.prog 49 #[.slice a ks.length c, .func (.func 50) #[] #[]] w fun e w' => e = .returned (.bool (!ks.all goodB)) ∧ Below w.heap.size w w' := by
  have eg : ∀ args w, (callFunc 50 args).run Try.prog w = .ok (.enter 50 args) w := enters_of Try.func50 (by kernel_rfl) rfl
  haveI : Inhabited K := ⟨⟨false, 0, []⟩⟩
  cases ks with
  | nil =>
    exact (hasK_nil a c _ w).mono fun _ _ ⟨h1, h2⟩ => ⟨by rw [h1]; rfl, by rw [h2]; exact Below.refl _ _⟩
  | cons k0 kr =>
    obtain ⟨B, O, rfl⟩ := hx.addr (by simp)
    have := AnyQ.slices_ContainsFunc Try.hasK 3 Try.isAgg50 Try.sizeOf50 kv kv_len (fun x => !goodB x) 50 #[] eg B O (k0 :: kr).length c (k0 :: kr) w
      (fun W x hW => (check1_at x W).mono fun _ _ ⟨h1, h2⟩ => ⟨h1, hW.trans (h2.below.mono hW.size)⟩) (Nat.le_refl _) (by have := hx.few; omega)
      (cell_block (hx.get 0 (by simp)).1) (fun j hj i v hv => by
        have hi : i < 3 := by have := (List.getElem?_eq_some_iff.1 hv).1; rwa [kv_len] at this
        rw [getElem!_pos _ j hj] at hv
        have h2 := flat_get kv 3 kv_len (k0 :: kr) j i hj hi
        have h3 := hx.cells _ rfl (j * 3 + i) v (by rw [kcells, h2, hv])
        rw [Addr.add_lit] at h3
        rw [← h3, Nat.add_assoc])
    refine this.mono fun e w' ⟨h1, h2⟩ => ⟨?_, h2⟩
    rw [h1, List.take_length]
    congr 2
    rw [List.all_eq_not_any_not, Bool.not_not]

/-- a fact's box -/
theorem box_args (w : World) (o : Array Value) (t : TypeId) (v : Value) (h : o[3]? = some v) : (w.alloc (.cells o t)).cell? ⟨w.heap.size, 3, none⟩ = some v := by simp [h]

set_option maxHeartbeats 2000000 in
theorem check_at (x : Fv) (w : World) (hx : Fv.At w x) : Calls Try.prog 33 #[x.val] w fun e w' => e = .returned (errno (okB x.f)) ∧ Below w.heap.size w w' := by
  have hS := fun (l : List UInt8) (W : World) => fits_at l W
  have hL := fun (o : Obj) => hasK_at x.a x.cap x.ks (w.alloc o) (hx.grew ((Grew.refl w).allocs o))
  have hb : ∀ o : Obj, Below w.heap.size w (w.alloc o) := fun o => below_alloc w o
  obtain ⟨x1, x2, x3, xa, xc, xk⟩ := x
  show Calls Try.prog 33 _ w fun e w' => e = .returned (errno (okP x1 x2 x3 xk)) ∧ Below w.heap.size w w'
  simp only [errno] at *
  by_cases hall : fitsB x1 = true ∧ fitsB x2 = true ∧ fitsB x3 = true ∧ ¬ (48 : Int) < (xk.length : Int)
  · obtain ⟨f1, f2, f3, hlt⟩ := hall
    rw [okP_yes f1 f2 f3 hlt]
    generalize xk.all goodB = b4 at *
    cases b4
    all_goals go_enter Try.func33, Try.ntmps33
    all_goals go_wp2_with (first | (go_at_call 48; refine (hS _ _).mono ?_; rintro e w1 ⟨rfl, rfl⟩) | (go_at_call 49; refine (hL _).mono ?_; rintro e w1 ⟨rfl, hbl⟩))
    all_goals go_ret
    all_goals exact ⟨rfl, Below.then (hb _) hbl⟩
  · rw [okP_no hall]
    clear hL hx
    cases f1 : fitsB x1 <;> cases f2 : fitsB x2 <;> cases f3 : fitsB x3 <;> by_cases hlt : (48 : Int) < (xk.length : Int)
    all_goals first
      | (exfalso; exact hall ⟨f1, f2, f3, hlt⟩)
      | skip
    all_goals clear hall
    all_goals go_enter Try.func33, Try.ntmps33
    all_goals go_wp2_with (first | (go_at_call 48; refine (hS _ _).mono ?_; rintro e w1 ⟨rfl, rfl⟩))
    all_goals (go_ret; exact ⟨rfl, hb _⟩)

theorem all_take_succ (ks : List K) (k : Nat) (h : k < ks.length) (h1 : (ks.take k).all goodB = true) (h2 : goodB ks[k] = true) : (ks.take (k + 1)).all goodB = true := by
  rw [List.take_succ_eq_append_getElem h, List.all_append, h1, List.all_cons, h2]; rfl

set_option maxHeartbeats 2000000 in
theorem refcheck_at (x : Fv) (w : World) (hx : Fv.At w x) : Calls Try.prog 37 #[x.val] w fun e w' => e = .returned (errno (okB x.f)) ∧ Below w.heap.size w w' := by
  have hS := fun (l : List UInt8) (W : World) => text_at l W
  have hG := fun (k : K) (W : World) => refgood_at k W
  have hb : ∀ o : Obj, Below w.heap.size w (w.alloc o) := fun o => below_alloc w o
  obtain ⟨x1, x2, x3, xa, xc, xk⟩ := x
  have hx : ArgsAt w xa xc xk := hx
  show Calls Try.prog 37 _ w fun e w' => e = .returned (errno (okP x1 x2 x3 xk)) ∧ Below w.heap.size w w'
  simp only [errno] at *
  by_cases hall : fitsB x1 = true ∧ fitsB x2 = true ∧ fitsB x3 = true ∧ ¬ (48 : Int) < (xk.length : Int)
  · obtain ⟨f1, f2, f3, hlt⟩ := hall
    rw [okP_yes f1 f2 f3 hlt]
    have few := hx.few
    go_enter Try.func37, Try.ntmps37
    go_wp2_with (first | (go_at_call 57; refine (hS _ _).mono ?_; rintro e w1 ⟨rfl, rfl⟩))
    obtain ⟨w2, hw2⟩ : ∃ w2, w2 = w.alloc (.cells #[str x1, str x2, str x3, .slice xa xk.length xc] 34) := ⟨_, rfl⟩
    have G2 : Grew w w2 := by rw [hw2]; exact (Grew.refl _).allocs _
    have B1 := box_args w #[str x1, str x2, str x3, .slice xa xk.length xc] 34 _ rfl
    rw [← hw2] at B1 ⊢
    have hx2 := ArgsAt.below hx G2.below (Nat.le_refl _)
    have hB1 := cell_block B1
    clear hw2 hx hb hS f1 f2 f3
    go_loopw [3] (fun v wr => ∃ k : Nat, v = .int .i64 (k : Int) ∧ k ≤ xk.length ∧ Hid ((xk.take k).all goodB = true) ∧ Grew w2 wr) (fun v _ => xk.length - (intOf v).toNat)
    case atStart => exact ⟨0, rfl, by omega, rfl, Grew.refl _⟩
    case round =>
      obtain ⟨k, rfl, hk, hev, hg⟩ := hrel
      have c1 := (hg.below.cell (p := ⟨w.heap.size, 3, none⟩) hB1).trans B1
      by_cases hlt : k < xk.length
      · have q2 : (k : Int) < (xk.length : Int) := by omega
        obtain ⟨P1, O1, rfl⟩ := hx2.addr (Nat.lt_of_le_of_lt (Nat.zero_le _) hlt)
        obtain ⟨a1, a2, a3⟩ := (hx2.below hg.below (Nat.le_refl _)).get k hlt
        have hn := hG xk[k]
        have hst := all_take_succ xk k hlt hev.out
        have hno : goodB xk[k] = false → xk.all goodB = false := fun h => by
          rw [Bool.eq_false_iff]; intro h'; rw [List.all_eq_true] at h'; rw [h' _ (List.getElem_mem hlt)] at h; cases h
        generalize xk[k] = p at *
        have Hst := hideP hst; have Hno := hideP hno; clear hst hno
        cases hr : goodB p
        · simp only [hr] at hn
          go_wp2_with fail
          refine (hn _).mono ?_; rintro e w1 ⟨rfl, hg1⟩
          go_wp2_with fail
          go_ret
          exact ⟨ret_int (by rw [Hno.out hr]; rfl), (G2.trans (hg.trans hg1)).below⟩
        · simp only [hr] at hn
          go_wp2_with fail
          refine (hn _).mono ?_; rintro e w1 ⟨rfl, hg1⟩
          go_wp2_with fail
          exact ⟨⟨k + 1, by simp, by omega, Hst.out hr, hg.trans hg1⟩, by simp [intOf]; omega⟩
      · have q2 : ¬ (k : Int) < (xk.length : Int) := by omega
        go_wp2_with fail
        go_ret
        have : xk.take k = xk := List.take_of_length_le (by omega)
        exact ⟨ret_int (by rw [← this, hev.out]; rfl), (G2.trans hg).below⟩
  · rw [okP_no hall]
    clear hx
    cases f1 : fitsB x1 <;> cases f2 : fitsB x2 <;> cases f3 : fitsB x3 <;> by_cases hlt : (48 : Int) < (xk.length : Int)
    all_goals first
      | (exfalso; exact hall ⟨f1, f2, f3, hlt⟩)
      | skip
    all_goals clear hall
    all_goals go_enter Try.func37, Try.ntmps37
    all_goals go_wp2_with (first | (go_at_call 57; refine (hS _ _).mono ?_; rintro e w1 ⟨rfl, rfl⟩))
    all_goals (go_ret; exact ⟨rfl, hb _⟩)

end Go.Proofs.Ytomiefhfkdfgbaa
