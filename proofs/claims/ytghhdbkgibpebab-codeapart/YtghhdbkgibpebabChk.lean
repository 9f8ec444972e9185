/-
  Facts: what Check, the program's and the reference's, answers.
-/
import Derived.Test.YtghhdbkgibpebabOrd
import Derived.Shelf.SlicesQ.IndexFunc
namespace Go.Proofs.Ytghhdbkgibpebab
open Go.RowKit Go.Sort

def okP (a b c : List UInt8) (ks : List K) : Bool := fitsB a && fitsB b && fitsB c && !decide ((48 : Int) < (ks.length : Int)) && ks.all goodB
def okB (x : F) : Bool := okP x.at_ x.by_ x.pred x.ks
theorem okP_yes {a b c : List UInt8} {ks : List K} (h1 : fitsB a = true) (h2 : fitsB b = true) (h3 : fitsB c = true) (h4 : ¬ (48 : Int) < (ks.length : Int)) : okP a b c ks = ks.all goodB := by
  unfold okP; rw [h1, h2, h3, decide_eq_false h4]; rfl
theorem okP_no {a b c : List UInt8} {ks : List K} (h : ¬ (fitsB a = true ∧ fitsB b = true ∧ fitsB c = true ∧ ¬ (48 : Int) < (ks.length : Int))) : okP a b c ks = false := by
  rw [Bool.eq_false_iff]; intro h'
  unfold okP at h'
  simp only [Bool.and_eq_true] at h'
  exact h ⟨h'.1.1.1.1, h'.1.1.1.2, h'.1.1.2, by simpa using h'.1.2⟩
def errno (b : Bool) : Value := .int .i64 (bif b then 0 else 40)

theorem check1_at (x : K) (w : World) : Calls Try.prog 23 #[kval x] w fun e w' => e = .returned (.bool (!goodB x)) ∧ Grew w w' := by
  have hS := fun W => good_at x W
  generalize goodB x = c at *
  go_enter Try.func23, Try.ntmps23
  go_wp2_with (go_at_call 24; refine (hS _).mono ?_; rintro e w1 ⟨rfl, hg⟩)
  go_ret
  exact ⟨rfl, ((Grew.refl _).allocs _).trans hg⟩

set_option maxHeartbeats 1000000 in
theorem hasK_nil (a : Option Addr) (c : Nat) (f : Value) (w : World) : Calls Try.prog 22 #[.slice a 0 c, f] w fun e w' => e = .returned (.bool false) ∧ w = w' := by
  go_enter Try.func22, Try.ntmps22
  go_wp2
  go_loopw [5, 8] (fun _ v wr => v = .int .i64 0 ∧ w = wr) (fun _ _ _ => 0)
  case atStart => exact ⟨rfl, rfl⟩
  case round =>
    obtain ⟨rfl, rfl⟩ := hrel
    go_wp2
    go_ret
    exact ⟨rfl, rfl⟩

theorem hasK_at (a : Option Addr) (c : Nat) (ks : List K) (w : World) (hx : ArgsAt w a c ks) :
    Calls Try.prog 22 #[.slice a ks.length c, .func (.func 23) #[] #[]] w fun e w' => e = .returned (.bool (!ks.all goodB)) ∧ Below w.heap.size w w' := by
  have eg : ∀ args w, (callFunc 23 args).run Try.prog w = .ok (.enter 23 args) w := enters_of Try.func23 (by kernel_rfl) rfl
  haveI : Inhabited K := ⟨⟨false, 0, []⟩⟩
  cases ks with
  | nil =>
    exact (hasK_nil a c _ w).mono fun _ _ ⟨h1, h2⟩ => ⟨by rw [h1]; rfl, by rw [h2]; exact Below.refl _ _⟩
  | cons k0 kr =>
    obtain ⟨B, O, rfl⟩ := hx.addr (by simp)
    have := AnyQ.slices_ContainsFunc Try.hasK 3 Try.isAgg35 Try.sizeOf35 kv kv_len (fun x => !goodB x) 23 #[] eg B O (k0 :: kr).length c (k0 :: kr) w
      (fun W x hW => (check1_at x W).mono fun _ _ ⟨h1, h2⟩ => ⟨h1, hW.trans (h2.below.mono hW.size)⟩) (Nat.le_refl _) (by have := hx.few; omega)
      (cell_block (hx.get 0 (by simp)).1) (fun j hj i v hv => by
        have hi : i < 3 := by have := (List.getElem?_eq_some_iff.1 hv).1; rwa [kv_len] at this
        rw [getElem!_pos _ j hj] at hv
        have h2 := flat_get kv 3 kv_len (k0 :: kr) j i hj hi
        have h3 := hx.cells _ rfl (j * 3 + i) v (by rw [kcells, h2, hv])
        rw [Addr.add_lit] at h3
        rw [← h3, Nat.add_assoc])
    refine this.mono fun e w' ⟨h1, h2⟩ => ⟨?_, h2⟩
    rw [h1, List.take_length]
    congr 2
    rw [List.all_eq_not_any_not, Bool.not_not]

/-- a fact's box -/
theorem box_args (w : World) (o : Array Value) (t : TypeId) (v : Value) (h : o[3]? = some v) : (w.alloc (.cells o t)).cell? ⟨w.heap.size, 3, none⟩ = some v := by simp [h]

set_option maxHeartbeats 2000000 in
theorem check_at (x : Fv) (w : World) (hx : Fv.At w x) : Calls Try.prog 11 #[x.val] w fun e w' => e = .returned (errno (okB x.f)) ∧ Below w.heap.size w w' := by
  have hS := fun (l : List UInt8) (W : World) => fits_at l W
  have hL := fun (o : Obj) => hasK_at x.a x.cap x.ks (w.alloc o) (hx.grew ((Grew.refl w).allocs o))
  have hb : ∀ o : Obj, Below w.heap.size w (w.alloc o) := fun o => below_alloc w o
  obtain ⟨x1, x2, x3, xa, xc, xk⟩ := x
  show Calls Try.prog 11 _ w fun e w' => e = .returned (errno (okP x1 x2 x3 xk)) ∧ Below w.heap.size w w'
  simp only [errno] at *
  by_cases hall : fitsB x1 = true ∧ fitsB x2 = true ∧ fitsB x3 = true ∧ ¬ (48 : Int) < (xk.length : Int)
  · obtain ⟨f1, f2, f3, hlt⟩ := hall
    rw [okP_yes f1 f2 f3 hlt]
    generalize xk.all goodB = b4 at *
    cases b4
    all_goals go_enter Try.func11, Try.ntmps11
    all_goals go_wp2_with (first | (go_at_call 21; refine (hS _ _).mono ?_; rintro e w1 ⟨rfl, rfl⟩) | (go_at_call 22; refine (hL _).mono ?_; rintro e w1 ⟨rfl, hbl⟩))
    all_goals go_ret
    all_goals exact ⟨rfl, Below.then (hb _) hbl⟩
  · rw [okP_no hall]
    clear hL hx
    cases f1 : fitsB x1 <;> cases f2 : fitsB x2 <;> cases f3 : fitsB x3 <;> by_cases hlt : (48 : Int) < (xk.length : Int)
    all_goals first
      | (exfalso; exact hall ⟨f1, f2, f3, hlt⟩)
      | skip
    all_goals clear hall
    all_goals go_enter Try.func11, Try.ntmps11
    all_goals go_wp2_with (first | (go_at_call 21; refine (hS _ _).mono ?_; rintro e w1 ⟨rfl, rfl⟩))
    all_goals (go_ret; exact ⟨rfl, hb _⟩)

theorem all_take_succ (ks : List K) (k : Nat) (h : k < ks.length) (h1 : (ks.take k).all goodB = true) (h2 : goodB ks[k] = true) : (ks.take (k + 1)).all goodB = true := by
  rw [List.take_succ_eq_append_getElem h, List.all_append, h1, List.all_cons, h2]; rfl

end Go.Proofs.Ytghhdbkgibpebab
