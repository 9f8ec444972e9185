/-
  All, Of, Find: iterators over a table's facts, as contracts.
-/
import Derived.Test.YtomiefhfkdfgbaaTh15
import Derived.Test.YtomiefhfkdfgbaaSw15
namespace Go.Proofs.Ytomiefhfkdfgbaa
open Go.RowKit Go.Shelf Go.Sort

abbrev noX : Nat → Prop := fun _ => False
theorem those_at (q : Option Addr) (g : Value) (W : World) (hg : ∃ f cb, g = .func f #[] cb) : Calls Try.prog 41 #[.pointer q, g] W fun e w' => e = .returned (.func (.func 60) #[] #[ptr W.heap.size, ptr (W.heap.size + 1)]) ∧ w' = (W.alloc (.cells #[.pointer q] 23)).alloc (.cells #[g] 78) := by
  obtain ⟨f, cb, rfl⟩ := hg
  go_enter Try.func41, Try.ntmps41
  go_wp2_with fail
  go_ret
  exact ⟨rfl, rfl⟩
/-- AN ITERATOR over those facts of a list of which 'is' says so -/
structure IterAt (w : World) (bt bi : Nat) (a : Option Addr) (cap : Nat) (ps : List Pn) (is : F → Bool) : Prop where
  it : ∃ (t : Value) (gi : Nat) (cb : Array Value), w.heap[bt]? = some (.cells #[t] 23) ∧ w.heap[bi]? = some (.cells #[.func (.func gi) #[] cb] 78) ∧ TabV w t a cap ps ∧ (∀ args W, (callFunc gi args).run Try.prog W = .ok (.enter gi args) W) ∧
    ∀ p ∈ ps, ∀ W', Kp5 w W' → Calls Try.prog gi (#[ptr p.q] ++ cb) W' fun e w' => e = .returned (.bool (is p.f)) ∧ Below W'.heap.size W' w'
  lst : LstAt w a cap ps
  wide : ∀ p ∈ ps, p.x.ks.length ≤ 48
theorem IterAt.below {w w' : World} {bt bi : Nat} {a : Option Addr} {cap : Nat} {ps : List Pn} {is : F → Bool} (h : IterAt w bt bi a cap ps is) (hb : Below w.heap.size w w') : IterAt w' bt bi a cap ps is := by
  obtain ⟨t, gi, cb, h1, h2, h3, h4, h5⟩ := h.it
  exact ⟨⟨t, gi, cb, below_heap hb h1, below_heap hb h2, h3.below hb, h4, fun p hp W' hk => h5 p hp W' ((Kp5.below hb).trans hk)⟩, h.lst.below hb, h.wide⟩
theorem EltC.lower {N N' : Nat} {f : F} {v : Value} {W : World} (h : EltC N f v W) (hn : N' ≤ N) : EltC N' f v W := by
  obtain ⟨z, h1, h2, h3, h4⟩ := h
  exact ⟨z, h1, h2, h3, fun ad ha => Nat.le_trans hn (h4.1 ad ha), h4.2⟩
/-- .. as a range finds it -/
theorem those_seq {w0 W : World} {bt bi : Nat} {a : Option Addr} {cap : Nat} {ps : List Pn} {is : F → Bool} {X : Nat → Prop} (h : IterAt w0 bt bi a cap ps is) (hb : Below w0.heap.size w0 W) (hX : Clear X w0) (hXl : ∀ k, X k → k < W.heap.size) :
    SeqM Try.prog noT 60 #[ptr bt, ptr bi] (EltC W.heap.size) (fun l => Rd5 w0.heap.size (orL X l)) (fun xs => xs = told is ps) (fun pre => pre <+: told is ps) ps.length W := fun l J Jx hl ho hJ hJx hY h0 => by
  obtain ⟨t, gi, cb, h1, h2, h3, h4, h5⟩ := h.it
  have hr : Rd5 w0.heap.size X w0 W := Rd5.of_below hb
  have hXo := hX.orL hr (Nat.le_refl _) ho
  refine (calls_in (those1_at w0 w0.heap.size bt bi gi cb t a cap ps is (orL X l) l J Jx W (below_heap hb h1) (below_heap hb h2) (h3.below hb) h.lst h.wide (hr.mono fun k hk => .inl hk) (Nat.le_refl _) hXo h4 (fun k hk => ?_) (fun hx => ?_) (fun p hp W' hk => h5 p hp W' (hk.kp5 (Nat.le_refl _) hXo)) hJ hJx (fun pre f v W0 W1 _ h1 _ hle helt hlen => hY pre f v W1 h1 (helt.lower hle) hlen) h0)).mono ?_
  · rcases hk with hk | rfl
    · exact hXl k hk
    · exact hl
  · have := hXo bi _ _ hx h2
    revert this; decide
  · rintro e W' ⟨hv, h1 | ⟨pre, h1, h2⟩⟩
    · exact ⟨hv, .inl ⟨_, rfl, h1⟩⟩
    · exact ⟨hv, .inr ⟨pre, h1, h2⟩⟩

/-- .. its elements known against the world that the loop knew last -/
theorem those_seqW {w0 W : World} {bt bi : Nat} {a : Option Addr} {cap : Nat} {ps : List Pn} {is : F → Bool} {X : Nat → Prop} (h : IterAt w0 bt bi a cap ps is) (hb : Below w0.heap.size w0 W) (hX : Clear X w0) (hXl : ∀ k, X k → k < W.heap.size) :
    SeqW Try.prog noT 60 #[ptr bt, ptr bi] (fun W0 => EltC W0.heap.size) (fun l => Rd5 w0.heap.size (orL X l)) (fun xs => xs = told is ps) (fun pre => pre <+: told is ps) ps.length W := fun l J Jx hl ho hJ hJx hY h0 => by
  obtain ⟨t, gi, cb, h1, h2, h3, h4, h5⟩ := h.it
  have hr : Rd5 w0.heap.size X w0 W := Rd5.of_below hb
  have hXo := hX.orL hr (Nat.le_refl _) ho
  refine (calls_in (those1_at w0 w0.heap.size bt bi gi cb t a cap ps is (orL X l) l J Jx W (below_heap hb h1) (below_heap hb h2) (h3.below hb) h.lst h.wide (hr.mono fun k hk => .inl hk) (Nat.le_refl _) hXo h4 (fun k hk => ?_) (fun hx => ?_) (fun p hp W' hk => h5 p hp W' (hk.kp5 (Nat.le_refl _) hXo)) hJ hJx (fun pre f v W0 W1 h0 h1 hb _ helt hlen => hY pre f v W0 W1 h0 h1 hb helt hlen) h0)).mono ?_
  · rcases hk with hk | rfl
    · exact hXl k hk
    · exact hl
  · have := hXo bi _ _ hx h2
    revert this; decide
  · rintro e W' ⟨hv, h1 | ⟨pre, h1, h2⟩⟩
    · exact ⟨hv, .inl ⟨_, rfl, h1⟩⟩
    · exact ⟨hv, .inr ⟨pre, h1, h2⟩⟩

/-! All -/
theorem all1_at (p : Pn) (W : World) : Calls Try.prog 47 #[ptr p.q] W fun e w' => e = .returned (.bool true) ∧ W = w' := by
  go_enter Try.func47, Try.ntmps47
  go_wp2_with fail
  go_ret
  exact ⟨rfl, rfl⟩
theorem boxes_two (W : World) (o1 o2 : Obj) : ((W.alloc o1).alloc o2).heap[W.heap.size]? = some o1 ∧ ((W.alloc o1).alloc o2).heap[W.heap.size + 1]? = some o2 ∧ Below W.heap.size W ((W.alloc o1).alloc o2) :=
  ⟨(heap_alloc2 W o1 o2).1, (heap_alloc2 W o1 o2).2, (below_alloc _ _).alloc (by simp) _⟩
theorem all_at {t : Value} {a : Option Addr} {cap : Nat} {ps : List Pn} (W : World) (hV : TabV W t a cap ps) (hL : LstAt W a cap ps) (hw : ∀ p ∈ ps, p.x.ks.length ≤ 48) :
    Calls Try.prog 28 #[t] W fun e w' => (∃ bt bi, e = .returned (.func (.func 60) #[] #[ptr bt, ptr bi]) ∧ IterAt w' bt bi a cap ps (fun _ => true)) ∧ Below W.heap.size W w' := by
  obtain ⟨q, rfl⟩ := hV.ptr
  obtain ⟨h1, h2, hb⟩ := boxes_two W (.cells #[.pointer q] 23) (.cells #[.func (.func 47) #[] #[]] 78)
  go_enter Try.func28, Try.ntmps28
  go_wp2_with fail
  refine (those_at q _ W ⟨_, _, rfl⟩).mono ?_
  rintro e w' ⟨rfl, rfl⟩
  go_wp2_with fail
  go_ret
  exact ⟨⟨_, _, rfl, ⟨_, _, _, h1, h2, hV.below hb, enters_of Try.func47 (by kernel_rfl) rfl, fun p _ W' _ => (all1_at p W').mono fun e w' ⟨h1, h2⟩ => ⟨h1, by rw [← h2]; exact Below.refl _ _⟩⟩, hL.below hb, hw⟩, hb⟩

/-! Of -/
theorem stands_at (x y : List UInt8) (W : World) : Calls Try.prog 43 #[str x, str y] W fun e w' => e = .returned (.bool (Tb.any x y)) ∧ W = w' := by
  have hx : Tb.any x y = (decide (x = []) || decide (x = y)) := by unfold Tb.any; cases x <;> simp
  rw [hx]
  by_cases h1 : x = []
  · subst h1
    go_enter Try.func43, Try.ntmps43
    go_wp2_with fail
    go_ret
    exact ⟨ret_bool (by simp), rfl⟩
  · by_cases h2 : x = y
    · subst h2
      go_enter Try.func43, Try.ntmps43
      go_wp2_with fail
      go_ret
      exact ⟨ret_bool (by simp), rfl⟩
    · go_enter Try.func43, Try.ntmps43
      go_wp2_with fail
      go_ret
      exact ⟨ret_bool (by simp [h1, h2]), rfl⟩
end Go.Proofs.Ytomiefhfkdfgbaa
