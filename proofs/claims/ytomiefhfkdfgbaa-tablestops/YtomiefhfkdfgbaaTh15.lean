/-
  those: an iterator over the facts of which a function says so.
-/
import Derived.Test.YtomiefhfkdfgbaaIt15
import Derived.Test.YtomiefhfkdfgbaaTc15
import Derived.Test.YtomiefhfkdfgbaaRh15
namespace Go.Proofs.Ytomiefhfkdfgbaa
open Go.RowKit Go.Shelf Go.Sort
attribute [local go_sem] Oper.semAt_some

theorem kept_at (t : Value) (W : World) (ht : t.oneCell' = true) (hp : ∃ q, t = .pointer q) : Calls Try.prog 61 #[t] W fun e w' => e = .returned (.func (.func 66) #[] #[ptr W.heap.size]) ∧ w' = W.alloc (.cells #[t] 23) := by
  obtain ⟨q, rfl⟩ := hp
  clear ht
  go_enter Try.func61, Try.ntmps61
  go_wp2_with fail
  go_ret
  exact ⟨rfl, rfl⟩
theorem TabV.ptr {W : World} {t : Value} {a : Option Addr} {cap : Nat} {ps : List Pn} (h : TabV W t a cap ps) : ∃ q, t = .pointer q := by
  rcases h with ⟨b, _, h1, _⟩ | ⟨_, h1 | ⟨b, _, h1, _⟩⟩
  · exact ⟨_, h1⟩
  · exact ⟨_, h1⟩
  · exact ⟨_, h1⟩
/-- X and the loop's record -/
def orL (X : Nat → Prop) (l : Nat) : Nat → Prop := fun k => X k ∨ k = l
theorem Clear.orL {X : Nat → Prop} {n0 l : Nat} {w0 W : World} (h : Clear X w0) (hr : Rd5 n0 X w0 W) (hn : w0.heap.size ≤ n0) (hl : ∃ o : Obj, W.heap[l]? = some o ∧ o.isCells = false) : Clear (orL X l) w0 := fun k c t hk hc => by
  by_cases hx : X k
  · exact h k c t hx hc
  · rcases hk with hk | rfl
    · exact absurd hk hx
    · obtain ⟨o, h1, h2⟩ := hl
      have := hr.same k _ hc hx (.inl (by have := heap_lt hc; omega))
      rw [h1] at this; cases this; cases h2
/-- kept's iterator, as a contract -/
theorem kept_seq {w0 : World} {n0 tb : Nat} {t : Value} {a : Option Addr} {cap : Nat} {ps : List Pn} {X : Nat → Prop} {W : World}
    (hT : W.heap[tb]? = some (.cells #[t] 23)) (hV : TabV W t a cap ps) (hL : LstAt w0 a cap ps) (hr : Rd5 n0 X w0 W) (hn : w0.heap.size ≤ n0) (hX : Clear X w0) :
    SeqM Try.prog noT 66 #[ptr tb] (fun p v _ => v = ptr (Pn.q p) ∧ p ∈ ps) (fun l => Rd5 n0 (orL X l)) (fun xs => xs = ps) (fun pre => pre <+: ps) ps.length W := fun l J Jx hl ho hJ hJx hY h0 => by
  refine (calls_in (kept1_at w0 n0 tb t a cap ps (orL X l) l (fun pre A => J pre A ∧ Rd5 n0 (orL X l) w0 A) Jx W hT hV hL hn (hX.orL hr hn ho) (fun pre A h => h.2) (fun pre p v W1 h1 h2 h3 => YieldAt.mono (hY pre p v W1 h1.1 h2 h3) fun e W' q => ?_) ⟨h0, hr.mono fun k hk => .inl hk⟩)).mono ?_
  · rcases q with ⟨q1, q2, q3⟩ | ⟨q1, q2, _⟩
    · exact .inl ⟨q1, q2, h1.2.trans q3⟩
    · exact .inr ⟨q1, q2⟩
  · rintro e W' ⟨hv, ⟨h1, _⟩ | ⟨pre, h1, h2⟩⟩
    · exact ⟨hv, .inl ⟨ps, rfl, h1⟩⟩
    · exact ⟨hv, .inr ⟨pre, h1, h2⟩⟩

/-- what is known of a fact where a round begins: its Args are its own -/
def EltC (N : Nat) (f : F) (v : Value) (W : World) : Prop := ∃ z : Fv, v = z.val ∧ z.f = f ∧ RowT kK 50 W z.a z.cap z.ks ∧ (∀ ad, z.a = some ad → N ≤ ad.block) ∧ f.ks.length ≤ 48
def told (q : F → Bool) (ps : List Pn) : List F := (ps.map Pn.f).filter q
theorem told_snoc (q : F → Bool) (ps : List Pn) (p : Pn) : told q (ps ++ [p]) = told q ps ++ (if q p.f then [p.f] else []) := by
  unfold told
  rw [List.map_append, List.filter_append]
  simp [List.filter_cons]
theorem told_len (q : F → Bool) (ps : List Pn) : (told q ps).length ≤ ps.length := by
  unfold told
  exact Nat.le_trans (List.length_filter_le _ _) (by simp)
theorem told_prefix (q : F → Bool) {ps qs : List Pn} (h : ps <+: qs) : told q ps <+: told q qs := by
  obtain ⟨r, rfl⟩ := h
  unfold told
  rw [List.map_append, List.filter_append]
  exact List.prefix_append ..

theorem exec_load_cel {P : Program} {o : Oper} {a : Act} {w : World} (ty : TypeId) (x : Operand) (ho : o.op = .load ty x) (V off : Nat) (v : Value) (hx : a.eval x = .pointer (some ⟨V, off, none⟩)) (hag : ∀ w, (isAgg ty).run P w = .ok false w) (hc : w.cell? ⟨V, off, none⟩ = some v) : (execOp a.eval o).run P w = .ok (.value v) w := by
  simp [execOp, ho, hx, Instr.loadAt, Instr.sureAddr, loadVar, hag, hc, Result.andThen]
theorem exec_load_all {P : Program} {o : Oper} {a : Act} {w : World} (ty : TypeId) (x : Operand) (ho : o.op = .load ty x) (b : Nat) (V : List Value) (d : TypeDesc) {T : TypeId} (hx : a.eval x = .pointer (some ⟨b, 0, none⟩))
    (hu : P.underlying ty = some d) (hd : d.isRow = true) (hi : (P.info? ty).map (·.size) = some V.length) (hc : w.heap[b]? = some (.cells V.toArray T)) : (execOp a.eval o).run P w = .ok (.value (.agg V.toArray)) w := by
  have := run_loadVar_mid w b 0 ty V d (by have := World.rangeAt_of_block hc 0 V.length; simpa using this) hu hd hi
  simp [execOp, ho, hx, Instr.loadAt, Instr.sureAddr, this, Result.andThen]
/-- a function value is called -/
theorem exec_fn {P : Program} {o : Oper} {a : Act} {w : World} {gi : Nat} {cb : Array Value} {v : Value} (ts : Array TypeId) (hgi : ∀ args w, (callFunc gi args).run P w = .ok (.enter gi args) w) (g x : Operand) (ho : o.op = .call { callee := .value g, args := #[x], argTypes := ts }) (hg : a.eval g = .func (.func gi) #[] cb) (hx : a.eval x = v) : (execOp a.eval o).run P w = .ok (.enter gi (#[v] ++ cb)) w := by
  simp [execOp, ho, resolve, hg, hx, invoke, Deferred.ofValue, hgi]
/-- the loop's function is called -/
theorem exec_yield {P : Program} {o : Oper} {a : Act} {w : World} {l f : Nat} {tmps : Array Value} {assign body : Code} {v : Value} (ts : Array TypeId) (hy : (Instr.yield l #[v]).run P w = .ok (.round l f tmps assign body) w) (g x : Operand) (ho : o.op = .call { callee := .value g, args := #[x], argTypes := ts }) (hg : a.eval g = .func (.yield l) #[] #[]) (hx : a.eval x = v) : (execOp a.eval o).run P w = .ok (.round l f tmps assign body) w := by
  simp [execOp, ho, resolve, hg, hx, invoke, Deferred.ofValue, hy]

set_option maxRecDepth 100000 in
set_option maxHeartbeats 4000000 in
theorem those1_at (w0 : World) (n0 bt bi gi : Nat) (cb : Array Value) (t : Value) (a : Option Addr) (cap : Nat) (ps : List Pn) (is : F → Bool) (X : Nat → Prop) (l : Nat) (J Jx : List F → World → Prop) (W : World)
    (hT : W.heap[bt]? = some (.cells #[t] 23)) (hI : W.heap[bi]? = some (.cells #[.func (.func gi) #[] cb] 78)) (hV : TabV W t a cap ps) (hL : LstAt w0 a cap ps) (hw : ∀ p ∈ ps, p.x.ks.length ≤ 48) (hr : Rd5 n0 X w0 W) (hn : w0.heap.size ≤ n0) (hX : Clear X w0) (hgi : ∀ args w, (callFunc gi args).run Try.prog w = .ok (.enter gi args) w) (hXl : ∀ k, X k → k < W.heap.size) (nb : ¬ X bi)
    (his : ∀ p ∈ ps, ∀ W', Rd5 n0 X w0 W' → Calls Try.prog gi (#[ptr p.q] ++ cb) W' fun e w' => e = .returned (.bool (is p.f)) ∧ Below W'.heap.size W' w')
    (hJ : ∀ s A A', J s A → Itr noT W.heap.size A A' → J s A') (hJx : ∀ s A A', Jx s A → Itr noT W.heap.size A A' → Jx s A')
    (hY : ∀ pre f v W0 W1, J pre W0 → J pre W1 → Below W0.heap.size W0 W1 → W.heap.size ≤ W0.heap.size → EltC W0.heap.size f v W1 → pre.length < ps.length → YieldAt Fence.wide 0 Try.prog l #[v] W1 fun e W' => (e = .returned (.bool true) ∧ J (pre ++ [f]) W' ∧ Rd5 n0 X W1 W') ∨ (e = .returned (.bool false) ∧ Jx (pre ++ [f]) W' ∧ KeepsFrom W.heap.size W1 W'))
    (h0 : J [] W) :
    Calls Try.prog 60 #[.func (.yield l) #[] #[], ptr bt, ptr bi] W fun e W' => (∃ v, e = .returned v) ∧ (J (told is ps) W' ∨ ∃ pre, pre <+: told is ps ∧ Jx pre W') := by
  have iF : (Try.prog.info? 34).map (·.size) = some 4 := by kernel_rfl
  have HNB : Hid (¬ X W.heap.size ∧ ¬ X bi) := ⟨fun h => by have := hXl _ h; omega, nb⟩
  have A1 := below_alloc W (.cells #[.func (.yield l) #[] #[]] 55)
  have Y1 := heap_alloc_new W (.cells #[.func (.yield l) #[] #[]] 55)
  have T1 := below_heap A1 hT
  have I1 := below_heap A1 hI
  have V1 := hV.below A1
  have R1 := hr.trans (Rd5.of_below A1)
  have J1 := hJ [] W _ h0 (Itr.below A1 (Nat.le_refl _))
  have cT := heap_cell T1 0
  simp at cT
  have HY := hideP hY
  have HJ := hideP hJ
  have HJX := hideP hJx
  have HIS := hideP his
  have HX := hideP hXl
  have HW := hideP hw
  clear hY hJ hJx his hXl hw hV h0 hr
  obtain ⟨tq, rfl⟩ := V1.ptr
  refine calls_marks Try.func60 rfl ?_
  simp only [Try.ntmps60, List.size_toArray, List.length_cons, List.length_nil, Nat.reduceAdd, Nat.reduceSub, Array.replicate_succ, Array.replicate_zero, List.push_toArray, List.append_toArray, List.nil_append, List.cons_append]
  go_wp2_with fail
  generalize hW1 : W.alloc (.cells #[.func (.yield l) #[] #[]] 55) = W1 at *
  clear hW1
  refine (kept_at _ W1 rfl ⟨tq, rfl⟩).mono ?_
  rintro e w2 ⟨rfl, rfl⟩
  have A2 := below_alloc W1 (.cells #[.pointer tq] 23)
  have T2 := heap_alloc_new W1 (.cells #[.pointer tq] 23)
  have Y2 := below_heap A2 Y1
  have I2 := below_heap A2 I1
  have V2 := V1.below A2
  have R2 := R1.trans (Rd5.of_below A2)
  have J2 := HJ.out _ _ _ J1 (Itr.below A2 A1.size)
  have hsz : W.heap.size ≤ (W1.alloc (.cells #[.pointer tq] 23)).heap.size := Nat.le_trans A1.size A2.size
  clear A2 Y1 I1 V1 R1 J1 T1 cT hT hI
  generalize hW2 : W1.alloc (.cells #[.pointer tq] 23) = W2 at *
  clear hW2
  generalize htb : W1.heap.size = tb at *
  go_wp2_with fail
  have hB2 : W.heap.size < W2.heap.size := heap_lt Y2
  have hbi : bi < W2.heap.size := heap_lt I2
  have hw2 : w0.heap.size ≤ W2.heap.size := R2.size
  generalize hB : W.heap.size = B at *
  clear hB
  refine wp_range (pt := noT) (gf := 66) (lb := #[ptr tb]) rfl (enters_of Try.func66 (by kernel_rfl) rfl)
    (Elt := fun p v _ => v = ptr (Pn.q p) ∧ p ∈ ps) (Kp := fun l2 => Rd5 n0 (orL X l2)) (S := fun xs => xs = ps) (Sp := fun pre => pre <+: ps) (N := ps.length)
    ?seq (fun h k => h.trans k) (fun l2 W5 o o' h1 _ _ => Rd5.but (but_putObj W5 l2 o') (.inr rfl)) rfl
    (fun pre W5 => W5.heap[B]? = some (.cells #[.func (.yield l) #[] #[]] 55) ∧ W5.heap[bi]? = some (.cells #[.func (.func gi) #[] cb] 78) ∧ Rd5 n0 X w0 W5 ∧ J (told is pre) W5)
    (fun c pre W5 => c = .ret ∧ Jx (told is pre) W5)
    (fun s A A' h hit => ⟨(hit.low _ hB2).trans h.1, (hit.low _ hbi).trans h.2.1, h.2.2.1.itr hit hw2, HJ.out _ _ _ h.2.2.2 (hit.mono (Nat.le_of_lt hB2))⟩)
    (fun c s A A' h hit => ⟨h.1, HJX.out _ _ _ h.2 (hit.mono (Nat.le_of_lt hB2))⟩)
    ⟨Y2, I2, R2, J2⟩
    (fun p a' _ => p ∈ ps ∧ a' = { tmps := #[.func (.yield l) #[] #[], ptr bt, ptr bi, ptr B, ptr p.q, .pointer tq, .func (.func 66) #[] #[ptr tb], ptr p.q, undef, undef, undef, undef, undef, undef, undef, undef, undef, undef, undef, undef], defers := [] })
    (fun p a' A A' h hit => h)
    ?assign ?body ?done ?stop
  case seq =>
    intro W3 hb3 hs3
    have hsq := kept_seq (X := X) (n0 := n0) (below_heap hb3 T2) (V2.below hb3) hL (R2.trans (Rd5.of_below hb3)) hn hX
    exact hsq
  case assign =>
    rintro l2 pre p v W5 K hl5 hlt5 HI5 ⟨rfl, hp⟩ hK
    gi_wp2
    exact hK _ _ (KeepsFrom.refl _ _) (Rd5.refl _ _ _) HI5 ⟨hp, rfl⟩
  case body =>
    rintro l2 pre p _ W5 hl5 hlt5 ⟨Y5, I5, R5, J5⟩ ⟨hp, rfl⟩ hN
    refine wpIn_block ?_
    apply wpIn_seq_k
    intro K5 hK5
    refine Rh.region (S := fun _ => True) (by kernel_rfl) ?_
    have D5 : Below W5.heap.size W5 W5.drew := (Below.refl _ _).drew
    have Y6 := below_heap D5 Y5
    have I6 := below_heap D5 I5
    have R6 := R5.trans (Rd5.of_below D5)
    have J6 := HJ.out _ _ _ J5 (Itr.below D5 (Nat.le_of_lt (heap_lt Y5)))
    have K6 : ∀ Y, Rd5 n0 Y W5 W5.drew := fun Y => Rd5.of_below D5
    have F6 : KeepsFrom W2.heap.size W5 W5.drew := (K6 (fun _ => False)).keeps (fun _ h => h.elim)
    clear D5 Y5 I5 R5 J5
    generalize W5.drew = W6 at *
    have TIS := (HIS.out p hp W6 R6).mono (R' := fun e w' => ∃ v, e = .returned v ∧ v = .bool (is p.f) ∧ Below W6.heap.size W6 w') (fun e w' h => ⟨_, h.1, rfl, h.2⟩)
    refine Rh.take (i := 1) (v := ptr p.q) (by kernel_rfl) rfl (by kernel_rfl) (by kernel_rfl) (by kernel_rfl) (fun _ _ _ h => h) (Or.inl ⟨by kernel_rfl, fun w hSw => by kernel_rfl⟩) trivial ?_
    refine Rh.one 0 (by kernel_rfl) ?_
    refine Rh.val (by kernel_rfl) (.func (.func gi) #[] cb) rfl (by kernel_rfl) (exec_load_cel 78 (.tmp 2) (by kernel_rfl) bi 0 _ (by kernel_rfl) Try.isAgg78 (by rw [heap_cell I6]; rfl)) ?_
    refine ⟨trivial, ?_⟩
    refine Rh.one 2 (by kernel_rfl) ?_
    refine Rh.call (by kernel_rfl) (f := gi) (args := #[ptr p.q] ++ cb) rfl (by kernel_rfl) (exec_fn #[72] hgi (.tmp 8) (.tmp 9) (by kernel_rfl) (by kernel_rfl) (by kernel_rfl)) TIS ?_
    rintro _ W7 ⟨rfl, B7⟩
    refine ⟨trivial, ?_⟩
    have Y7 := below_heap B7 Y6
    have I7 := below_heap B7 I6
    have R7 := R6.trans (Rd5.of_below B7)
    have J7 := HJ.out _ _ _ J6 (Itr.below B7 (Nat.le_of_lt (heap_lt Y6)))
    have K7 : ∀ Y, Rd5 n0 Y W5 W7 := fun Y => (K6 Y).trans (Rd5.of_below B7)
    have F7 : KeepsFrom W2.heap.size W5 W7 := (K7 (fun _ => False)).keeps (fun _ h => h.elim)
    have HTS := hideP (told_snoc is pre p)
    have LP := (hL.safe (R7.s3 hn hX)).each p hp
    clear Y6 I6 R6 J6 K6 F6 TIS B7
    cases his : is p.f
    · have TS : Hid (told is (pre ++ [p]) = told is pre) := by
        show _ = _
        rw [HTS.out, his]; simp
      refine Rh.take (i := 3) (v := .bool false) (by kernel_rfl) rfl (by kernel_rfl) (by kernel_rfl) (by kernel_rfl) (fun _ _ _ h => h) (Or.inl ⟨by kernel_rfl, fun w hSw => by kernel_rfl⟩) trivial ?_
      refine Rh.take (i := 4) (v := undef) (by kernel_rfl) rfl (by kernel_rfl) (by kernel_rfl) (by kernel_rfl) (fun _ _ _ h => h) (Or.inr ⟨by kernel_rfl, rfl⟩) trivial ?_
      refine Rh.take (i := 5) (v := undef) (by kernel_rfl) rfl (by kernel_rfl) (by kernel_rfl) (by kernel_rfl) (fun _ _ _ h => h) (Or.inr ⟨by kernel_rfl, rfl⟩) trivial ?_
      refine Rh.take (i := 6) (v := undef) (by kernel_rfl) rfl (by kernel_rfl) (by kernel_rfl) (by kernel_rfl) (fun _ _ _ h => h) (Or.inr ⟨by kernel_rfl, rfl⟩) trivial ?_
      refine Rh.take (i := 7) (v := undef) (by kernel_rfl) rfl (by kernel_rfl) (by kernel_rfl) (by kernel_rfl) (fun _ _ _ h => h) (Or.inr ⟨by kernel_rfl, rfl⟩) trivial ?_
      refine Rh.take (i := 8) (v := undef) (by kernel_rfl) rfl (by kernel_rfl) (by kernel_rfl) (by kernel_rfl) (fun _ _ _ h => h) (Or.inr ⟨by kernel_rfl, rfl⟩) trivial ?_
      refine Rh.take (i := 9) (v := undef) (by kernel_rfl) rfl (by kernel_rfl) (by kernel_rfl) (by kernel_rfl) (fun _ _ _ h => h) (Or.inr ⟨by kernel_rfl, rfl⟩) trivial ?_
      refine Rh.take (i := 10) (v := undef) (by kernel_rfl) rfl (by kernel_rfl) (by kernel_rfl) (by kernel_rfl) (fun _ _ _ h => h) (Or.inr ⟨by kernel_rfl, rfl⟩) trivial ?_
      refine Rh.take (i := 11) (v := .bool false) (by kernel_rfl) rfl (by kernel_rfl) (by kernel_rfl) (by kernel_rfl) (fun _ _ _ h => h) (Or.inl ⟨by kernel_rfl, fun w hSw => by kernel_rfl⟩) trivial ?_
      refine Rh.done (by kernel_rfl) ?_ _
      simp only [Act.put, List.getElem_toArray, List.getElem_cons_succ, List.getElem_cons_zero, List.setIfInBounds_toArray, List.set_cons_zero, List.set_cons_succ]
      apply hK5
      gi_wp2
      exact ⟨F7, K7 _, Y7, I7, R7, by rw [TS.out]; exact J7⟩
    · have TS : Hid (told is (pre ++ [p]) = told is pre ++ [p.f]) := by
        show _ = _
        rw [HTS.out, his]; simp
      refine Rh.take (i := 3) (v := .bool true) (by kernel_rfl) rfl (by kernel_rfl) (by kernel_rfl) (by kernel_rfl) (fun _ _ _ h => h) (Or.inl ⟨by kernel_rfl, fun w hSw => by kernel_rfl⟩) trivial ?_
      refine Rh.take (i := 5) (v := ptr p.q) (by kernel_rfl) rfl (by kernel_rfl) (by kernel_rfl) (by kernel_rfl) (fun _ _ _ h => h) (Or.inl ⟨by kernel_rfl, fun w hSw => by kernel_rfl⟩) trivial ?_
      refine Rh.take (i := 6) (v := ptr p.q) (by kernel_rfl) rfl (by kernel_rfl) (by kernel_rfl) (by kernel_rfl) (fun _ _ _ h => h) (Or.inl ⟨by kernel_rfl, fun w hSw => by kernel_rfl⟩) trivial ?_
      have TCL := (tcopy_at p.x W7 LP.at_ (by have := HW.out p hp; omega)).mono (R' := fun e w' => ∃ v, e = .returned v ∧ ∃ z : Fv, v = z.val ∧ z.f = p.f ∧ RowT kK 50 w' z.a z.cap z.ks ∧ (∀ ad, z.a = some ad → W7.heap.size ≤ ad.block) ∧ Below W7.heap.size W7 w') (fun e w' ⟨a, c, h1, h2, h3, h4⟩ => ⟨_, h1, _, rfl, rfl, h2, h3, h4⟩)
      simp only [Act.put, List.getElem_toArray, List.getElem_cons_succ, List.getElem_cons_zero, List.setIfInBounds_toArray, List.set_cons_zero, List.set_cons_succ]
      refine Rh.two 4 7 (by kernel_rfl) ?_ ?_
      · refine Rh.val (by kernel_rfl) (.func (.yield l) #[] #[]) rfl (by kernel_rfl) (exec_load_cel 55 (.tmp 3) (by kernel_rfl) B 0 _ (by kernel_rfl) Try.isAgg55 (by rw [heap_cell Y7]; rfl)) ?_
        refine ⟨trivial, ?_⟩
        simp only [Act.put, List.getElem_toArray, List.getElem_cons_succ, List.getElem_cons_zero, List.setIfInBounds_toArray, List.set_cons_zero, List.set_cons_succ]
        refine Rh.one 7 (by kernel_rfl) ?_
        refine Rh.val (by kernel_rfl) (.agg (fv p.x).toArray) rfl (by kernel_rfl) (exec_load_all 34 (.tmp 14) (by kernel_rfl) p.q (fv p.x) _ (by kernel_rfl) Try.underlying34 rfl iF LP.cell) ?_
        refine ⟨trivial, ?_⟩
        simp only [Act.put, List.getElem_toArray, List.getElem_cons_succ, List.getElem_cons_zero, List.setIfInBounds_toArray, List.set_cons_zero, List.set_cons_succ]
        refine Rh.one 8 (by kernel_rfl) ?_
        refine Rh.call (by kernel_rfl) (f := 35) (args := #[p.x.val]) rfl (by kernel_rfl) (by kernel_rfl) TCL ?_
        rintro _ W8 ⟨z, rfl, ez, Bz, Oz, B8⟩
        refine ⟨trivial, ?_⟩
        have Y8 := below_heap B8 Y7
        have I8 := below_heap B8 I7
        have R8 := R7.trans (Rd5.of_below B8)
        have J8 := HJ.out _ _ _ J7 (Itr.below B8 (Nat.le_of_lt (heap_lt Y7)))
        have K8 : ∀ Y, Rd5 n0 Y W5 W8 := fun Y => (K7 Y).trans (Rd5.of_below B8)
        have F8 : KeepsFrom W2.heap.size W5 W8 := (K8 (fun _ => False)).keeps (fun _ h => h.elim)
        obtain ⟨fn, tmps, assign, body, hy, hR⟩ := HY.out (told is pre) p.f z.val W7 W8 J7 J8 B8 (Nat.le_of_lt (heap_lt Y7)) ⟨z, rfl, ez, Bz, Oz, HW.out p hp⟩ (Nat.lt_of_le_of_lt (told_len is pre) hN)
        simp only [Act.put, List.getElem_toArray, List.getElem_cons_succ, List.getElem_cons_zero, List.setIfInBounds_toArray, List.set_cons_zero, List.set_cons_succ]
        refine Rh.one 9 (by kernel_rfl) ?_
        refine Rh.round (R := fun v W' => (v = .bool true ∧ J (told is pre ++ [p.f]) W' ∧ Rd5 n0 X W8 W') ∨ (v = .bool false ∧ Jx (told is pre ++ [p.f]) W' ∧ KeepsFrom B W8 W')) (by kernel_rfl) (l0 := l) (f := fn) (tmps := tmps) (assign := assign) (body := body) rfl (by kernel_rfl) (exec_yield #[34] hy (.tmp 12) (.tmp 16) (by kernel_rfl) (by kernel_rfl) (by kernel_rfl)) (hR.mono fun e W' q => (by
          rcases q with ⟨q1, q2⟩ | ⟨q1, q2⟩
          · exact ⟨_, q1, .inl ⟨rfl, q2⟩⟩
          · exact ⟨_, q1, .inr ⟨rfl, q2⟩⟩)) ?_
        rintro _ W9 (⟨rfl, J9, K9⟩ | ⟨rfl, J9, K9⟩)
        · refine ⟨trivial, ?_⟩
          refine Rh.take (i := 10) (v := .bool false) (by kernel_rfl) rfl (by kernel_rfl) (by kernel_rfl) (by kernel_rfl) (fun _ _ _ h => h) (Or.inl ⟨by kernel_rfl, fun w hSw => by kernel_rfl⟩) trivial ?_
          refine Rh.take (i := 11) (v := .bool false) (by kernel_rfl) rfl (by kernel_rfl) (by kernel_rfl) (by kernel_rfl) (fun _ _ _ h => h) (Or.inl ⟨by kernel_rfl, fun w hSw => by kernel_rfl⟩) trivial ?_
          refine Rh.done (by kernel_rfl) ?_ _
          simp only [Act.put, List.getElem_toArray, List.getElem_cons_succ, List.getElem_cons_zero, List.setIfInBounds_toArray, List.set_cons_zero, List.set_cons_succ]
          apply hK5
          gi_wp2
          exact ⟨F8.trans (K9.keeps fun k hk => by have := HX.out k hk; omega), (K8 _).trans (K9.mono fun k hk => .inl hk), K9.other Y8 (HNB.out.1) rfl, K9.other I8 HNB.out.2 rfl, R8.trans K9, by rw [TS.out]; exact J9⟩
        · refine ⟨trivial, ?_⟩
          refine Rh.take (i := 10) (v := .bool true) (by kernel_rfl) rfl (by kernel_rfl) (by kernel_rfl) (by kernel_rfl) (fun _ _ _ h => h) (Or.inl ⟨by kernel_rfl, fun w hSw => by kernel_rfl⟩) trivial ?_
          refine Rh.take (i := 11) (v := .bool true) (by kernel_rfl) rfl (by kernel_rfl) (by kernel_rfl) (by kernel_rfl) (fun _ _ _ h => h) (Or.inl ⟨by kernel_rfl, fun w hSw => by kernel_rfl⟩) trivial ?_
          refine Rh.done (by kernel_rfl) ?_ _
          simp only [Act.put, List.getElem_toArray, List.getElem_cons_succ, List.getElem_cons_zero, List.setIfInBounds_toArray, List.set_cons_zero, List.set_cons_succ]
          apply hK5
          gi_wp2
          exact ⟨F8.trans (keeps_up K9 (Nat.le_of_lt hB2)), rfl, by rw [TS.out]; exact J9⟩
      · refine Rh.val (by kernel_rfl) (.agg (fv p.x).toArray) rfl (by kernel_rfl) (exec_load_all 34 (.tmp 14) (by kernel_rfl) p.q (fv p.x) _ (by kernel_rfl) Try.underlying34 rfl iF LP.cell) ?_
        refine ⟨trivial, ?_⟩
        simp only [Act.put, List.getElem_toArray, List.getElem_cons_succ, List.getElem_cons_zero, List.setIfInBounds_toArray, List.set_cons_zero, List.set_cons_succ]
        refine Rh.two 4 8 (by kernel_rfl) ?_ ?_
        · refine Rh.val (by kernel_rfl) (.func (.yield l) #[] #[]) rfl (by kernel_rfl) (exec_load_cel 55 (.tmp 3) (by kernel_rfl) B 0 _ (by kernel_rfl) Try.isAgg55 (by rw [heap_cell Y7]; rfl)) ?_
          refine ⟨trivial, ?_⟩
          simp only [Act.put, List.getElem_toArray, List.getElem_cons_succ, List.getElem_cons_zero, List.setIfInBounds_toArray, List.set_cons_zero, List.set_cons_succ]
          refine Rh.one 8 (by kernel_rfl) ?_
          refine Rh.call (by kernel_rfl) (f := 35) (args := #[p.x.val]) rfl (by kernel_rfl) (by kernel_rfl) TCL ?_
          rintro _ W8 ⟨z, rfl, ez, Bz, Oz, B8⟩
          refine ⟨trivial, ?_⟩
          have Y8 := below_heap B8 Y7
          have I8 := below_heap B8 I7
          have R8 := R7.trans (Rd5.of_below B8)
          have J8 := HJ.out _ _ _ J7 (Itr.below B8 (Nat.le_of_lt (heap_lt Y7)))
          have K8 : ∀ Y, Rd5 n0 Y W5 W8 := fun Y => (K7 Y).trans (Rd5.of_below B8)
          have F8 : KeepsFrom W2.heap.size W5 W8 := (K8 (fun _ => False)).keeps (fun _ h => h.elim)
          obtain ⟨fn, tmps, assign, body, hy, hR⟩ := HY.out (told is pre) p.f z.val W7 W8 J7 J8 B8 (Nat.le_of_lt (heap_lt Y7)) ⟨z, rfl, ez, Bz, Oz, HW.out p hp⟩ (Nat.lt_of_le_of_lt (told_len is pre) hN)
          simp only [Act.put, List.getElem_toArray, List.getElem_cons_succ, List.getElem_cons_zero, List.setIfInBounds_toArray, List.set_cons_zero, List.set_cons_succ]
          refine Rh.one 9 (by kernel_rfl) ?_
          refine Rh.round (R := fun v W' => (v = .bool true ∧ J (told is pre ++ [p.f]) W' ∧ Rd5 n0 X W8 W') ∨ (v = .bool false ∧ Jx (told is pre ++ [p.f]) W' ∧ KeepsFrom B W8 W')) (by kernel_rfl) (l0 := l) (f := fn) (tmps := tmps) (assign := assign) (body := body) rfl (by kernel_rfl) (exec_yield #[34] hy (.tmp 12) (.tmp 16) (by kernel_rfl) (by kernel_rfl) (by kernel_rfl)) (hR.mono fun e W' q => (by
            rcases q with ⟨q1, q2⟩ | ⟨q1, q2⟩
            · exact ⟨_, q1, .inl ⟨rfl, q2⟩⟩
            · exact ⟨_, q1, .inr ⟨rfl, q2⟩⟩)) ?_
          rintro _ W9 (⟨rfl, J9, K9⟩ | ⟨rfl, J9, K9⟩)
          · refine ⟨trivial, ?_⟩
            refine Rh.take (i := 10) (v := .bool false) (by kernel_rfl) rfl (by kernel_rfl) (by kernel_rfl) (by kernel_rfl) (fun _ _ _ h => h) (Or.inl ⟨by kernel_rfl, fun w hSw => by kernel_rfl⟩) trivial ?_
            refine Rh.take (i := 11) (v := .bool false) (by kernel_rfl) rfl (by kernel_rfl) (by kernel_rfl) (by kernel_rfl) (fun _ _ _ h => h) (Or.inl ⟨by kernel_rfl, fun w hSw => by kernel_rfl⟩) trivial ?_
            refine Rh.done (by kernel_rfl) ?_ _
            simp only [Act.put, List.getElem_toArray, List.getElem_cons_succ, List.getElem_cons_zero, List.setIfInBounds_toArray, List.set_cons_zero, List.set_cons_succ]
            apply hK5
            gi_wp2
            exact ⟨F8.trans (K9.keeps fun k hk => by have := HX.out k hk; omega), (K8 _).trans (K9.mono fun k hk => .inl hk), K9.other Y8 (HNB.out.1) rfl, K9.other I8 HNB.out.2 rfl, R8.trans K9, by rw [TS.out]; exact J9⟩
          · refine ⟨trivial, ?_⟩
            refine Rh.take (i := 10) (v := .bool true) (by kernel_rfl) rfl (by kernel_rfl) (by kernel_rfl) (by kernel_rfl) (fun _ _ _ h => h) (Or.inl ⟨by kernel_rfl, fun w hSw => by kernel_rfl⟩) trivial ?_
            refine Rh.take (i := 11) (v := .bool true) (by kernel_rfl) rfl (by kernel_rfl) (by kernel_rfl) (by kernel_rfl) (fun _ _ _ h => h) (Or.inl ⟨by kernel_rfl, fun w hSw => by kernel_rfl⟩) trivial ?_
            refine Rh.done (by kernel_rfl) ?_ _
            simp only [Act.put, List.getElem_toArray, List.getElem_cons_succ, List.getElem_cons_zero, List.setIfInBounds_toArray, List.set_cons_zero, List.set_cons_succ]
            apply hK5
            gi_wp2
            exact ⟨F8.trans (keeps_up K9 (Nat.le_of_lt hB2)), rfl, by rw [TS.out]; exact J9⟩
        · refine Rh.call (by kernel_rfl) (f := 35) (args := #[p.x.val]) rfl (by kernel_rfl) (by kernel_rfl) TCL ?_
          rintro _ W8 ⟨z, rfl, ez, Bz, Oz, B8⟩
          refine ⟨trivial, ?_⟩
          have Y8 := below_heap B8 Y7
          have I8 := below_heap B8 I7
          have R8 := R7.trans (Rd5.of_below B8)
          have J8 := HJ.out _ _ _ J7 (Itr.below B8 (Nat.le_of_lt (heap_lt Y7)))
          have K8 : ∀ Y, Rd5 n0 Y W5 W8 := fun Y => (K7 Y).trans (Rd5.of_below B8)
          have F8 : KeepsFrom W2.heap.size W5 W8 := (K8 (fun _ => False)).keeps (fun _ h => h.elim)
          simp only [Act.put, List.getElem_toArray, List.getElem_cons_succ, List.getElem_cons_zero, List.setIfInBounds_toArray, List.set_cons_zero, List.set_cons_succ]
          refine Rh.one 4 (by kernel_rfl) ?_
          refine Rh.val (by kernel_rfl) (.func (.yield l) #[] #[]) rfl (by kernel_rfl) (exec_load_cel 55 (.tmp 3) (by kernel_rfl) B 0 _ (by kernel_rfl) Try.isAgg55 (by rw [heap_cell Y8]; rfl)) ?_
          refine ⟨trivial, ?_⟩
          obtain ⟨fn, tmps, assign, body, hy, hR⟩ := HY.out (told is pre) p.f z.val W7 W8 J7 J8 B8 (Nat.le_of_lt (heap_lt Y7)) ⟨z, rfl, ez, Bz, Oz, HW.out p hp⟩ (Nat.lt_of_le_of_lt (told_len is pre) hN)
          simp only [Act.put, List.getElem_toArray, List.getElem_cons_succ, List.getElem_cons_zero, List.setIfInBounds_toArray, List.set_cons_zero, List.set_cons_succ]
          refine Rh.one 9 (by kernel_rfl) ?_
          refine Rh.round (R := fun v W' => (v = .bool true ∧ J (told is pre ++ [p.f]) W' ∧ Rd5 n0 X W8 W') ∨ (v = .bool false ∧ Jx (told is pre ++ [p.f]) W' ∧ KeepsFrom B W8 W')) (by kernel_rfl) (l0 := l) (f := fn) (tmps := tmps) (assign := assign) (body := body) rfl (by kernel_rfl) (exec_yield #[34] hy (.tmp 12) (.tmp 16) (by kernel_rfl) (by kernel_rfl) (by kernel_rfl)) (hR.mono fun e W' q => (by
            rcases q with ⟨q1, q2⟩ | ⟨q1, q2⟩
            · exact ⟨_, q1, .inl ⟨rfl, q2⟩⟩
            · exact ⟨_, q1, .inr ⟨rfl, q2⟩⟩)) ?_
          rintro _ W9 (⟨rfl, J9, K9⟩ | ⟨rfl, J9, K9⟩)
          · refine ⟨trivial, ?_⟩
            refine Rh.take (i := 10) (v := .bool false) (by kernel_rfl) rfl (by kernel_rfl) (by kernel_rfl) (by kernel_rfl) (fun _ _ _ h => h) (Or.inl ⟨by kernel_rfl, fun w hSw => by kernel_rfl⟩) trivial ?_
            refine Rh.take (i := 11) (v := .bool false) (by kernel_rfl) rfl (by kernel_rfl) (by kernel_rfl) (by kernel_rfl) (fun _ _ _ h => h) (Or.inl ⟨by kernel_rfl, fun w hSw => by kernel_rfl⟩) trivial ?_
            refine Rh.done (by kernel_rfl) ?_ _
            simp only [Act.put, List.getElem_toArray, List.getElem_cons_succ, List.getElem_cons_zero, List.setIfInBounds_toArray, List.set_cons_zero, List.set_cons_succ]
            apply hK5
            gi_wp2
            exact ⟨F8.trans (K9.keeps fun k hk => by have := HX.out k hk; omega), (K8 _).trans (K9.mono fun k hk => .inl hk), K9.other Y8 (HNB.out.1) rfl, K9.other I8 HNB.out.2 rfl, R8.trans K9, by rw [TS.out]; exact J9⟩
          · refine ⟨trivial, ?_⟩
            refine Rh.take (i := 10) (v := .bool true) (by kernel_rfl) rfl (by kernel_rfl) (by kernel_rfl) (by kernel_rfl) (fun _ _ _ h => h) (Or.inl ⟨by kernel_rfl, fun w hSw => by kernel_rfl⟩) trivial ?_
            refine Rh.take (i := 11) (v := .bool true) (by kernel_rfl) rfl (by kernel_rfl) (by kernel_rfl) (by kernel_rfl) (fun _ _ _ h => h) (Or.inl ⟨by kernel_rfl, fun w hSw => by kernel_rfl⟩) trivial ?_
            refine Rh.done (by kernel_rfl) ?_ _
            simp only [Act.put, List.getElem_toArray, List.getElem_cons_succ, List.getElem_cons_zero, List.setIfInBounds_toArray, List.set_cons_zero, List.set_cons_succ]
            apply hK5
            gi_wp2
            exact ⟨F8.trans (keeps_up K9 (Nat.le_of_lt hB2)), rfl, by rw [TS.out]; exact J9⟩
  case done =>
    rintro D xs W7 hD7 rfl ⟨_, _, _, J7⟩ hK7
    go_wp2_with fail
    refine ⟨by simp, .inl ⟨_, _, rfl, run_takeDeferred hK7, ?_⟩⟩
    exact ⟨_, results_none rfl _ _ _, ⟨_, rfl⟩, .inl (HJ.out _ _ _ J7 (Itr.putObj _ hK7 rfl (by omega)))⟩
  case stop =>
    rintro D c pre W7 hD7 hpre ⟨rfl, hq⟩ hK7
    refine wpIn_ret ?_
    refine ⟨by simp, .inl ⟨_, _, rfl, run_takeDeferred hK7, ?_⟩⟩
    exact ⟨_, results_none rfl _ _ _, ⟨_, rfl⟩, .inr ⟨_, told_prefix is hpre, HJX.out _ _ _ hq (Itr.putObj _ hK7 rfl (by omega))⟩⟩
end Go.Proofs.Ytomiefhfkdfgbaa
