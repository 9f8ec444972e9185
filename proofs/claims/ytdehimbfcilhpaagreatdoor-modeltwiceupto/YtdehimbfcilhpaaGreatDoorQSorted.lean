/-
  bindings and atOnce: the makers of the iterators.
-/
import Derived.Shelf.SlSortCmp.QuietGrown
import Derived.Deep.QuietTactic
import Derived.BigQuiet
import Derived.Test.YtdehimbfcilhpaaGreatDoorQBi
import Derived.Test.YtdehimbfcilhpaaGreatDoorQE9
import Derived.Test.YtdehimbfcilhpaaGreatDoorQCpt
import Derived.Test.YtdehimbfcilhpaaGreatDoorQCpt2
namespace Go.Proofs.YtdehimbfcilhpaaGreatDoor
open Go.RowKit Go.Lib Go.Shelf

set_option maxRecDepth 100000 in
theorem bindings_at (r : Rv) (home : List UInt8) (fa : Option Addr) (fc : Nat) (zs : List Fv) (w : World) :
    Calls Tryz.prog 60 #[rval r, str home, .slice fa zs.length fc] w fun e w' => e = .returned (.func (.func 78) #[] #[ptr w.heap.size, ptr (w.heap.size + 1), ptr (w.heap.size + 1 + 1)]) ∧ Below w.heap.size w w' ∧ w'.heap.size = w.heap.size + 3 ∧ BCap w w.heap.size w.heap.size (w.heap.size + 1) (w.heap.size + 1 + 1) r home fa fc zs w' := by
  obtain ⟨h0, h1, h2, A0⟩ := boxes3 w (.cells #[str r.home.v, .bool r.home.k.num, .int .i64 r.home.k.n, str r.home.k.s, str r.pred, .slice r.a r.args.length r.cap, str r.to_.v, .bool r.to_.k.num, .int .i64 r.to_.k.n, str r.to_.k.s, .slice r.ba r.body.length r.bcap] 62) (.cells #[str home] 9) (.cells #[.slice fa zs.length fc] 24)
  have SZ : (((w.alloc (.cells #[str r.home.v, .bool r.home.k.num, .int .i64 r.home.k.n, str r.home.k.s, str r.pred, .slice r.a r.args.length r.cap, str r.to_.v, .bool r.to_.k.num, .int .i64 r.to_.k.n, str r.to_.k.s, .slice r.ba r.body.length r.bcap] 62)).alloc (.cells #[str home] 9)).alloc (.cells #[.slice fa zs.length fc] 24)).heap.size = w.heap.size + 3 := by simp
  have HH := hideP (And.intro h0 (And.intro h1 (And.intro h2 (And.intro A0 SZ))))
  clear h0 h1 h2 A0 SZ
  go_enter Tryz.func60, Tryz.ntmps60
  go_wp2_with fail
  go_ret
  obtain ⟨h0, h1, h2, A0, SZ⟩ := HH.out
  exact ⟨rfl, A0, SZ, ⟨h0, h1, h2⟩⟩

/-- WHAT atOnce CAPTURED -/
structure ACap (b1 b2 b3 : Nat) (ra : Option Addr) (rc : Nat) (rs : List Rv) (ha : Option Addr) (hc : Nat) (hs : List (List UInt8)) (na : Option Addr) (nc : Nat) (ns : List (List UInt8)) (fa : Option Addr) (fc : Nat) (zs : List Fv) (W : World) : Prop where
  rules : W.heap[b1]? = some (.cells #[.slice ra rs.length rc] 23)
  world : W.heap[b2]? = some (.cells #[.slice ha hs.length hc, .slice na ns.length nc] 41)
  facts : W.heap[b3]? = some (.cells #[.slice fa zs.length fc] 24)
set_option maxRecDepth 100000 in
theorem atOnce_at (ra : Option Addr) (rc : Nat) (rs : List Rv) (ha : Option Addr) (hc : Nat) (hs : List (List UInt8)) (na : Option Addr) (nc : Nat) (ns : List (List UInt8)) (fa : Option Addr) (fc : Nat) (zs : List Fv) (w : World) :
    Calls Tryz.prog 33 #[.agg #[.slice ha hs.length hc, .slice na ns.length nc], .slice ra rs.length rc, .slice fa zs.length fc] w fun e w' => e = .returned (.func (.func 59) #[] #[ptr (w.heap.size + 1), ptr w.heap.size, ptr (w.heap.size + 1 + 1)]) ∧ Below w.heap.size w w' ∧ w'.heap.size = w.heap.size + 3 ∧ ACap (w.heap.size + 1) w.heap.size (w.heap.size + 1 + 1) ra rc rs ha hc hs na nc ns fa fc zs w' := by
  obtain ⟨h0, h1, h2, A0⟩ := boxes3 w (.cells #[.slice ha hs.length hc, .slice na ns.length nc] 41) (.cells #[.slice ra rs.length rc] 23) (.cells #[.slice fa zs.length fc] 24)
  have SZ : (((w.alloc (.cells #[.slice ha hs.length hc, .slice na ns.length nc] 41)).alloc (.cells #[.slice ra rs.length rc] 23)).alloc (.cells #[.slice fa zs.length fc] 24)).heap.size = w.heap.size + 3 := by simp
  have HH := hideP (And.intro h0 (And.intro h1 (And.intro h2 (And.intro A0 SZ))))
  clear h0 h1 h2 A0 SZ
  go_enter Tryz.func33, Tryz.ntmps33
  go_wp2_with fail
  go_ret
  obtain ⟨h0, h1, h2, A0, SZ⟩ := HH.out
  exact ⟨rfl, A0, SZ, ⟨h1, h0, h2⟩⟩
end Go.Proofs.YtdehimbfcilhpaaGreatDoor

/-
  atOnce's iterator, walked.
-/
namespace Go.Proofs.YtdehimbfcilhpaaGreatDoor
open Go.RowKit Go.Lib Go.Shelf

/-- what is known of rules, homes, names, facts -/
structure AIn (w0 : World) (ra : Option Addr) (rc : Nat) (rs : List Rv) (ha : Option Addr) (hc : Nat) (hs : List (List UInt8)) (na : Option Addr) (nc : Nat) (ns : List (List UInt8)) (fa : Option Addr) (fc : Nat) (zs : List Fv) : Prop where
  rules : Rws w0 ra rc rs
  smr : ∀ r ∈ rs, SmR r
  homes : Row sK w0 ha hc hs
  hl : ∀ h ∈ hs, h.length ≤ 1048576
  names : Row sK w0 na nc ns
  facts : Fts w0 fa fc zs
  small : ∀ z ∈ zs, SmF z.f
  tab : TabB w0.heap.size w0
  zl : zs.length ≤ 1000000
  few : Ml.Few ⟨hs, ns⟩ (rs.map Rv.r) (zs.map Fv.f)
/-- what is known of a fact where a round begins -/
def EltF (f : F) (v : Value) (W : World) : Prop := ∃ z : Fv, v = z.val ∧ z.f = f ∧ RowT kK 56 W z.a z.cap z.ks
theorem AIn.bin {w0 : World} {ra : Option Addr} {rc : Nat} {rs : List Rv} {ha : Option Addr} {hc : Nat} {hs : List (List UInt8)} {na : Option Addr} {nc : Nat} {ns : List (List UInt8)} {fa : Option Addr} {fc : Nat} {zs : List Fv} (h : AIn w0 ra rc rs ha hc hs na nc ns fa fc zs) {r : Rv} (hr : r ∈ rs) {x : List UInt8} (hx : x ∈ hs) : BIn w0 r x fa fc zs :=
  ⟨h.rules.each r hr, h.smr r hr, h.hl x hx, h.facts, h.small, h.tab, h.zl, fun e0 hu => h.few r.r (List.mem_map_of_mem hr) x hx e0 hu⟩
/-- what is known of an end of a rule's body where a round begins -/
def EltB (B : Nat) (r : Ru) (home : List UInt8) (m : List F) (p : Mt.Env) (v : Value) (W : World) : Prop := EltE B p v W ∧ HdIn r home m p
/-- an iterator over a rule's bindings, as a contract -/
theorem bind_seq {w0 : World} {b1 b2 b3 : Nat} {r : Rv} {home : List UInt8} {fa : Option Addr} {fc : Nat} {zs : List Fv} {X : Nat → Prop} {W : World} (hi : BIn w0 r home fa fc zs) (hc : BCap w0 W.heap.size b1 b2 b3 r home fa fc zs W) (hX : ∀ k, X k → w0.heap.size ≤ k ∧ k < W.heap.size) (hb : Below w0.heap.size w0 W) :
    SeqM Tryz.prog 166 78 #[ptr b1, ptr b2, ptr b3] (EltB W.heap.size r.r home (zs.map Fv.f)) (fun l => Rnd w0.heap.size fun k => X k ∨ (k = l ∧ w0.heap.size ≤ l)) (BGot r.r home (zs.map Fv.f)) (fun _ => True) 60001 W := fun l J Jx hl _ hJ hJx hY h0 => by
  refine (calls_in (bind_at w0 b1 b2 b3 r home fa fc zs (fun k => X k ∨ (k = l ∧ w0.heap.size ≤ l)) l J Jx W hi hc (fun k hk => ?_) hJ hJx (fun pre p v W1 h1 h2 h3 h4 => YieldAt.mono (hY pre p v W1 h1 ⟨h2, h4⟩ h3) fun e W' q => q.imp id fun q => ⟨q.1, q.2.1⟩) hb h0)).mono ?_
  · rcases hk with hk | ⟨rfl, hk⟩
    · exact hX k hk
    · exact ⟨hk, hl⟩
  · rintro e W' ⟨hv, ⟨ys, h1, h2⟩ | ⟨pre, h2⟩⟩
    · exact ⟨hv, .inl ⟨ys, h1, h2⟩⟩
    · exact ⟨hv, .inr ⟨pre, trivial, h2⟩⟩
/-- the marks of loops over functions: their blocks are shut, one by one -/
def shut : List Nat → World → World
  | [], W => W
  | D :: Ds, W => shut Ds (W.putObj D (.deferred none))
abbrev mark (D : Nat) : Deferred := { target := .collected D, args := #[] }
theorem leaves_marks {P : Program} {F : Fence} {n : Nat} {fn : Func} {tmps : Array Value} {R : Ending → World → Prop} : ∀ (Ds : List Nat) (W : World), (∀ D ∈ Ds, W.heap[D]? = some (.deferred (some []))) → Ds.Nodup → LeavesIn F n P fn tmps R [] .returning (shut Ds W) → LeavesInM F n P fn tmps R (Ds.map mark) .returning W
  | [], _, _, _, h => h
  | D :: Ds, W, hd, hn, h => by
    obtain ⟨h1, h2⟩ := List.nodup_cons.1 hn
    refine ⟨by simp, .inl ⟨D, _, rfl, run_takeDeferred (hd D (List.mem_cons_self ..)), ?_⟩⟩
    refine leaves_marks Ds _ (fun D' hD' => ?_) h2 h
    rw [World.putObj_heap_other (fun e : D' = D => h1 (e ▸ hD'))]
    exact hd D' (List.mem_cons_of_mem _ hD')
theorem shut_itr {pt : TypeId} {B : Nat} : ∀ (Ds : List Nat) (W : World), (∀ D ∈ Ds, W.heap[D]? = some (.deferred (some []))) → Ds.Nodup → (∀ D ∈ Ds, B ≤ D) → Itr pt B W (shut Ds W)
  | [], W, _, _, _ => Itr.refl _ _ _
  | D :: Ds, W, hd, hn, hB => by
    obtain ⟨h1, h2⟩ := List.nodup_cons.1 hn
    refine (Itr.putObj _ (hd D (List.mem_cons_self ..)) rfl (hB D (List.mem_cons_self ..))).trans (shut_itr Ds _ (fun D' hD' => ?_) h2 fun D' hD' => hB D' (List.mem_cons_of_mem _ hD'))
    rw [World.putObj_heap_other (fun e : D' = D => h1 (e ▸ hD'))]
    exact hd D' (List.mem_cons_of_mem _ hD')
/-- marks that stand -/
structure Marks (B : Nat) (Ds : List Nat) (W : World) : Prop where
  open_ : ∀ D ∈ Ds, W.heap[D]? = some (.deferred (some []))
  nodup : Ds.Nodup
  low : ∀ D ∈ Ds, B ≤ D
theorem Marks.nil (B : Nat) (W : World) : Marks B [] W := ⟨(fun _ h => by cases h), List.nodup_nil, fun _ h => by cases h⟩
theorem Marks.below {B : Nat} {Ds : List Nat} {W W' : World} (h : Marks B Ds W) (hb : Below W.heap.size W W') : Marks B Ds W' := ⟨fun D hD => below_heap hb (h.open_ D hD), h.nodup, h.low⟩
theorem Marks.rnd {B n0 : Nat} {X : Nat → Prop} {Ds : List Nat} {W W' : World} (h : Marks B Ds W) (r : Rnd n0 X W W') (hX : ∀ k, X k → k < B) : Marks B Ds W' := ⟨fun D hD => r.other (h.open_ D hD) (fun hx => by have := hX D hx; have := h.low D hD; omega) rfl, h.nodup, h.low⟩
theorem Marks.cons {B D : Nat} {Ds : List Nat} {W W' : World} (h : Marks B Ds W) (hD : W'.heap[D]? = some (.deferred (some []))) (hl : W.heap.size ≤ D) (hB : B ≤ D) (hk : ∀ D' ∈ Ds, W'.heap[D']? = some (.deferred (some []))) : Marks B (D :: Ds) W' :=
  ⟨fun D' h' => by
    rcases List.mem_cons.1 h' with rfl | h'
    · exact hD
    · exact hk D' h', List.nodup_cons.2 ⟨fun hm => by have := heap_lt (h.open_ D hm); omega, h.nodup⟩, fun D' h' => by
    rcases List.mem_cons.1 h' with rfl | h'
    · exact hB
    · exact h.low D' h'⟩
end Go.Proofs.YtdehimbfcilhpaaGreatDoor

/-
  slices.Index and Contains over texts.
-/
namespace Go.Proofs.YtdehimbfcilhpaaGreatDoor
open Go.RowKit Go.Lib Go.Shelf


set_option maxRecDepth 100000 in
set_option maxHeartbeats 800000 in
theorem index_at (w : World) (a : Option Addr) (c : Nat) (N : List (List UInt8)) (s : List UInt8) (h : Row sK w a c N) :
    Calls Tryz.prog 85 #[.slice a N.length c, str s] w fun e w' => ∃ i : Int, e = .returned (.int .i64 i) ∧ (0 ≤ i ↔ s ∈ N) ∧ w = w' := by
  have few := h.few
  go_enter Tryz.func85, Tryz.ntmps85
  go_wp2_with fail
  go_loopw [8] (fun v wr => ∃ k : Nat, v = .int .i64 (k : Int) ∧ k ≤ N.length ∧ Hid (s ∉ N.take k) ∧ w = wr) (fun v _ => N.length - (intOf v).toNat)
  case atStart => exact ⟨0, rfl, by omega, hideP (by simp), rfl⟩
  case round =>
    obtain ⟨k, rfl, hk, hno, rfl⟩ := hrel
    by_cases hlt : k < N.length
    · have q0 : (k : Int) < (N.length : Int) := by omega
      obtain ⟨b, o, rfl⟩ := h.addr (by omega)
      have c1 := h.text k hlt
      by_cases hq : s = N[k]
      · have q1 : (s == N[k]) = true := by simpa using hq
        have hm := hideP (show s ∈ N from hq ▸ List.getElem_mem hlt)
        clear hq
        go_wp2_with fail
        go_ret
        exact ⟨k, rfl, ⟨fun _ => hm.out, fun _ => by omega⟩, rfl⟩
      · have q1 : (s == N[k]) = false := by simpa using hq
        have HN : Hid (s ∉ N.take (k + 1)) := hideP (by
          rw [← List.take_append_getElem hlt]
          simp only [List.mem_append, List.mem_singleton, not_or]
          exact ⟨hno.out, hq⟩)
        clear hq
        go_wp2_with fail
        exact ⟨⟨k + 1, rfl, hlt, HN, by first | rfl | trivial⟩, by simp [intOf]; omega⟩
    · have q0 : ¬ (k : Int) < (N.length : Int) := by omega
      obtain rfl : k = N.length := by omega
      have hno' := hno.out
      rw [List.take_length] at hno'
      have HN := hideP hno'
      clear hno'
      go_wp2_with fail
      go_ret
      exact ⟨-1, rfl, ⟨fun h => absurd h (by decide), fun h => absurd h HN.out⟩, rfl⟩

set_option maxRecDepth 100000 in
theorem contains_at (w : World) (a : Option Addr) (c : Nat) (N : List (List UInt8)) (s : List UInt8) (h : Row sK w a c N) :
    Calls Tryz.prog 62 #[.slice a N.length c, str s] w fun e w' => e = .returned (.bool (decide (s ∈ N))) ∧ w = w' := by
  go_enter Tryz.func62, Tryz.ntmps62
  go_wp2_with fail
  refine (index_at w a c N s h).mono ?_
  rintro _ w1 ⟨i, rfl, hi, rfl⟩
  have Hi := hideP hi
  clear hi
  go_wp2_with fail
  go_ret
  refine ⟨ret_bool ?_, rfl⟩
  rw [Bool.eq_iff_iff]
  simpa using Hi.out
end Go.Proofs.YtdehimbfcilhpaaGreatDoor

/-
  The reference's in: is a text one of some?
-/
namespace Go.Proofs.YtdehimbfcilhpaaGreatDoor
open Go.RowKit Go.Lib Go.Shelf

set_option maxRecDepth 100000 in
set_option maxHeartbeats 800000 in
theorem rin_at (w : World) (a : Option Addr) (c : Nat) (N : List (List UInt8)) (s : List UInt8) (h : Row sK w a c N) :
    Calls Tryz.prog 53 #[.slice a N.length c, str s] w fun e w' => e = .returned (.bool (decide (s ∈ N))) ∧ w = w' := by
  have few := h.few
  go_enter Tryz.func53, Tryz.ntmps53
  go_wp2_with fail
  go_loopw [5] (fun v wr => ∃ k : Nat, v = .int .i64 (k : Int) ∧ k ≤ N.length ∧ Hid (s ∉ N.take k) ∧ w = wr) (fun v _ => N.length - (intOf v).toNat)
  case atStart => exact ⟨0, rfl, by omega, hideP (by simp), rfl⟩
  case round =>
    obtain ⟨k, rfl, hk, hno, rfl⟩ := hrel
    by_cases hlt : k < N.length
    · have q0 : (k : Int) < (N.length : Int) := by omega
      obtain ⟨b, o, rfl⟩ := h.addr (by omega)
      have c1 := h.text k hlt
      by_cases hq : N[k] = s
      · have q1 : (N[k] == s) = true := by simpa using hq
        have hm := hideP (show s ∈ N from hq ▸ List.getElem_mem hlt)
        clear hq
        go_wp2_with fail
        go_ret
        exact ⟨ret_bool (decide_eq_true hm.out).symm, rfl⟩
      · have q1 : (N[k] == s) = false := by simpa using hq
        have HN : Hid (s ∉ N.take (k + 1)) := hideP (by
          rw [← List.take_append_getElem hlt]
          simp only [List.mem_append, List.mem_singleton, not_or]
          exact ⟨hno.out, fun h => hq h.symm⟩)
        clear hq
        go_wp2_with fail
        exact ⟨⟨k + 1, rfl, hlt, HN, by first | rfl | trivial⟩, by simp [intOf]; omega⟩
    · have q0 : ¬ (k : Int) < (N.length : Int) := by omega
      obtain rfl : k = N.length := by omega
      have hno' := hno.out
      rw [List.take_length] at hno'
      have HN := hideP hno'
      clear hno'
      go_wp2_with fail
      go_ret
      exact ⟨ret_bool (decide_eq_false HN.out).symm, rfl⟩
end Go.Proofs.YtdehimbfcilhpaaGreatDoor

/-
  Facts: what the reference's Order answers.
-/
namespace Go.Proofs.YtdehimbfcilhpaaGreatDoor
open Go.RowKit Go.Sort

/-- two facts' boxes: where their Args stand -/
theorem boxes_args (w : World) (o1 o2 : Array Value) (t : TypeId) (v1 v2 : Value) (h1 : o1[3]? = some v1) (h2 : o2[3]? = some v2) :
    ((w.alloc (.cells o1 t)).alloc (.cells o2 t)).cell? ⟨w.heap.size, 3, none⟩ = some v1 ∧ ((w.alloc (.cells o1 t)).alloc (.cells o2 t)).cell? ⟨w.heap.size + 1, 3, none⟩ = some v2 := by
  constructor
  · simp [h1]
  · simp [h2]

set_option maxHeartbeats 4000000 in
theorem reforder_at (x y : Fv) (w : World) (hx : Fv.At w x) (hy : Fv.At w y) : Calls Tryz.prog 30 #[x.val, y.val] w fun e w' => e = .returned (.int .i64 (cF x.f y.f)) ∧ Grew w w' := by
  have hS := fun (l m : List UInt8) (W : World) => texts_at l m W
  have hC := fun (p q : K) (W : World) => refcompare_at p q W
  have mixed : Tryz.prog.follows .mixedOrders = true := by kernel_rfl
  have eg : ∀ args w, (callFunc 56 args).run Tryz.prog w = .ok (.enter 56 args) w := enters_of Tryz.func56 (by kernel_rfl) rfl
  have hg2 : ∀ o o' : Obj, Grew w ((w.alloc o).alloc o') := fun o o' => ((Grew.refl w).allocs o).allocs o'
  have e1 := @cF_at x.f y.f; have e2 := @cF_by x.f y.f; have e3 := @cF_pred x.f y.f; have e4 := @cF_args x.f y.f
  generalize cF x.f y.f = r at *
  simp only [Fv.f] at e1 e2 e3 e4
  obtain ⟨x1, x2, x3, xa, xc, xk⟩ := x; obtain ⟨y1, y2, y3, ya, yc, yk⟩ := y
  have hx : ArgsAt w xa xc xk := hx
  have hy : ArgsAt w ya yc yk := hy
  simp only at e1 e2 e3 e4
  have E1 := hideP e1; have E2 := hideP e2; have E3 := hideP e3; have E4 := hideP e4; clear e1 e2 e3 e4
  by_cases h1 : x1 = y1
  rotate_left
  · have k1 : (x1 == y1) = false := by simp [h1]
    have z1 := E1.out (by rw [ne_eq, cT_zero]; exact h1)
    have Z1 := hideP z1; clear z1
    go_enter Tryz.func30, Tryz.ntmps30
    go_wp2_with (go_at_call 55; refine (hS x1 y1 _).mono ?_; rintro e w' ⟨rfl, rfl⟩)
    go_ret
    exact ⟨ret_int Z1.out.symm, hg2 _ _⟩
  have z0 : cT x1 y1 = 0 := (cT_zero _ _).2 h1
  subst h1
  by_cases h2 : x2 = y2
  rotate_left
  · have k1 : (x2 == y2) = false := by simp [h2]
    have z1 := E2.out z0 (by rw [ne_eq, cT_zero]; exact h2)
    have Z1 := hideP z1; clear z1
    go_enter Tryz.func30, Tryz.ntmps30
    go_wp2_with (go_at_call 55; refine (hS x2 y2 _).mono ?_; rintro e w' ⟨rfl, rfl⟩)
    go_ret
    exact ⟨ret_int Z1.out.symm, hg2 _ _⟩
  have z2 : cT x2 y2 = 0 := (cT_zero _ _).2 h2
  subst h2
  by_cases h3 : x3 = y3
  rotate_left
  · have k1 : (x3 == y3) = false := by simp [h3]
    have z1 := E3.out z0 z2 (by rw [ne_eq, cT_zero]; exact h3)
    have Z1 := hideP z1; clear z1
    go_enter Tryz.func30, Tryz.ntmps30
    go_wp2_with (go_at_call 55; refine (hS x3 y3 _).mono ?_; rintro e w' ⟨rfl, rfl⟩)
    go_ret
    exact ⟨ret_int Z1.out.symm, hg2 _ _⟩
  have z3 : cT x3 y3 = 0 := (cT_zero _ _).2 h3
  subst h3
  have Z := hideP (E4.out z0 z2 z3)
  clear E1 E2 E3 E4 z0 z2 z3 hS
  have b1 := hx.few; have b2 := hy.few
  go_enter Tryz.func30, Tryz.ntmps30
  go_wp2_with fail
  obtain ⟨w2, hw2⟩ : ∃ w2, w2 = (w.alloc (.cells #[str x1, str x2, str x3, .slice xa xk.length xc] 36)).alloc (.cells #[str x1, str x2, str x3, .slice ya yk.length yc] 36) := ⟨_, rfl⟩
  have G2 : Grew w w2 := by rw [hw2]; exact hg2 _ _
  obtain ⟨B1, B2⟩ := boxes_args w #[str x1, str x2, str x3, .slice xa xk.length xc] #[str x1, str x2, str x3, .slice ya yk.length yc] 36 _ _ rfl rfl
  rw [← hw2] at B1 B2 ⊢
  have hx2 := ArgsAt.below hx G2.below (Nat.le_refl _)
  have hy2 := ArgsAt.below hy G2.below (Nat.le_refl _)
  have hB1 := cell_block B1; have hB2 := cell_block B2
  clear hw2 hx hy hg2
  go_loopw [5, 6] (fun v _ wr => ∃ k : Nat, v = .int .i64 (k : Int) ∧ k ≤ xk.length ∧ k ≤ yk.length ∧ Hid (Even xk yk k) ∧ Grew w2 wr) (fun v _ _ => xk.length - (intOf v).toNat)
  case atStart => exact ⟨0, rfl, by omega, by omega, fun j _ _ h => absurd h (by omega), Grew.refl _⟩
  case round =>
    obtain ⟨k, rfl, hk, hk', hev, hg⟩ := hrel
    have c1 := (hg.below.cell (p := ⟨w.heap.size, 3, none⟩) hB1).trans B1
    have c2 := (hg.below.cell (p := ⟨w.heap.size + 1, 3, none⟩) hB2).trans B2
    have n1 := cell_block c1; have n2 := cell_block c2
    by_cases hlt : k < xk.length
    · have q2 : (k : Int) < (xk.length : Int) := by omega
      by_cases hlt' : k < yk.length
      · have q4 : (k : Int) < (yk.length : Int) := by omega
        obtain ⟨P1, O1, rfl⟩ := hx2.addr (Nat.lt_of_le_of_lt (Nat.zero_le _) hlt)
        obtain ⟨P2, O2, rfl⟩ := hy2.addr (Nat.lt_of_le_of_lt (Nat.zero_le _) hlt')
        obtain ⟨a1, a2, a3⟩ := (hx2.below hg.below (Nat.le_refl _)).get k hlt
        obtain ⟨d1, d2, d3⟩ := (hy2.below hg.below (Nat.le_refl _)).get k hlt'
        have n3 := cell_block a1; have n4 := cell_block d1
        have hn := hC xk[k] yk[k]
        have hev' : Hid (cK xk[k] yk[k] = 0 → Even xk yk (k + 1)) := fun h j hjx hjy hj => by
          by_cases e : j = k
          · subst e; exact h
          · exact hev.out j hjx hjy (by omega)
        have hhit : Hid (cK xk[k] yk[k] ≠ 0 → cL cK xk yk = cK xk[k] yk[k]) := fun h => cL_hit cK xk yk k hlt hlt' (fun j hjx hjy hj => hev.out j hjx hjy hj) h
        generalize xk[k] = p at *
        generalize yk[k] = q at *
        have C1 := fun n os => cell_grown (cell_block c1) c1 n os
        have C2 := fun n os => cell_grown (cell_block c2) c2 n os
        have A1 := fun n os => cell_grown (cell_block a1) a1 n os
        have A2 := fun n os => cell_grown (cell_block a2) a2 n os
        have A3 := fun n os => cell_grown (cell_block a3) a3 n os
        have D1 := fun n os => cell_grown (cell_block d1) d1 n os
        have D2 := fun n os => cell_grown (cell_block d2) d2 n os
        have D3 := fun n os => cell_grown (cell_block d3) d3 n os
        clear hC
        by_cases hr : cK p q = 0
        · have hev'' := hideP (hev'.out hr)
          simp only [hr] at hn
          go_wp2_with fail
          go_quiet_grown (first | (go_at_fn 56; refine Calls.grown_of (hn _)))
          go_wp2_with fail
          exact ⟨⟨k + 1, by simp, by omega, by omega, hev'', hg.trans (Grew.grow _ _ _)⟩, by simp [intOf]; omega⟩
        · have hhit' := hideP (hhit.out hr)
          generalize cK p q = r at hn hr hhit'
          go_wp2_with fail
          go_quiet_grown (first | (go_at_fn 56; refine Calls.grown_of (hn _)))
          go_wp2_with fail
          go_ret
          exact ⟨ret_int (by rw [Z.out, hhit'.out]), G2.trans (hg.trans (Grew.grow _ _ _))⟩
      · have q4 : ¬ (k : Int) < (yk.length : Int) := by omega
        have q5 : ¬ (xk.length : Int) < (yk.length : Int) := by omega
        have q6 : (yk.length : Int) < (xk.length : Int) := by omega
        go_wp2_with fail
        go_ret
        refine ⟨ret_int ?_, G2.trans hg⟩
        rw [Z.out, cL_long cK xk yk (by omega) fun j hjx hjy => hev.out j hjx hjy (by omega)]
    · have q2 : ¬ (k : Int) < (xk.length : Int) := by omega
      by_cases hlt' : xk.length < yk.length
      · have q3 : (xk.length : Int) < (yk.length : Int) := by omega
        go_wp2_with fail
        go_ret
        refine ⟨ret_int ?_, G2.trans hg⟩
        rw [Z.out, cL_short cK xk yk (by omega) fun j hjx hjy => hev.out j hjx hjy (by omega)]
      · have q3 : ¬ (xk.length : Int) < (yk.length : Int) := by omega
        have q4 : ¬ (yk.length : Int) < (xk.length : Int) := by omega
        go_wp2_with fail
        go_ret
        refine ⟨ret_int ?_, G2.trans hg⟩
        rw [Z.out, cL_even cK xk yk (by omega) fun j hjx hjy => hev.out j hjx hjy (by omega)]

end Go.Proofs.YtdehimbfcilhpaaGreatDoor

/-
  The reference's Like of facts.
-/
namespace Go.Proofs.YtdehimbfcilhpaaGreatDoor
open Go.RowKit Go.Sort

/-- are two lists of facts the same? -/
def likeB (l m : List F) : Bool := decide (cL cF l m = 0)
theorem likeB_iff (l m : List F) : likeB l m = true ↔ l = m := by
  unfold likeB; rw [decide_eq_true_eq, cL_zero cF_zero]
theorem likeB_self (l : List F) : likeB l l = true := (likeB_iff l l).2 rfl
theorem likeB_no {l m : List F} (h : l ≠ m) : likeB l m = false := by
  rw [Bool.eq_false_iff]; exact fun h' => h ((likeB_iff l m).1 h')

set_option maxHeartbeats 2000000 in
theorem like_at (a a' : Option Addr) (c c' : Nat) (xs ys : List Fv) (w : World) (hx : Lies w a c xs) (hy : Lies w a' c' ys) (ax : ∀ x ∈ xs, Fv.At w x) (ay : ∀ y ∈ ys, Fv.At w y) :
    Calls Tryz.prog 14 #[.slice a xs.length c, .slice a' ys.length c'] w fun e w' => e = .returned (.bool (likeB (xs.map Fv.f) (ys.map Fv.f))) ∧ Grew w w' := by
  have mixed : Tryz.prog.follows .mixedOrders = true := by kernel_rfl
  have hC := fun (p q : Fv) (W : World) (hp : Fv.At W p) (hq : Fv.At W q) => reforder_at p q W hp hq
  have b1 := hx.few; have b2 := hy.few
  by_cases hl : xs.length = ys.length
  rotate_left
  · have q0 : ((xs.length : Int) != (ys.length : Int)) = true := by simp; omega
    have hno : likeB (xs.map Fv.f) (ys.map Fv.f) = false := likeB_no fun h => hl (by have := congrArg List.length h; simpa using this)
    rw [hno]
    go_enter Tryz.func14, Tryz.ntmps14
    go_wp2_with fail
    go_ret
    exact ⟨rfl, Grew.refl _⟩
  · have q0 : ((xs.length : Int) != (ys.length : Int)) = false := by simp; omega
    have Hl := hideP hl; clear hl
    go_enter Tryz.func14, Tryz.ntmps14
    go_wp2_with fail
    go_loopw [5] (fun v wr => ∃ k : Nat, v = .int .i64 (k : Int) ∧ k ≤ xs.length ∧ Hid (∀ j (h1 : j < xs.length) (h2 : j < ys.length), j < k → xs[j].f = ys[j].f) ∧ Grew w wr) (fun v _ => xs.length - (intOf v).toNat)
    case atStart => exact ⟨0, rfl, by omega, fun j _ _ h => absurd h (by omega), Grew.refl _⟩
    case round =>
      obtain ⟨k, rfl, hk, hev, hg⟩ := hrel
      by_cases hlt : k < xs.length
      · have q2 : (k : Int) < (xs.length : Int) := by omega
        have hlt' : k < ys.length := by have := Hl.out; omega
        have q3 : (k : Int) < (ys.length : Int) := by omega
        obtain ⟨P1, O1, rfl⟩ := hx.addr (Nat.lt_of_le_of_lt (Nat.zero_le _) hlt)
        obtain ⟨P2, O2, rfl⟩ := hy.addr (Nat.lt_of_le_of_lt (Nat.zero_le _) hlt')
        obtain ⟨a1, a2, a3, a4⟩ := (hx.below hg.below (Nat.le_refl _)).get k hlt
        obtain ⟨d1, d2, d3, d4⟩ := (hy.below hg.below (Nat.le_refl _)).get k hlt'
        have hn := fun n os => hC (xs[k]'hlt) (ys[k]'hlt') (grow (wr.drewN n) os) ((ax _ (List.getElem_mem hlt)).grew (hg.trans (Grew.grow _ _ _))) ((ay _ (List.getElem_mem hlt')).grew (hg.trans (Grew.grow _ _ _)))
        have hev' : Hid (cF (xs[k]'hlt).f (ys[k]'hlt').f = 0 → ∀ j (h1 : j < xs.length) (h2 : j < ys.length), j < k + 1 → xs[j].f = ys[j].f) := fun h j h1 h2 hj => by
          by_cases e : j = k
          · subst e; exact (cF_zero _ _).1 h
          · exact hev.out j h1 h2 (by omega)
        have hno : Hid (cF (xs[k]'hlt).f (ys[k]'hlt').f ≠ 0 → likeB (xs.map Fv.f) (ys.map Fv.f) = false) := fun h => likeB_no fun he => h (by
          rw [cF_zero]
          have h1 : (xs.map Fv.f)[k]'(by simpa using hlt) = (ys.map Fv.f)[k]'(by simpa using hlt') := by simp only [he]
          simpa using h1)
        generalize (xs[k]'hlt) = p at *
        generalize (ys[k]'hlt') = q at *
        have A1 := fun n os => cell_grown (cell_block a1) a1 n os
        have A2 := fun n os => cell_grown (cell_block a2) a2 n os
        have A3 := fun n os => cell_grown (cell_block a3) a3 n os
        have A4 := fun n os => cell_grown (cell_block a4) a4 n os
        have D1 := fun n os => cell_grown (cell_block d1) d1 n os
        have D2 := fun n os => cell_grown (cell_block d2) d2 n os
        have D3 := fun n os => cell_grown (cell_block d3) d3 n os
        have D4 := fun n os => cell_grown (cell_block d4) d4 n os
        clear hC a1 a2 a3 a4 d1 d2 d3 d4 ax ay
        by_cases hr : cF p.f q.f = 0
        · have hev'' := hideP (hev'.out hr)
          simp only [hr] at hn
          go_wp2_with fail
          go_quiet_grown (first | (go_at_call 30; refine Calls.grown_of (hn _ _)))
          go_wp2_with fail
          exact ⟨⟨k + 1, by simp, by omega, hev'', hg.trans (Grew.grow _ _ _)⟩, by simp [intOf]; omega⟩
        · have hno' := hideP (hno.out hr)
          generalize cF p.f q.f = r at hn hr
          go_wp2_with fail
          go_quiet_grown (first | (go_at_call 30; refine Calls.grown_of (hn _ _)))
          go_wp2_with fail
          go_ret
          exact ⟨ret_bool hno'.out.symm, hg.trans (Grew.grow _ _ _)⟩
      · have q2 : ¬ (k : Int) < (xs.length : Int) := by omega
        have hyes : Hid (likeB (xs.map Fv.f) (ys.map Fv.f) = true) := (likeB_iff _ _).2 (List.ext_getElem (by simpa using Hl.out) fun j h1 h2 => by
          simp only [List.getElem_map]
          exact hev.out j (by simpa using h1) (by simpa using h2) (by simp at h1; omega))
        go_wp2_with fail
        go_ret
        exact ⟨ret_bool hyes.out.symm, hg⟩


end Go.Proofs.YtdehimbfcilhpaaGreatDoor

/-
  ordered: a list in order, each once, in a row of its own.
-/
namespace Go.Proofs.YtdehimbfcilhpaaGreatDoor
open Go.RowKit Go.Sort

/-- a slice of facts in a row of the call's own, or nil -/
structure OwF (w : World) (base : Nat) (a : Option Addr) (cap : Nat) (xs : List Fv) : Prop where
  room : xs.length ≤ cap
  most : cap ≤ maxLen
  few : xs.length ≤ 1954687338211
  void : a = none → xs = [] ∧ cap = 0
  row : ∀ ad, a = some ad → ∃ g, ad = ⟨g, 0, none⟩ ∧ base ≤ g ∧ g < w.heap.size ∧ RowF w g xs
theorem OwF.nil (w : World) (base : Nat) : OwF w base none 0 [] := ⟨Nat.le_refl _, by simp, by simp, fun _ => ⟨rfl, rfl⟩, fun _ h => by cases h⟩
theorem OwF.lies {w : World} {base : Nat} {a : Option Addr} {cap : Nat} {xs : List Fv} (h : OwF w base a cap xs) : Lies w a cap xs :=
  ⟨h.room, h.most, h.few, h.void, fun ad ha => by obtain ⟨g, rfl, _, _, hr⟩ := h.row ad ha; exact hr.cells⟩
theorem OwF.below {w w' : World} {base : Nat} {a : Option Addr} {cap : Nat} {xs : List Fv} (h : OwF w base a cap xs) (hb : Below w.heap.size w w') : OwF w' base a cap xs :=
  ⟨h.room, h.most, h.few, h.void, fun ad ha => by obtain ⟨g, rfl, h1, h2, hr⟩ := h.row ad ha; exact ⟨g, rfl, h1, Nat.lt_of_lt_of_le h2 hb.size, hr.below hb h2⟩⟩
theorem OwF.lower {w : World} {base base' : Nat} {a : Option Addr} {cap : Nat} {xs : List Fv} (h : OwF w base a cap xs) (hb : base' ≤ base) : OwF w base' a cap xs :=
  ⟨h.room, h.most, h.few, h.void, fun ad ha => by obtain ⟨g, rfl, h1, h2, hr⟩ := h.row ad ha; exact ⟨g, rfl, Nat.le_trans hb h1, h2, hr⟩⟩

/-- a row of facts of the call's own -/
theorem own_facts {w : World} {base : Nat} {v : Value} {n : Nat} {xs : List Fv} (h : w.ownsRow base 36 4 v n (fcells xs)) (hf : xs.length ≤ 1954687338211) :
    ∃ a c, v = .slice a xs.length c ∧ OwF w base a c xs := by
  have hn : xs.length = n := by have := h.1; rw [fcells_len] at this; omega
  subst hn
  rcases h.2 with ⟨hv, h0⟩ | ⟨g, cap, cur, hv, hb, hg, hnc, hcm, hcs, ht⟩
  · have : xs = [] := List.eq_nil_of_length_eq_zero h0
    subst this
    exact ⟨none, 0, hv, OwF.nil w base⟩
  · have hgs : g < w.heap.size := by
      rcases Nat.lt_or_ge g w.heap.size with h' | h'
      · exact h'
      · simp [h'] at hg
    refine ⟨some ⟨g, 0, none⟩, cap, hv, ⟨hnc, hcm, hf, (fun h => by cases h), fun ad ha => ?_⟩⟩
    cases ha
    refine ⟨g, rfl, hb, hgs, fun i hi c hc => ?_⟩
    refine ⟨?_, heap_frozen hg _⟩
    have h1 := flat_get fv 4 fv_len xs i c hi hc
    have hj : i * 4 + c < xs.length * 4 := by omega
    rw [heap_cell hg, ← h1]
    show _ = (fcells xs)[i * 4 + c]?
    rw [← ht, List.getElem?_take, if_pos hj, Array.getElem?_toList]

/-- append(row, facts...) of rows that the call owns -/
theorem wpList_append_fs (w : World) {ops : Array Oper} {rest : List Oper} {o : Oper} {a : Act} {Q : Exit → Act → World → Prop} (hgd : o.guard = none) (s x : Operand)
    (ho : o.op = .call { callee := .builtin .append, args := #[s, x], argTypes := #[24, 24] })
    (base : Nat) (v : Value) (ys xs : List Fv) (ao : Option Addr) (c : Nat) (hs : a.eval s = v) (hown : w.ownsRow base 36 4 v ys.length (fcells ys)) (hx : a.eval x = .slice ao xs.length c) (hl : Lies w ao c xs) (hbase : base ≤ w.heap.size)
    (hfew : ys.length + xs.length ≤ 1954687338211)
    (h : ∀ v' w', w'.ownsRow base 36 4 v' (ys ++ xs).length (fcells (ys ++ xs)) → w.grownBy w' v.ownBlock → wpList Tryz.prog ops Q rest (a.put o.dst v') w') : wpList Tryz.prog ops Q (o :: rest) a w := by
  obtain ⟨i0, hi, hz0, hz1, hz2⟩ := info_parts Tryz.infoF
  cases ao with
  | none =>
    obtain ⟨rfl, rfl⟩ := hl.void rfl
    refine wpList_append_own_none hgd s x 24 ho base 36 i0 4 Tryz.underlying24 hi _ ys.length (fcells ys) hs hown hx ?_
    rw [hs] at *
    exact h v w (by simpa using hown) ⟨rfl, rfl, rfl, Nat.le_refl _, fun _ _ _ => rfl⟩
  | some ad =>
    refine wpList_append_own w hgd s x 24 ho base 36 i0 _ 4 72 Tryz.underlying24 hi hz0 hz1 hz2 rfl (by decide) _ ys.length (fcells ys) hs hown ad xs.length c (fcells xs) hx (fcells_len xs) (hl.cells ad rfl) (fcells_one xs) (by unfold maxLen; omega) (by omega) hbase ?_
    intro v' w' ho' hg' hn'
    exact h v' w' (by rw [List.length_append, fcells_append]; exact ho') hg'

theorem compact_none (a : Option Addr) (c : Nat) (f : Value) (w : World) : Calls Tryz.prog 66 #[.slice a 0 c, f] w fun e w' => e = .returned (.slice a 0 c) ∧ w = w' := by
  go_enter Tryz.func66, Tryz.ntmps66
  go_wp2_with fail
  go_ret
  exact ⟨rfl, rfl⟩

/-- sorted, and of neighbours that are the same the first: the list in order, each once -/
theorem kept_sortF (xs zs : List Fv) (hp : zs.Perm xs) (hs : SortedL zs) : (kept cV zs zs.length).map Fv.f = sortF (xs.map Fv.f) := by
  have hpre : Pre cV := pre_cF.on Fv.f
  obtain ⟨h1, h2⟩ := kept_sorted cV hpre zs (fun i j hi hj h => hs i j hi hj h) zs.length (Nat.le_refl _)
  refine sortF_of ?_ fun x => ?_
  · show List.Pairwise _ _
    rw [List.pairwise_map]; exact h1
  · constructor
    · intro hx
      obtain ⟨y, hy, rfl⟩ := List.mem_map.1 hx
      have := kept_mem cV zs zs.length (Nat.le_refl _) y hy
      rw [List.take_length] at this
      exact List.mem_map_of_mem (hp.mem_iff.1 this)
    · intro hx
      obtain ⟨y, hy, rfl⟩ := List.mem_map.1 hx
      obtain ⟨j, hj, rfl⟩ := List.getElem_of_mem (hp.mem_iff.2 hy)
      obtain ⟨z, hz, h0⟩ := h2 j hj hj
      have : z.f = zs[j].f := (cF_zero _ _).1 h0
      rw [← this]
      exact List.mem_map_of_mem hz
theorem kept_in (xs zs : List Fv) (hp : zs.Perm xs) : ∀ y ∈ kept cV zs zs.length, y ∈ xs := fun y hy => by
  have := kept_mem cV zs zs.length (Nat.le_refl _) y hy
  rw [List.take_length] at this
  exact hp.mem_iff.1 this

set_option maxHeartbeats 1000000 in
theorem ordered_at (a : Option Addr) (cap : Nat) (xs : List Fv) (w : World) (hl : Lies w a cap xs) (hx : ∀ x ∈ xs, Fv.At w x) : Calls Tryz.prog 38 #[.slice a xs.length cap] w
    fun e w' => ∃ a' c' ys, e = .returned (.slice a' ys.length c') ∧ OwF w' w.heap.size a' c' ys ∧ (∀ y ∈ ys, y ∈ xs) ∧ ys.map Fv.f = sortF (xs.map Fv.f) ∧ Below w.heap.size w w' := by
  have hown : w.ownsRow w.heap.size 36 4 (.slice none 0 0) ([] : List Fv).length (fcells []) := ⟨rfl, .inl ⟨rfl, rfl⟩⟩
  have few := hl.few
  have hS := fun (f : Value) (c : Nat) (p : Option Addr) (W : World) => sort_none p c f W
  have hK := fun (f : Value) (c : Nat) (p : Option Addr) (W : World) => compact_none p c f W
  go_enter Tryz.func38, Tryz.ntmps38
  go_wp2_with (at_builtin; refine wpList_append_fs w rfl _ _ rfl w.heap.size (.slice none 0 0) [] xs a cap rfl hown rfl hl (Nat.le_refl _) (by simpa using few) ?ap)
  case ap =>
    intro v' w1 ho hg
    have hb1 : Below w.heap.size w w1 := (Below.refl _ _).grown hg (Nat.le_refl _) (fun k hk => by cases hk)
    obtain ⟨a1, c1, rfl, hO⟩ := own_facts ho few
    clear ho hg hown
    by_cases h0 : xs = []
    · subst h0
      go_wp2_with fail
      refine (hS _ _ _ _).mono ?_; rintro e w2 ⟨rfl, rfl⟩
      go_wp2_with fail
      refine (hK _ _ _ _).mono ?_; rintro e w2 ⟨rfl, rfl⟩
      go_wp2_with fail
      go_ret
      exact ⟨a1, c1, [], rfl, hO, fun _ h => h, by rw [List.map_nil]; unfold sortF; rfl, hb1⟩
    · have hpos : 0 < xs.length := List.length_pos_iff.2 h0
      cases a1 with
      | none => exact absurd (hO.void rfl).1 h0
      | some ad =>
        obtain ⟨g, rfl, hg0, hg1, hrow⟩ := hO.row ad rfl
        have hsort := sort_at w w1 g c1 xs hx hb1 hg0 hrow hg1 (by omega)
        go_wp2_with fail
        refine hsort.mono ?_; rintro e w2 ⟨rfl, zs, hp, hs, hrow2, hbut⟩
        have hlen : zs.length = xs.length := hp.length_eq
        have hcp := compact_at w w2 g c1 zs (fun x hx' => hx x (hp.mem_iff.1 hx')) (hb1.trans (hbut.lower hg0 hb1.size)) hg0 hrow2 (Nat.lt_of_lt_of_le hg1 hbut.size) (by have := hO.room; omega) (by omega)
        rw [hlen] at hcp
        have e1 := hideP (kept_sortF xs zs hp hs)
        have e2 := hideP (kept_in xs zs hp)
        rw [hlen] at e1 e2
        have e3 : (kept cV zs xs.length).length ≤ xs.length := kept_len cV zs xs.length (by omega)
        generalize kept cV zs xs.length = ys at *
        have E3 := hideP e3; clear e3
        go_wp2_with fail
        refine hcp.mono ?_; rintro e w3 ⟨rfl, hrow3, hbut3⟩
        go_wp2_with fail
        go_ret
        have e3 := E3.out
        have hroom := hO.room
        refine ⟨some ⟨g, 0, none⟩, c1, ys, rfl, ⟨by omega, hO.most, by omega, (fun h => by cases h), fun ad ha => ?_⟩, e2.out, e1.out, hb1.trans ((hbut.trans hbut3).lower hg0 hb1.size)⟩
        cases ha
        exact ⟨g, rfl, hg0, Nat.lt_of_lt_of_le hg1 (hbut.trans hbut3).size, hrow3⟩

end Go.Proofs.YtdehimbfcilhpaaGreatDoor

/-
  Sorted: a list in order, each once, in memory of its own, the Args too.
-/
namespace Go.Proofs.YtdehimbfcilhpaaGreatDoor
open Go.RowKit Go.Sort

/-- a fact's Args lie in another block than g -/
def Fv.Apart (g : Nat) (x : Fv) : Prop := ∀ ad, x.a = some ad → ad.block ≠ g
theorem Fv.At.but {w w' : World} {x : Fv} {g : Nat} (h : Fv.At w x) (ho : Fv.Apart g x) (hb : But g w w') : Fv.At w' x :=
  ⟨h.room, h.few, h.void, fun ad ha j u hu => by
    have hc := h.cells ad ha j u hu
    rw [hb.cell (by rw [addr_add_block]; exact ho ad ha) (cell_block hc)]
    exact hc⟩
/-- .. in memory that is no older than base -/
def Fv.New (base : Nat) (x : Fv) : Prop := ∀ ad, x.a = some ad → base ≤ ad.block

theorem TagK.but {w w' : World} {a : Option Addr} {g : Nat} (h : TagK w a) (ho : ∀ ad, a = some ad → ad.block ≠ g) (hb : But g w w') : TagK w' a := fun ad ha => by
  obtain ⟨cur, hc⟩ := h ad ha
  exact ⟨cur, (hb.block _ (heap_lt hc) (ho ad ha)).trans hc⟩

set_option maxHeartbeats 2000000 in
theorem sorted_at (a : Option Addr) (cap : Nat) (xs : List Fv) (w : World) (hl : Lies w a cap xs) (hx : ∀ x ∈ xs, Fv.At w x) : Calls Tryz.prog 31 #[.slice a xs.length cap] w
    fun e w' => ∃ a' c' zs, e = .returned (.slice a' zs.length c') ∧ OwF w' w.heap.size a' c' zs ∧ (∀ z ∈ zs, Fv.At w' z ∧ Fv.New w.heap.size z ∧ (∀ ad, a' = some ad → Fv.Apart ad.block z) ∧ TagK w' z.a) ∧ zs.map Fv.f = sortF (xs.map Fv.f) ∧ Below w.heap.size w w' := by
  have hO := ordered_at a cap xs w hl hx
  have hC := fun (x : Fv) (W : World) (h : Fv.At W x) => clone_at x W h
  go_enter Tryz.func31, Tryz.ntmps31
  go_wp2_with fail
  refine hO.mono ?_; rintro e w1 ⟨a1, c1, ys, rfl, hO1, hin, hsort, hb1⟩
  have Hsort := hideP hsort; clear hsort
  have few := hO1.few
  by_cases h0 : ys.length = 0
  · obtain rfl : ys = [] := List.eq_nil_of_length_eq_zero h0
    go_wp2_with fail
    go_loopw [4, 9] (fun _ v wr => v = .int .i64 0 ∧ w1 = wr) (fun _ _ _ => 0)
    case atStart => exact ⟨rfl, rfl⟩
    case round =>
      obtain ⟨rfl, rfl⟩ := hrel
      go_wp2_with fail
      go_ret
      exact ⟨a1, c1, [], rfl, hO1, fun _ h => by simp at h, Hsort.out, hb1⟩
  · cases a1 with
    | none => exfalso; have := (hO1.void rfl).1; subst this; simp at h0
    | some ad =>
      obtain ⟨g, rfl, hg0, hg1, hrow⟩ := hO1.row ad rfl
      go_wp2_with fail
      go_loopw [4, 9] (fun _ v wr => ∃ (i : Nat) (Z : List Fv), v = .int .i64 (i : Int) ∧ i ≤ ys.length ∧ Hid (Z.length = i) ∧ Hid (Z.map Fv.f = (ys.take i).map Fv.f) ∧ RowF wr g (Z ++ ys.drop i) ∧ (∀ z ∈ Z, Fv.At wr z ∧ Fv.New w.heap.size z ∧ Fv.Apart g z ∧ TagK wr z.a) ∧ But g w1 wr) (fun _ v _ => ys.length - (intOf v).toNat)
      case atStart => exact ⟨0, [], rfl, by omega, rfl, rfl, by simpa using hrow, fun _ h => by simp at h, But.refl _ _⟩
      case round =>
        obtain ⟨i, Z, rfl, hi, hZ, hZf, hR, hat, hbut⟩ := hrel
        by_cases hlt : i < ys.length
        · have q1 : (i : Int) < (ys.length : Int) := by omega
          have hz := hZ.out
          have hRl : (Z ++ ys.drop i).length = ys.length := by simp; omega
          have hil : i < (Z ++ ys.drop i).length := by omega
          have gi : (Z ++ ys.drop i)[i]'hil = ys[i]'hlt := by
            rw [List.getElem_append_right (by omega), List.getElem_drop]; congr 1; omega
          obtain ⟨a1, a2, a3, a4⟩ := hR.get i hil
          rw [gi] at a1 a2 a3 a4
          have hBw : Below w.heap.size w wr := hb1.trans (hbut.lower hg0 hb1.size)
          have hcl := hC (ys[i]'hlt) wr ((hx _ (hin _ (List.getElem_mem hlt))).below hBw (Nat.le_refl _))
          have hset : ∀ x : Fv, (Z ++ ys.drop i).set i x = (Z ++ [x]) ++ ys.drop (i + 1) := fun x => by
            rw [List.set_append_right _ _ (by omega), List.drop_eq_getElem_cons hlt, show i - Z.length = 0 by omega, List.set_cons_zero, List.append_assoc]
            rfl
          have hyf : Hid ((ys.take (i + 1)).map Fv.f = (ys.take i).map Fv.f ++ [(ys[i]'hlt).f]) := by
            show _ = _
            rw [List.take_succ_eq_append_getElem hlt, List.map_append]; rfl
          generalize (ys[i]'hlt) = p at *
          have Hz := hideP hz; have HRl := hideP hRl; have Hset := hideP hset; clear hz hRl hset gi
          go_wp2_with fail
          refine hcl.mono ?_
          rintro e w2 ⟨a', c', rfl, hA, hF, hB2, hT2⟩
          have hgr : g < wr.heap.size := Nat.lt_of_lt_of_le hg1 hbut.size
          have hR2 := hR.below hB2 hgr
          obtain ⟨c1', c2', c3', c4'⟩ := hR2.get i hil
          obtain ⟨f1, f2, f3, f4⟩ := hR2.thaw i hil
          have hst := hR2.store i hil { p with a := a', cap := c' }
          rw [Hset.out] at hst
          generalize (Z ++ ys.drop i)[i]'hil = old at *
          clear a1 a2 a3 a4 hcl hil
          go_wp2_with fail
          have hbut2 : But g w2 ((((w2.setCell ⟨g, i * 4, none⟩ (str p.at_)).setCell ⟨g, i * 4 + 1, none⟩ (str p.by_)).setCell ⟨g, i * 4 + 2, none⟩ (str p.pred)).setCell ⟨g, i * 4 + 3, none⟩ (.slice a' p.ks.length c')) := ((((But.refl g w2).set _ _).set _ _).set _ _).set _ _
          have hw2 : w1.heap.size ≤ wr.heap.size := hbut.size
          refine ⟨⟨i + 1, Z ++ [{ p with a := a', cap := c' }], by simp, by omega, ?_, ?_, hst, ?_, (hbut.below hB2).trans hbut2⟩, by simp [intOf]; omega⟩
          · show _ = _; rw [List.length_append, Hz.out]; rfl
          · show _ = _
            rw [hyf.out, List.map_append, hZf.out]; rfl
          · intro z hz'
            rcases List.mem_append.1 hz' with hz' | hz'
            · obtain ⟨h1, h2, h3, h4⟩ := hat z hz'
              exact ⟨(h1.below hB2 (Nat.le_refl _)).but h3 hbut2, h2, h3, (h4.below hB2).but h3 hbut2⟩
            · rw [List.mem_singleton] at hz'
              subst hz'
              have hap : Fv.Apart g { p with a := a', cap := c' } := fun ad ha => by have := hF ad ha; omega
              refine ⟨Fv.At.but (x := { p with a := a', cap := c' }) hA hap hbut2, fun ad ha => ?_, hap, TagK.but hT2 hap hbut2⟩
              have := hF ad ha
              have := hb1.size
              omega
        · have q1 : ¬ (i : Int) < (ys.length : Int) := by omega
          have e1 : i = ys.length := by omega
          subst e1
          have hz := hZ.out
          have hR' : RowF wr g Z := hR.take
          have Hf : Hid (Z.map Fv.f = sortF (xs.map Fv.f)) := by show _ = _; rw [hZf.out, List.take_length, Hsort.out]
          have Hz := hideP hz; clear hz
          rw [show ys.length = Z.length from Hz.out.symm]
          go_wp2_with fail
          go_ret
          have hroom := hO1.room
          refine ⟨some ⟨g, 0, none⟩, c1, Z, rfl, ⟨by rw [Hz.out]; exact hroom, hO1.most, by rw [Hz.out]; exact few, (fun h => by cases h), fun ad ha => ?_⟩, fun z hz' => ?_, Hf.out, hb1.trans (hbut.lower hg0 hb1.size)⟩
          · cases ha
            exact ⟨g, rfl, hg0, Nat.lt_of_lt_of_le hg1 hbut.size, hR'⟩
          · obtain ⟨h1, h2, h3, h4⟩ := hat z hz'
            exact ⟨h1, h2, (fun ad ha => by cases ha; exact h3), h4⟩

end Go.Proofs.YtdehimbfcilhpaaGreatDoor
