/-
  Put: a fact more.
-/
import Derived.Test.YtomiefhfkdfgbaaRu15
import Derived.Test.YtomiefhfkdfgbaaBs15
import Derived.Test.YtomiefhfkdfgbaaTc15
import Derived.Test.YtomiefhfkdfgbaaCk15
namespace Go.Proofs.Ytomiefhfkdfgbaa
open Go.RowKit Go.Sort

def putCode (n : Nat) : Int := if n = 0 then 0 else if n = 1 then 40 else if n = 2 then 151 else 150
/-- what Put, Take do to a table's world -/
structure Did (b : Nat) (w w' : World) : Prop where
  but : But b w w'
  tab : ∃ C C' : Array Value, w.heap[b]? = some (.cells C 66) ∧ w'.heap[b]? = some (.cells C' 66)
theorem Did.same {b : Nat} {w w' : World} {C : Array Value} (h : Below w.heap.size w w') (hc : w.heap[b]? = some (.cells C 66)) : Did b w w' := ⟨But.of_below h, C, C, hc, below_heap h hc⟩
theorem Did.trans {b : Nat} {x y z : World} (h : Did b x y) (k : Did b y z) : Did b x z := by
  obtain ⟨C, _, h1, _⟩ := h.tab
  obtain ⟨_, D, _, k2⟩ := k.tab
  exact ⟨h.but.trans k.but, C, D, h1, k2⟩
theorem Did.s3 {b : Nat} {w w' : World} (h : Did b w w') : S3 w w' := by
  obtain ⟨C, _, h1, _⟩ := h.tab
  exact S3.but h.but h1 (by decide) (by decide) (by decide)
theorem Did.safe {b : Nat} {w w' : World} {ty : TypeId} (h : Did b w w') (hn : ty ≠ 66) : Safe ty w w' := by
  obtain ⟨C, _, h1, _⟩ := h.tab
  exact Safe.but h.but h1 hn
/-- three rows in a slice literal -/
theorem row_three (w : World) (s1 s2 s3 : Sl) : Row slK (w.alloc (.cells #[.slice s1.a s1.ps.length s1.cap, .slice s2.a s2.ps.length s2.cap, .slice s3.a s3.ps.length s3.cap] 64)) (some ⟨w.heap.size, 0, none⟩) 3 [s1, s2, s3] :=
  ⟨by simp, by simp, (fun h => by cases h), fun ad ha j u hu => by
    cases ha
    rw [Addr.add_lit, heap_cell (heap_alloc_new w _), Nat.zero_add]
    simpa [slK] using hu⟩
theorem row_two (w : World) (s1 s2 : Sl) : Row slK (w.alloc (.cells #[.slice s1.a s1.ps.length s1.cap, .slice s2.a s2.ps.length s2.cap] 64)) (some ⟨w.heap.size, 0, none⟩) 2 [s1, s2] :=
  ⟨by simp, by simp, (fun h => by cases h), fun ad ha j u hu => by
    cases ha
    rw [Addr.add_lit, heap_cell (heap_alloc_new w _), Nat.zero_add]
    simpa [slK] using hu⟩
theorem Row.drew {α : Type} {D : Kd α} {w : World} {a : Option Addr} {c : Nat} {xs : List α} (h : Row D w a c xs) : Row D w.drew a c xs := h.below (Below.refl _ _).drew (Nat.le_refl _)
/-- a slice of pointers as an operation of Put's region yields it -/
def ListV (a : Option Addr) (cap n : Nat) (v : Value) (_ : World) : Prop := v = .slice a n cap
def OneV (B q : Nat) (v : Value) (W : World) : Prop := ∃ k, v = .slice (some ⟨k, 0, none⟩) 1 1 ∧ B ≤ k ∧ W.heap[k]? = some (.cells #[ptr q] 72)
theorem OneV.next {B q : Nat} {v : Value} {w w' : World} (h : OneV B q v w) (hb : Below w.heap.size w w') : OneV B q v w' := by
  obtain ⟨k, h1, h2, h3⟩ := h
  exact ⟨k, h1, h2, below_heap hb h3⟩
theorem map_take_drop {α β : Type} (f : α → β) (l : List α) (i : Nat) (x : α) : (l.take i ++ x :: l.drop i).map f = (l.map f).take i ++ f x :: (l.map f).drop i := by simp [List.map_take, List.map_drop]
theorem okB_few {x : F} (h : okB x = true) : x.ks.length ≤ 48 := by
  unfold okB okP at h
  simp only [Bool.and_eq_true, Bool.not_eq_true', decide_eq_false_iff_not] at h
  have := h.1.2
  omega
theorem pred_len {l m : Nat} (h : ¬ (m : Int) ≤ (l : Int)) : l < m := by omega
theorem exec_load_cel {P : Program} {o : Oper} {a : Act} {w : World} (ty : TypeId) (x : Operand) (ho : o.op = .load ty x) (V off : Nat) (v : Value) (hx : a.eval x = .pointer (some ⟨V, off, none⟩)) (hag : ∀ w, (isAgg ty).run P w = .ok false w) (hc : w.cell? ⟨V, off, none⟩ = some v) : (execOp a.eval o).run P w = .ok (.value v) w := by
  simp [execOp, ho, hx, Instr.loadAt, Instr.sureAddr, loadVar, hag, hc, Result.andThen]
theorem wpOp_alloc15 {P : Program} {ops : Array Oper} {Q : Exit → Act → World → Prop} {i : Nat} {K : Act → World → Prop} {a : Act} {w : World} {o : Oper} (hi : ops[i]? = some o) (hgd : o.guard = none) (v : Value) (b : Obj) (he : (execOp a.eval o).run P w = .ok (.value v) (w.alloc b)) (h : K (a.put o.dst v) (w.alloc b)) : wpOp P ops Q i K a w := by
  refine wpOp_of hi hgd ?_
  unfold Oper.wp
  rw [he]
  exact h
theorem row_blk {w : World} {k q : Nat} {y : Fv} (h : w.heap[k]? = some (.cells #[ptr q] 72)) : Row pnK w (some ⟨k, 0, none⟩) 1 [⟨q, y⟩] :=
  ⟨by simp, by simp, (fun h => by cases h), fun ad ha j u hu => by
    cases ha
    rw [Addr.add_lit, heap_cell h, Nat.zero_add]
    simpa [pnK] using hu⟩

set_option maxRecDepth 100000 in
set_option maxHeartbeats 4000000 in
theorem put_full {b m : Nat} {a : Option Addr} {cap : Nat} {ps : List Pn} (x : Fv) (w : World) (h : TabAt w b m a cap ps) (hx : Fv.At w x) :
    Calls Try.prog 12 #[ptr b, x.val] w fun e w' => e = .returned (.int .i64 (putCode (Tb.putE okB m (ps.map Pn.f) x.f))) ∧ (∃ a' cap' ps', TabAt w' b m a' cap' ps' ∧ ps'.map Pn.f = Tb.put okB m (ps.map Pn.f) x.f ∧ ∀ p ∈ ps', p ∈ ps ∨ (w.heap.size ≤ p.q ∧ ∀ ad, p.x.a = some ad → w.heap.size ≤ ad.block)) ∧ Did b w w' := by
  have iF : (Try.prog.info? 34).map (·.size) = some 4 := by kernel_rfl
  have iS : (Try.prog.info? 64).map (·.size) = some 1 := by kernel_rfl
  have TF := Try.underlying34
  have hm : (0 : Int) < (m : Int) := by have := h.low; omega
  have A1 := below_alloc w (.cells #[str x.at_, str x.by_, str x.pred, .slice x.a x.ks.length x.cap] 34)
  have H1 := heap_alloc_new w (.cells #[str x.at_, str x.by_, str x.pred, .slice x.a x.ks.length x.cap] 34)
  have T1 := h.below A1
  have X1 : Fv.At (w.alloc (.cells #[str x.at_, str x.by_, str x.pred, .slice x.a x.ks.length x.cap] 34)) x := hx.below A1 (Nat.le_refl _)
  have HC := h.cell
  obtain ⟨E, hEE⟩ : ∃ E, E = Tb.putE okB m (ps.map Pn.f) x.f := ⟨_, rfl⟩
  obtain ⟨PP, hPP⟩ : ∃ PP, PP = Tb.put okB m (ps.map Pn.f) x.f := ⟨_, rfl⟩
  rw [← hEE, ← hPP]
  have HEE := hideP hEE
  have HPP := hideP hPP
  clear hEE hPP
  go_enter Try.func12, Try.ntmps12
  go_wp2_with fail
  generalize hW1 : w.alloc (.cells #[str x.at_, str x.by_, str x.pred, .slice x.a x.ks.length x.cap] 34) = W1 at *
  clear hW1
  refine (fromNew_at b m _ W1 T1.cell).mono ?_
  rintro e W2 ⟨rfl, rfl⟩
  rw [decide_eq_true hm]
  go_wp2_with (refine wpList_load_all rfl 34 _ rfl w.heap.size 4 34 (fv x) _ rfl H1 rfl TF rfl iF ?_)
  refine (check_at x _ X1).mono ?_
  rintro e W2 ⟨rfl, B2⟩
  have H2 := below_heap B2 H1
  have T2 := T1.below B2
  have X2 : Fv.At W2 x := ArgsAt.below X1 B2 (Nat.le_refl _)
  have C2 := Below.then A1 B2
  clear T1 X1 H1 A1 B2
  cases hok : okB x.f
  · have hE : Tb.putE okB m (ps.map Pn.f) x.f = 1 := by unfold Tb.putE; rw [if_pos hok]
    have hP : Tb.put okB m (ps.map Pn.f) x.f = ps.map Pn.f := by unfold Tb.put; rw [hE]; rfl
    obtain rfl := HEE.out.trans hE
    obtain rfl := HPP.out.trans hP
    simp only [errno, cond_false]
    go_wp2_with fail
    go_ret
    exact ⟨rfl, ⟨a, cap, ps, T2, rfl, fun p hp => .inl hp⟩, Did.same C2 HC⟩
  simp only [errno, cond_true]
  go_wp2_with (refine wpList_load_all rfl 34 _ rfl w.heap.size 4 34 (fv x) _ rfl H2 rfl TF rfl iF ?_)
  refine (find_at x _ T2 X2).mono ?_
  rintro e W3 ⟨⟨i, rfl, hi, hlo, hhi⟩, G3⟩
  have H3 := below_heap G3.below H2
  have T3 := T2.below G3.below
  have X3 : Fv.At W3 x := X2.grew G3
  have C3 := Below.then C2 G3.below
  have LO := hideP hlo
  have HI := hideP hhi
  have Gi := hideP hi
  clear T2 X2 H2 G3 C2 hlo hhi hi
  cases hhas : hasF (ps.map Pn.f) x.f
  · have hnm : x.f ∉ ps.map Pn.f := fun hm => by rw [(hasF_iff _ _).2 hm] at hhas; cases hhas
    have cT := T3.cell
    have c0 := heap_cell cT 0
    have c1 := heap_cell cT 1
    simp at c0 c1
    by_cases hfull : (m : Int) ≤ (ps.length : Int)
    · have hE : Tb.putE okB m (ps.map Pn.f) x.f = 3 := by unfold Tb.putE; rw [hok, hhas]; simp; omega
      have hP : Tb.put okB m (ps.map Pn.f) x.f = ps.map Pn.f := by unfold Tb.put; rw [hE]; rfl
      obtain rfl := HEE.out.trans hE
      obtain rfl := HPP.out.trans hP
      clear LO HI hhas hok hnm
      go_wp2_with fail
      go_region
      go_wp2_with fail
      go_ret
      exact ⟨rfl, ⟨a, cap, ps, T3.below (Below.refl _ _).drew, rfl, fun p hp => .inl hp⟩, (Did.same C3 HC).trans (Did.same (Below.refl _ _).drew T3.cell)⟩
    · have hroom := pred_len hfull
      have hE : Tb.putE okB m (ps.map Pn.f) x.f = 0 := Tb.putE_zero.2 ⟨hok, hnm, by rw [List.length_map]; exact hroom⟩
      have hP : Tb.put okB m (ps.map Pn.f) x.f = (ps.map Pn.f).take i ++ x.f :: (ps.map Pn.f).drop i := by
        unfold Tb.put; rw [if_pos hE]
        rw [ins_at x.f (ps.map Pn.f) i (by rw [List.length_map]; exact Gi.out) (fun j hj hji => by rw [List.getElem_map]; exact LO.out j (by simpa using hj) hji) (fun hk => by rw [List.getElem_map]; have := HI.out i (by simpa using hk) (Nat.le_refl _); omega)]
        split
        · rename_i hk
          rw [if_neg (fun h0 => hnm (by rw [← (cF_zero _ _).1 h0]; exact List.getElem_mem hk))]
        · rfl
      obtain rfl := HEE.out.trans hE
      have HP := hideP (HPP.out.trans hP)
      have hsort : SS ((ps.map Pn.f).take i ++ x.f :: (ps.map Pn.f).drop i) := by rw [← hP]; exact Tb.put_SS T3.sorted
      clear LO HI hhas hP hE
      have hk48 := okB_few hok
      go_wp2_with fail
      go_region
      go_wp2_with (refine wpList_load_all rfl 34 _ rfl w.heap.size 4 34 (fv x) _ rfl H3 rfl TF rfl iF ?_)
      have D0 : Below W3.heap.size W3 W3.drew := (Below.refl _ _).drew
      have T3d := T3.below D0
      have C3d := C3.drew
      refine (tcopy_at x W3.drew (hx.below C3d (Nat.le_refl _)) (by show x.f.ks.length ≤ _; omega)).mono ?_
      rintro e W4 ⟨ya, yc, rfl, YR, YN, B4⟩
      have T4 := T3d.below B4
      have C4 := Below.then C3d B4
      have hW34 : W3.drew.heap.size ≤ W4.heap.size := B4.size
      have hN := heap_alloc_new W4 (.cells #[.string { data := #[] }, .string { data := #[] }, .string { data := #[] }, .slice none 0 0] 34)
      have hyn : ∀ ad, ({ x with a := ya, cap := yc } : Fv).a = some ad → w.heap.size ≤ ad.block := fun ad ha => Nat.le_trans C3d.size (YN ad ha)
      clear T3 T3d C3 C3d H3 X3 B4 c0 c1 cT
      go_wp2_with (refine wpList_store_all rfl 34 _ _ rfl W4.heap.size 4 _ 34 (fv { x with a := ya, cap := yc }) rfl rfl hN rfl rfl iF rfl ?_; intro W5 H5 d5)
      have B5 := below_tok d5
      have T5 := T4.below B5
      have C5 := Below.then C4 B5
      have YR5 := YR.safe (Safe.below B5)
      have I5 : InAt W5 ⟨W4.heap.size, { x with a := ya, cap := yc }⟩ := ⟨H5, YR5⟩
      have hqn : w.heap.size ≤ W4.heap.size := C4.size
      clear T4 C4 YR YR5 H5 d5 hN B5 YN
      generalize W4.heap.size = q at *
      generalize hy : ({ x with a := ya, cap := yc } : Fv) = y at *
      have hyf : y.f = x.f := by rw [← hy]; rfl
      have hya : y.a = ya := by rw [← hy]
      clear hy
      refine wp_region_held (S := fun _ => True) (by kernel_rfl) ?_
      change wpAnyH _ _ _ _ _ _ _ _ W5.drew
      have D5 : Below W5.heap.size W5 W5.drew := (Below.refl _ _).drew
      have T6 := T5.below D5
      have I6 : InAt W5.drew ⟨q, y⟩ := I5.safe (S3.below D5)
      have C6 := Below.then C5 D5
      clear T5 I5 C5 D5
      generalize W5.drew = W6 at *
      have hap := T6.lst.row.row.room
      have cS : ∀ X, Below W6.heap.size W6 X → X.cell? ⟨b, 1, none⟩ = some (.slice a ps.length cap) := fun X hX => by rw [heap_cell (below_heap hX T6.cell)]; rfl
      have hHeld := Below.refl W6.heap.size W6
      have hi := Gi.out
      refine wpAnyH_take (i := 0) (v := ptr b) rfl (by kernel_rfl) (by kernel_rfl) (by kernel_rfl) (fun _ _ _ h => h) (Or.inl ⟨by kernel_rfl, fun w hSw => by kernel_rfl⟩) trivial ?_
      refine wpAnyH_take (i := 1) (v := ptr b) rfl (by kernel_rfl) (by kernel_rfl) (by kernel_rfl) (fun _ _ _ h => h) (Or.inl ⟨by kernel_rfl, fun w hSw => by kernel_rfl⟩) trivial ?_
      refine wpAnyH_take (i := 2) (v := ptr b) rfl (by kernel_rfl) (by kernel_rfl) (by kernel_rfl) (fun _ _ _ h => h) (Or.inl ⟨by kernel_rfl, fun w hSw => by kernel_rfl⟩) trivial ?_
      refine wpAnyH_take (i := 3) (v := .pointer (some ⟨b, 1, none⟩)) rfl (by kernel_rfl) (by kernel_rfl) (by kernel_rfl) (fun _ _ _ h => h) (Or.inl ⟨by kernel_rfl, fun w hSw => by kernel_rfl⟩) trivial ?_
      refine wpAnyH_take (i := 5) (v := .int .i64 (i : Int)) rfl (by kernel_rfl) (by kernel_rfl) (by kernel_rfl) (fun _ _ _ h => h) (Or.inl ⟨by kernel_rfl, fun w hSw => by kernel_rfl⟩) trivial ?_
      refine wpAnyH_take (i := 8) (v := ptr b) rfl (by kernel_rfl) (by kernel_rfl) (by kernel_rfl) (fun _ _ _ h => h) (Or.inl ⟨by kernel_rfl, fun w hSw => by kernel_rfl⟩) trivial ?_
      refine wpAnyH_take (i := 9) (v := ptr b) rfl (by kernel_rfl) (by kernel_rfl) (by kernel_rfl) (fun _ _ _ h => h) (Or.inl ⟨by kernel_rfl, fun w hSw => by kernel_rfl⟩) trivial ?_
      refine wpAnyH_take (i := 10) (v := .pointer (some ⟨b, 1, none⟩)) rfl (by kernel_rfl) (by kernel_rfl) (by kernel_rfl) (fun _ _ _ h => h) (Or.inl ⟨by kernel_rfl, fun w hSw => by kernel_rfl⟩) trivial ?_
      refine wpAnyH_take (i := 12) (v := .int .i64 (i : Int)) rfl (by kernel_rfl) (by kernel_rfl) (by kernel_rfl) (fun _ _ _ h => h) (Or.inl ⟨by kernel_rfl, fun w hSw => by kernel_rfl⟩) trivial ?_
      refine Sb.each (fun _ X X' => Below X.heap.size X X') (fun _ _ => true) (fun X => Below W6.heap.size W6 X) (fun _ X X' h b => Below.then h b) [4, 6, 7, 11, 13] (fun | 4 => 40 | 6 => 42 | 7 => 43 | 11 => 47 | _ => 49) (fun | 6 => [4] | 13 => [11] | _ => []) (fun | 6 => ListV a cap i | 7 => OneV W6.heap.size q | 13 => ListV (cutT 1 a cap i) (cap - i) (ps.length - i) | _ => ListV a cap ps.length) 5 _ _ (by kernel_rfl) (by kernel_rfl) (by kernel_rfl) ?st ?op ?fin W6 trivial hHeld
      case st =>
        intro j _ _ v X X' hR hb
        match j with
        | 7 => exact OneV.next hR hb
        | 6 => exact hR
        | 13 => exact hR
        | 0 | 1 | 2 | 3 | 4 | 5 | 8 | 9 | 10 | 11 | 12 | _ + 14 => exact hR
      case op =>
        intro j hj o ho g X _ hG hdone
        simp only [List.mem_cons, List.not_mem_nil, or_false] at hj
        rcases hj with rfl | rfl | rfl | rfl | rfl
        · have ho' := Option.some.inj ho
          have hop : o.op = .load 64 (.tmp 39) := (congrArg Oper.op ho').symm.trans (by kernel_rfl)
          have hod : o.dst = some 40 := (congrArg Oper.dst ho').symm.trans (by kernel_rfl)
          clear ho ho'
          refine Sb.val (.slice a ps.length cap) (w' := X) (exec_load_cel 64 _ hop b 1 _ (by kernel_rfl) Try.isAgg64 (cS X hG)) ?_
          rw [hod]
          exact ⟨_, rfl, trivial, Below.refl _ _, rfl⟩
        · have ho' := Option.some.inj ho
          have hop : o.op = .slice 64 (.tmp 40) none (some (.tmp 41)) none := (congrArg Oper.op ho').symm.trans (by kernel_rfl)
          have hod : o.dst = some 42 := (congrArg Oper.dst ho').symm.trans (by kernel_rfl)
          clear ho ho'
          have e4 : g 4 = .slice a ps.length cap := hdone 4 (by decide) (fun _ _ _ _ => rfl)
          simp only [List.foldl_cons, List.foldl_nil]
          rw [e4]
          refine Sb.val (.slice a i cap) (w' := X) (exec_slice 64 _ _ _ none (some (.int .i64 (i : Int))) hop (by kernel_rfl) (by kernel_rfl) (by kernel_rfl) (run_head a ps.length cap i X (by omega))) ?_
          rw [hod]
          exact ⟨_, rfl, trivial, Below.refl _ _, rfl⟩
        · have ho' := Option.some.inj ho
          have hop : o.op = .buildSlice 64 1 #[(0, .tmp 8)] := (congrArg Oper.op ho').symm.trans (by kernel_rfl)
          have hod : o.dst = some 43 := (congrArg Oper.dst ho').symm.trans (by kernel_rfl)
          clear ho ho'
          refine Sb.val (.slice (some ⟨X.heap.size, 0, none⟩) 1 1) (w' := X.alloc (.cells #[ptr q] 72)) (exec_build _ _ _ #[(0, ptr q)] hop (by kernel_rfl) (build_ptr q X)) ?_
          rw [hod]
          exact ⟨_, rfl, trivial, below_alloc _ _, X.heap.size, rfl, hG.size, heap_alloc_new _ _⟩
        · have ho' := Option.some.inj ho
          have hop : o.op = .load 64 (.tmp 46) := (congrArg Oper.op ho').symm.trans (by kernel_rfl)
          have hod : o.dst = some 47 := (congrArg Oper.dst ho').symm.trans (by kernel_rfl)
          clear ho ho'
          refine Sb.val (.slice a ps.length cap) (w' := X) (exec_load_cel 64 _ hop b 1 _ (by kernel_rfl) Try.isAgg64 (cS X hG)) ?_
          rw [hod]
          exact ⟨_, rfl, trivial, Below.refl _ _, rfl⟩
        · have ho' := Option.some.inj ho
          have hop : o.op = .slice 64 (.tmp 47) (some (.tmp 48)) none none := (congrArg Oper.op ho').symm.trans (by kernel_rfl)
          have hod : o.dst = some 49 := (congrArg Oper.dst ho').symm.trans (by kernel_rfl)
          clear ho ho'
          have e4 : g 11 = .slice a ps.length cap := hdone 11 (by decide) (fun _ _ _ _ => rfl)
          simp only [List.foldl_cons, List.foldl_nil]
          rw [e4]
          refine Sb.val (.slice (cutT 1 a cap i) (ps.length - i) (cap - i)) (w' := X) (exec_slice 64 _ _ _ (some (.int .i64 (i : Int))) none hop (by kernel_rfl) (by kernel_rfl) (by kernel_rfl) (run_tail a ps.length cap i X hi)) ?_
          rw [hod]
          exact ⟨_, rfl, trivial, Below.refl _ _, rfl⟩
      case fin =>
        intro g X _ hG hg
        have e4 : g 4 = .slice a ps.length cap := hg 4 (by decide) (fun _ _ _ => rfl)
        obtain ⟨k, e7, hk, hK⟩ := hg 7 (by decide) (fun _ _ _ => rfl)
        have e11 : g 11 = .slice a ps.length cap := hg 11 (by decide) (fun _ _ _ => rfl)
        have e6 : g 6 = .slice a i cap := hg 6 (by decide) (fun _ _ _ => rfl)
        have e13 : g 13 = .slice (cutT 1 a cap i) (ps.length - i) (cap - i) := hg 13 (by decide) (fun _ _ _ => rfl)
        simp only [List.foldl_cons, List.foldl_nil]
        rw [e4, e6, e7, e11, e13]
        clear hg e4 e7 e11 e6 e13 g
        have RX := (T6.below hG).lst.row.row
        have R1 : Row pnK X a cap (ps.take i) := RX.cutH i hi
        have R3 : Row pnK X (cutT 1 a cap i) (cap - i) (ps.drop i) := RX.cutT i hi
        have R2 : Row pnK X (some ⟨k, 0, none⟩) 1 [⟨q, y⟩] := row_blk hK
        refine wpAnyH_one 14 (by kernel_rfl) ?_
        refine wpOp_alloc15 rfl rfl (.slice (some ⟨X.heap.size, 0, none⟩) 3 3) (.cells #[.slice a i cap, .slice (some ⟨k, 0, none⟩) 1 1, .slice (cutT 1 a cap i) (ps.length - i) (cap - i)] 64) (exec_build 86 3 #[(0, .tmp 42), (1, .tmp 43), (2, .tmp 49)] #[(0, .slice a i cap), (1, .slice (some ⟨k, 0, none⟩) 1 1), (2, .slice (cutT 1 a cap i) (ps.length - i) (cap - i))] (by kernel_rfl) (by kernel_rfl) (build_three _ _ _ _ _ _ _ _ _ X)) ?_
        refine ⟨trivial, ?_⟩
        have A7 := below_alloc X (.cells #[.slice a i cap, .slice (some ⟨k, 0, none⟩) 1 1, .slice (cutT 1 a cap i) (ps.length - i) (cap - i)] 64)
        have L7 := row_three X ⟨a, cap, ps.take i⟩ ⟨some ⟨k, 0, none⟩, 1, [⟨q, y⟩]⟩ ⟨cutT 1 a cap i, cap - i, ps.drop i⟩
        have l1 : (ps.take i).length = i := by rw [List.length_take]; omega
        have l3 : (ps.drop i).length = ps.length - i := List.length_drop
        simp only [l1, l3, List.length_cons, List.length_nil, Nat.zero_add] at L7
        have hfl : flats [⟨a, cap, ps.take i⟩, ⟨some ⟨k, 0, none⟩, 1, [⟨q, y⟩]⟩, ⟨cutT 1 a cap i, cap - i, ps.drop i⟩] = ps.take i ++ ⟨q, y⟩ :: ps.drop i := by simp [flats]
        have hll : (ps.take i ++ (⟨q, y⟩ : Pn) :: ps.drop i).length = ps.length + 1 := by rw [List.length_append, List.length_cons, l1, l3]; omega
        have hhi := T6.high
        have TC := (concat_at (some ⟨X.heap.size, 0, none⟩) 3 _ _ L7 (fun s hs => by
          simp only [List.mem_cons, List.not_mem_nil, or_false] at hs
          rcases hs with rfl | rfl | rfl
          · exact R1.below A7 (Nat.le_refl _)
          · exact R2.below A7 (Nat.le_refl _)
          · exact R3.below A7 (Nat.le_refl _)) (by unfold total; rw [hfl, hll]; omega)).mono (R' := fun e w' => ∃ v, e = .returned v ∧ ∃ a' c', v = .slice a' (ps.length + 1) c' ∧ RowT pnK 72 w' a' c' (ps.take i ++ ⟨q, y⟩ :: ps.drop i) ∧ Below X.heap.size X w') (fun e w' ⟨a', c', h1, h2, _, h4⟩ => ⟨_, h1, a', c', by rw [hfl, hll], by rw [hfl] at h2; exact h2, Below.then A7 h4⟩)
        clear L7 A7 R1 R2 R3 RX
        refine wpAnyH_one 15 (by kernel_rfl) ?_
        refine wpOp_call rfl rfl (f := 36) (args := #[.slice (some ⟨X.heap.size, 0, none⟩) 3 3]) (by kernel_rfl) TC ?_
        rintro _ W8 ⟨a', c', rfl, R8, B8⟩
        refine ⟨trivial, ?_⟩
        have G8 := Below.then hG B8
        have T8 := T6.below G8
        have I8 := I6.safe (S3.below G8)
        have C8 := Below.then C6 G8
        clear T6 I6 C6 G8 hG B8 TC hK
        refine wpAnyH_take (i := 16) (v := ptr b) rfl (by kernel_rfl) (by kernel_rfl) (by kernel_rfl) (fun _ _ _ h => h) (Or.inl ⟨by kernel_rfl, fun w hSw => by kernel_rfl⟩) trivial ?_
        refine wpAnyH_take (i := 17) (v := .pointer (some ⟨b, 1, none⟩)) rfl (by kernel_rfl) (by kernel_rfl) (by kernel_rfl) (fun _ _ _ h => h) (Or.inl ⟨by kernel_rfl, fun w hSw => by kernel_rfl⟩) trivial ?_
        refine wpAnyH_one 18 (by kernel_rfl) ?_
        refine wpOp_store_cell rfl rfl 64 (.tmp 53) (.tmp 51) (by kernel_rfl) b 1 2 66 (.slice a' (ps.length + 1) c') _ #[.int .i64 (m : Int), .slice a' (ps.length + 1) c'] (by kernel_rfl) (by kernel_rfl) T8.cell rfl (by omega) iS rfl rfl ?_
        intro W9 H9 d9
        refine ⟨trivial, ?_⟩
        refine wpAnyH_done (by kernel_rfl) ?_ _
        simp only [Act.put, List.getElem_toArray, List.getElem_cons_succ, List.getElem_cons_zero, List.setIfInBounds_toArray, List.set_cons_zero, List.set_cons_succ]
        have S9 : S3 W8 W9 := S3.but d9 T8.cell (by decide) (by decide) (by decide)
        have L9 : LstAt W9 a' c' (ps.take i ++ ⟨q, y⟩ :: ps.drop i) := ⟨R8.safe S9.ptrs, fun p hp => by
          rcases List.mem_append.1 hp with hp | hp
          · exact (T8.lst.each p (List.mem_of_mem_take hp)).safe S9
          · rcases List.mem_cons.1 hp with rfl | hp
            · exact I8.safe S9
            · exact (T8.lst.each p (List.mem_of_mem_drop hp)).safe S9⟩
        have hmap : (ps.take i ++ (⟨q, y⟩ : Pn) :: ps.drop i).map Pn.f = (ps.map Pn.f).take i ++ x.f :: (ps.map Pn.f).drop i := by rw [map_take_drop]; rw [show Pn.f ⟨q, y⟩ = x.f from hyf]
        have T9 : TabAt W9 b m a' c' (ps.take i ++ ⟨q, y⟩ :: ps.drop i) := ⟨by rw [hll]; exact H9, L9, by rw [hmap]; exact hsort, by rw [hll]; omega, T8.low, T8.high, fun p hp => by
          rcases List.mem_append.1 hp with hp | hp
          · exact T8.wide p (List.mem_of_mem_take hp)
          · rcases List.mem_cons.1 hp with rfl | hp
            · show y.f.ks.length ≤ 48
              rw [hyf]; exact hk48
            · exact T8.wide p (List.mem_of_mem_drop hp)⟩
        have D9 : Did b w W9 := (Did.same C8 HC).trans ⟨d9, _, _, T8.cell, H9⟩
        go_wp2_with fail
        go_ret
        refine ⟨rfl, ⟨a', c', _, T9, hmap.trans HP.out.symm, fun p hp => ?_⟩, D9⟩
        rcases List.mem_append.1 hp with hp | hp
        · exact .inl (List.mem_of_mem_take hp)
        · rcases List.mem_cons.1 hp with rfl | hp
          · exact .inr ⟨hqn, fun ad h => hyn ad (hya.symm.trans h)⟩
          · exact .inl (List.mem_of_mem_drop hp)
  · have hE : Tb.putE okB m (ps.map Pn.f) x.f = 2 := by unfold Tb.putE; rw [hok, hhas]; rfl
    have hP : Tb.put okB m (ps.map Pn.f) x.f = ps.map Pn.f := by unfold Tb.put; rw [hE]; rfl
    obtain rfl := HEE.out.trans hE
    obtain rfl := HPP.out.trans hP
    go_wp2_with fail
    go_ret
    exact ⟨rfl, ⟨a, cap, ps, T3, rfl, fun p hp => .inl hp⟩, Did.same C3 HC⟩
theorem put_at {b m : Nat} {a : Option Addr} {cap : Nat} {ps : List Pn} (x : Fv) (w : World) (h : TabAt w b m a cap ps) (hx : Fv.At w x) :
    Calls Try.prog 12 #[ptr b, x.val] w fun e w' => e = .returned (.int .i64 (putCode (Tb.putE okB m (ps.map Pn.f) x.f))) ∧ (∃ a' cap' ps', TabAt w' b m a' cap' ps' ∧ ps'.map Pn.f = Tb.put okB m (ps.map Pn.f) x.f) ∧ Did b w w' :=
  (put_full x w h hx).mono fun _ _ ⟨h1, ⟨a', c', ps', h2, h3, _⟩, h4⟩ => ⟨h1, ⟨a', c', ps', h2, h3⟩, h4⟩
end Go.Proofs.Ytomiefhfkdfgbaa
