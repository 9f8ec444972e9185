/-
  The program's Body.
-/
import Derived.Test.YtdehimbfcilhpaaGreatDoorQE9
import Derived.Test.YtdehimbfcilhpaaGreatDoorQLo
import Derived.Test.YtdehimbfcilhpaaGreatDoorQSorted
import Derived.Test.YtdehimbfcilhpaaGreatDoorQWith
import Derived.Test.YtdehimbfcilhpaaGreatDoorQD3
import Derived.Test.YtdehimbfcilhpaaGreatDoorQD4
import Derived.Test.YtdehimbfcilhpaaGreatDoorQNk
namespace Go.Proofs.YtdehimbfcilhpaaGreatDoor
open Go.RowKit Go.Lib Go.Shelf

theorem Tryz.iFk : (Tryz.prog.info? 36).map (fun i => (i.zero, i.size, i.bytes)) = some (some (.agg #[.string .empty, .string .empty, .string .empty, .slice none 0 0]), fK.k, 72) := by kernel_rfl
theorem Tryz.iF4 : (Tryz.prog.info? 36).map (fun i => (i.zero, i.size, i.bytes)) = some (some (.agg #[.string .empty, .string .empty, .string .empty, .slice none 0 0]), 4, 72) := by kernel_rfl
/-- facts in a row of the call's own -/
def OwnF (base : Nat) (w : World) (v : Value) (zs : List Fv) : Prop := w.ownsRow base 36 fK.k v zs.length (zs.flatMap fK.enc)
theorem OwnF.max {base : Nat} {w : World} {a : Option Addr} {n c : Nat} {zs : List Fv} (h : OwnF base w (.slice a n c) zs) : c ≤ maxLen := by
  rcases h.2 with ⟨hv, _⟩ | ⟨g, cap, cur, hv, _, _, _, hm, _⟩
  · cases hv; exact Nat.zero_le _
  · cases hv; exact hm
/-- each fact's constants lie in a block of constants -/
def EachK (w : World) (zs : List Fv) : Prop := ∀ z ∈ zs, RowT kK 56 w z.a z.cap z.ks
theorem EachK.safe {w w' : World} {zs : List Fv} (h : EachK w zs) (s : Safe 56 w w') : EachK w' zs := fun z hz => (h z hz).safe s
/-- facts and yes, or none and no -/
def BodyAns (e : Ending) (w : World) (o : Option (List F)) : Prop := ∃ a c zs, e = .returned (.tuple #[.slice a (List.length zs) c, .bool o.isSome]) ∧ Row fK w a c zs ∧ Tag 36 w a ∧ c ≤ maxLen ∧ EachK w zs ∧ zs.map Fv.f = o.getD []
theorem BodyAns.no {w : World} {o : Option (List F)} (h : o = none) : BodyAns (.returned (.tuple #[.slice none 0 0, .bool false])) w o := ⟨none, 0, [], by rw [h]; rfl, Row.nil _ _, (fun _ h => by cases h), Nat.zero_le _, (fun _ h => by simp at h), by rw [h]; rfl⟩
theorem lv_six {w : World} {b : Nat} {y : Lv} (H : w.heap[b]? = some (.cells (lv y).toArray 85)) :
    w.cell? ⟨b, 0, none⟩ = some (str y.by_.v) ∧ w.cell? ⟨b, 1, none⟩ = some (.bool y.by_.k.num) ∧ w.cell? ⟨b, 2, none⟩ = some (.int .i64 y.by_.k.n) ∧ w.cell? ⟨b, 3, none⟩ = some (str y.by_.k.s) ∧ w.cell? ⟨b, 4, none⟩ = some (str y.pred) ∧ w.cell? ⟨b, 5, none⟩ = some (.slice y.a y.args.length y.cap) := by
  refine ⟨?_, ?_, ?_, ?_, ?_, ?_⟩ <;> (rw [heap_cell H]; rfl)
theorem bx_ten {w : World} {b c : Nat} {t : Tm} {y : Lv} (h : w.heap[b]? = some (.cells (tv t).toArray 58)) (H : w.heap[c]? = some (.cells (lv y).toArray 85)) :
    w.cell? ⟨b, 0, none⟩ = some (str t.v) ∧ w.cell? ⟨b, 1, none⟩ = some (.bool t.k.num) ∧ w.cell? ⟨b, 2, none⟩ = some (.int .i64 t.k.n) ∧ w.cell? ⟨b, 3, none⟩ = some (str t.k.s) ∧
    w.cell? ⟨c, 0, none⟩ = some (str y.by_.v) ∧ w.cell? ⟨c, 1, none⟩ = some (.bool y.by_.k.num) ∧ w.cell? ⟨c, 2, none⟩ = some (.int .i64 y.by_.k.n) ∧ w.cell? ⟨c, 3, none⟩ = some (str y.by_.k.s) ∧ w.cell? ⟨c, 4, none⟩ = some (str y.pred) ∧ w.cell? ⟨c, 5, none⟩ = some (.slice y.a y.args.length y.cap) := by
  obtain ⟨c1, c2, c3, c4⟩ := tv_cells h
  obtain ⟨d1, d2, d3, d4, d5, d6⟩ := lv_six H
  exact ⟨c1, c2, c3, c4, d1, d2, d3, d4, d5, d6⟩
theorem drew_new (w : World) (o : Obj) : (w.alloc o).drew.heap[w.heap.size]? = some o := heap_alloc_new w o
theorem drew_old {w : World} {o p : Obj} {k : Nat} (h : w.heap[k]? = some p) : (w.alloc o).drew.heap[k]? = some p := by
  have : (w.alloc o).heap[k]? = some p := below_heap (below_alloc w o) h
  exact this
theorem alloc_new_below (w : World) (o : Obj) {w' : World} (h : Below (w.heap.size + 1) (w.alloc o) w') : w'.heap[w.heap.size]? = some o := (h.block _ (Nat.lt_succ_self _)).trans (heap_alloc_new w o)
theorem fact_two {o : Option F} {z : Fv} (hz : z.f = o.getD f0) : (o = none ∧ o.isSome = false) ∨ (o = some z.f ∧ o.isSome = true) := by
  cases o with
  | none => exact .inl ⟨rfl, rfl⟩
  | some f => exact .inr ⟨by rw [hz]; rfl, rfl⟩

end Go.Proofs.YtdehimbfcilhpaaGreatDoor

/-
  The reference's Copy of facts.
-/
namespace Go.Proofs.YtdehimbfcilhpaaGreatDoor
open Go.RowKit Go.Lib Go.Shelf

theorem ownsK_empty (w : World) : (w.alloc (.cells #[] 56)).ownsRow w.heap.size 56 kK.k (.slice (some ⟨w.heap.size, 0, none⟩) 0 0) ([] : List K).length (([] : List K).flatMap kK.enc) :=
  ⟨rfl, .inr ⟨w.heap.size, 0, #[], rfl, Nat.le_refl _, heap_alloc_new w _, Nat.le_refl _, Nat.zero_le _, rfl, rfl⟩⟩

set_option maxRecDepth 100000 in
set_option maxHeartbeats 2000000 in
theorem rcopy4_at (a : Option Addr) (c : Nat) (xs : List Fv) (w : World) (h : Row fK w a c xs) (hx : ∀ x ∈ xs, Fv.At w x) (hf : xs.length ≤ 900000) (hk9 : ∀ x ∈ xs, x.ks.length ≤ 900000) :
    Calls Tryz.prog 13 #[.slice a xs.length c] w fun e w' => (∃ a' c' zs, e = .returned (.slice a' (List.length zs) c') ∧ RowT fK 36 w' a' c' zs ∧ (∀ ad, a' = some ad → w.heap.size ≤ ad.block ∧ ad.off = 0 ∧ ad.spot = none) ∧ EachK w' zs ∧ zs.map Fv.f = xs.map Fv.f) ∧ Below w.heap.size w w' := by
  have iF : (Tryz.prog.info? 36).map (·.size) = some 4 := by kernel_rfl
  have iA : (Tryz.prog.info? 34).map (·.size) = some 1 := by kernel_rfl
  go_enter Tryz.func13, Tryz.ntmps13
  go_wp2_with fail
  go_loopw [3, 4, 5] (fun v3 v4 _ wr => ∃ (i : Nat) (zs : List Fv) (u : Option Addr) (cu : Nat), v3 = .slice u (List.length zs) cu ∧ v4 = .int .i64 (i : Int) ∧ i ≤ xs.length ∧ Hid (zs.length = i) ∧ OwnF w.heap.size wr (.slice u (List.length zs) cu) zs ∧ EachK wr zs ∧ Below w.heap.size w wr ∧ Hid (zs.map Fv.f = (xs.take i).map Fv.f)) (fun _ v4 _ _ => xs.length - (intOf v4).toNat)
  case atStart => exact ⟨0, [], none, 0, rfl, rfl, Nat.zero_le _, rfl, World.ownsRow_nil _ _ _ _, (fun _ h => by simp at h), Below.refl _ _, rfl⟩
  case round =>
    obtain ⟨i, zs, u, cu, rfl, rfl, hi, hk, OF, EK, B, HV⟩ := hrel
    by_cases hlt : i < xs.length
    · have q3 : (i : Int) < (xs.length : Int) := by omega
      obtain ⟨P1, O1, rfl⟩ := h.addr (Nat.lt_of_le_of_lt (Nat.zero_le _) hlt)
      have r1 : wr.rangeAt P1 (O1 + i * 4) (fv (xs[i]'hlt)) := (h.below B (Nat.le_refl _)).range i hlt
      have hA : Fv.At wr (xs[i]'hlt) := (hx _ (List.getElem_mem hlt)).below B (Nat.le_refl _)
      have hkl := hk9 _ (List.getElem_mem hlt)
      have hst : Hid ((xs.take (i + 1)).map Fv.f = (xs.take i).map Fv.f ++ [(xs[i]'hlt).f]) := by
        show _ = _
        rw [List.take_succ_eq_append_getElem hlt, List.map_append]; rfl
      generalize (xs[i]'hlt) = p at *
      have iQ : (Tryz.prog.info? 36).map (·.size) = some (fv p).length := iF
      have N4 := heap_alloc_new wr (.cells #[.string { data := #[] }, .string { data := #[] }, .string { data := #[] }, .slice none 0 0] 36)
      go_wp2_with (first | (refine wpList_load_mid rfl 36 _ rfl P1 (O1 + i * 4) rfl (fv p) _ r1 Tryz.underlying36 rfl iQ ?_) | (refine wpList_store_all rfl 36 _ _ rfl wr.heap.size 4 _ 36 (fv p) rfl rfl N4 rfl rfl iF rfl ?_; intro w4 H4 b4; have T4 := below_tok b4; have A5 := below_alloc w4 (.cells #[] 56); have o5 := ownsK_empty w4; have H5 := below_heap A5 H4; have c3 := (fv_cells H5).2.2.2; have RK : Row kK (w4.alloc (.cells #[] 56)) p.a p.cap p.ks := args_row ((hA.below T4 (Nat.le_refl _)).below A5 (Nat.le_refl _))) | (at_builtin; refine wpList_append_rec kK _ rfl _ _ 34 56 rfl _ 32 Tryz.underlying34 Tryz.iKk rfl (by decide) w4.heap.size (.slice (some ⟨w4.heap.size, 0, none⟩) 0 0) [] p.ks p.a p.ks.length p.cap rfl o5 rfl rfl RK A5.size (by simp only [List.length_nil]; omega) ?_; intro v6 w6 o6 g6; obtain ⟨u6, c6, rfl, R6, b6⟩ := own_row (D := kK) (xs := [] ++ p.ks) o6 (by simp only [List.nil_append]; omega); have H6 := Safe.grown (ty := 36) o5 g6 (by decide) _ _ H5; have T6 := T4.trans ((A5.trans (own_below o5 g6 A5.size)).mono T4.size)) | (refine wpList_store_cel rfl 34 _ _ rfl wr.heap.size 3 4 36 (.slice u6 p.ks.length c6) (fv ⟨p.at_, p.by_, p.pred, u6, c6, p.ks⟩).toArray rfl rfl H6 rfl (by omega) iA rfl rfl ?_; intro w7 H7 b7; have T7 : Below wr.heap.size wr w7 := T6.trans (b7.lower (Nat.le_refl _) T6.size); have A8 := below_alloc w7 (.cells (fv ⟨p.at_, p.by_, p.pred, u6, c6, p.ks⟩).toArray 36); have OF7 := ownsRow_keep OF (Safe.below T7 : Safe 36 _ _); have o8 := ownsRow_keep OF7 (Safe.below A8 : Safe 36 _ _); have R8 : Row fK (w7.alloc (.cells (fv ⟨p.at_, p.by_, p.pred, u6, c6, p.ks⟩).toArray 36)) (some ⟨w7.heap.size, 0, none⟩) 1 [⟨p.at_, p.by_, p.pred, u6, c6, p.ks⟩] := row_new fK w7 _ _ ⟨p.at_, p.by_, p.pred, u6, c6, p.ks⟩ rfl; have hb8 := Nat.le_trans (Nat.le_trans B.size T7.size) A8.size) | (refine wpList_load_all rfl 36 _ rfl wr.heap.size 4 36 (fv ⟨p.at_, p.by_, p.pred, u6, c6, p.ks⟩) _ rfl H7 rfl Tryz.underlying36 rfl iF ?_) | (refine wpList_build_one rfl 24 36 _ rfl (fv ⟨p.at_, p.by_, p.pred, u6, c6, p.ks⟩) _ 4 72 rfl rfl (by decide) (by decide) Tryz.underlying24 Tryz.iF4 ?_) | (at_builtin; refine wpList_append_rec fK _ rfl _ _ 24 36 rfl _ 72 Tryz.underlying24 Tryz.iFk rfl (by decide) w.heap.size (.slice u zs.length cu) zs [⟨p.at_, p.by_, p.pred, u6, c6, p.ks⟩] (some ⟨w7.heap.size, 0, none⟩) 1 1 rfl o8 rfl rfl R8 hb8 (by have := hk.out; simp only [List.length_cons, List.length_nil]; omega) ?_; intro v9 w9 o9 g9; obtain ⟨u9, c9, rfl, R9, _⟩ := own_row (D := fK) (xs := zs ++ [(⟨p.at_, p.by_, p.pred, u6, c6, p.ks⟩ : Fv)]) o9 (by have := hk.out; simp only [List.length_append, List.length_cons, List.length_nil]; omega)))
      have SK : Safe 56 w7 w9 := (Safe.below A8).trans (Safe.grown o8 g9 (by decide))
      have S67 : Safe 56 w6 w7 := Safe.but b7 H6 (by decide)
      refine ⟨⟨i + 1, zs ++ [(⟨p.at_, p.by_, p.pred, u6, c6, p.ks⟩ : Fv)], u9, c9, by rw [List.length_append]; rfl, by go_num, by omega, by show _ = _; rw [List.length_append, hk.out]; rfl, o9, fun z' hz' => ?_, (Below.then (Below.then B T7) A8).trans (own_below o8 g9 hb8), ?_⟩, by simp [intOf]; omega⟩
      · rcases List.mem_append.1 hz' with h1 | h1
        · exact ((EK z' h1).safe (Safe.below T7)).safe SK
        · rw [List.mem_singleton.1 h1]; exact (R6.safe S67).safe SK
      · show _ = _
        rw [List.map_append, HV.out, hst.out]; rfl
    · have q3 : ¬ (i : Int) < (xs.length : Int) := by omega
      have HV2 : Hid (zs.map Fv.f = xs.map Fv.f) := by
        show _ = _
        rw [HV.out, List.take_of_length_le (by omega)]
      obtain ⟨u', c', e', RF, hbb⟩ := own_row (D := fK) OF (by have := hk.out; omega)
      cases e'
      have hoo : ∀ ad, u = some ad → w.heap.size ≤ ad.block ∧ ad.off = 0 ∧ ad.spot = none := fun ad ha => by
        refine ⟨hbb ad ha, ?_⟩
        rcases OF.2 with ⟨hv, _⟩ | ⟨g, cap, cur, hv, _⟩
        · have e1 : u = none := by injection hv
          rw [e1] at ha; cases ha
        · have e1 : u = some ⟨g, 0, none⟩ := by injection hv
          rw [e1] at ha; cases ha; exact ⟨rfl, rfl⟩
      clear HV OF
      go_wp2_with fail
      go_ret
      exact ⟨⟨u, cu, zs, rfl, RF, hoo, EK, HV2.out⟩, B⟩
end Go.Proofs.YtdehimbfcilhpaaGreatDoor

/-
  The program's Follows.
-/
namespace Go.Proofs.YtdehimbfcilhpaaGreatDoor
open Go.RowKit Go.Lib Go.Shelf

/-- a derivation in memory: its cells -/
def dv (n : Int) (x : Fv) (a : Option Addr) (c : Nat) (xs : List Fv) : List Value := [.int .i64 n, str x.at_, str x.by_, str x.pred, .slice x.a x.ks.length x.cap, .slice a xs.length c]
abbrev dval5 (n : Int) (x : Fv) (a : Option Addr) (c : Nat) (xs : List Fv) : Value := .agg #[.int .i64 n, str x.at_, str x.by_, str x.pred, .slice x.a x.ks.length x.cap, .slice a xs.length c]
theorem rv_home5 {w : World} {b : Nat} {x : Rv} (H : w.heap[b]? = some (.cells (rv x).toArray 62)) :
    w.cell? ⟨b, 0, none⟩ = some (str x.home.v) ∧ w.cell? ⟨b, 1, none⟩ = some (.bool x.home.k.num) ∧ w.cell? ⟨b, 2, none⟩ = some (.int .i64 x.home.k.n) ∧ w.cell? ⟨b, 3, none⟩ = some (str x.home.k.s) ∧ w.cell? ⟨b, 10, none⟩ = some (.slice x.ba x.body.length x.bcap) := by
  refine ⟨?_, ?_, ?_, ?_, ?_⟩ <;> (rw [heap_cell H]; rfl)
theorem lv_in5 {w : World} {b o : Nat} {y : Lv} (h : w.rangeAt b o (lv y)) :
    w.cell? ⟨b, o, none⟩ = some (str y.by_.v) ∧ w.cell? ⟨b, o + 1, none⟩ = some (.bool y.by_.k.num) ∧ w.cell? ⟨b, o + 2, none⟩ = some (.int .i64 y.by_.k.n) ∧ w.cell? ⟨b, o + 3, none⟩ = some (str y.by_.k.s) ∧ w.cell? ⟨b, o + 4, none⟩ = some (str y.pred) ∧ w.cell? ⟨b, o + 5, none⟩ = some (.slice y.a y.args.length y.cap) ∧
    w.cell? ⟨b, o + 6, none⟩ = some (str y.at_.v) ∧ w.cell? ⟨b, o + 7, none⟩ = some (.bool y.at_.k.num) ∧ w.cell? ⟨b, o + 8, none⟩ = some (.int .i64 y.at_.k.n) ∧ w.cell? ⟨b, o + 9, none⟩ = some (str y.at_.k.s) :=
  ⟨h 0 _ rfl, h 1 _ rfl, h 2 _ rfl, h 3 _ rfl, h 4 _ rfl, h 5 _ rfl, h 6 _ rfl, h 7 _ rfl, h 8 _ rfl, h 9 _ rfl⟩
theorem lit_two (home : Tm) (l : Lt) (f : F) (L : Mt.Env) : (Mt.lit home l f L = none ∧ litE home l f L = [] ∧ litB home l f L = false) ∨ (∃ e, Mt.lit home l f L = some e ∧ litE home l f L = e ∧ litB home l f L = true ∧ e.length ≤ L.length + (l.args.length + 2)) := by
  unfold litE litB
  cases h : Mt.lit home l f L with
  | none => exact .inl ⟨rfl, rfl, rfl⟩
  | some e => exact .inr ⟨e, rfl, rfl, rfl, Mt.lit_len h⟩
/-- what is told of a rule and a derivation, from the i-th literal on -/
def folF (r : Ru) (h : F) (ls : List Lt) (fs : List F) (e : Mt.Env) : Bool := match (Mt.lits r.home ls fs e).bind fun e2 => Mt.head r e2 with
  | none => false
  | some f => decide (cF f h = 0)
theorem fol_folF {r : Ru} {h : F} {b : List F} {e : Mt.Env} (hu : Mt.uni r.home (Mt.nm h.by_) [] = some e) : Mt.fol r h b = folF r h r.body b e := by
  unfold folF
  cases hx : (Mt.lits r.home r.body b e).bind fun e2 => Mt.head r e2 with
  | none => exact Mt.fol_no (by rw [hu]; exact hx)
  | some f => exact Mt.fol_some (f := f) (by rw [hu]; exact hx) _ (by rw [decide_eq_true_iff, cF_zero])
theorem folF_step {r : Ru} {h : F} {ls : List Lt} {fs : List F} {e : Mt.Env} {i : Nat} (h1 : i < ls.length) (h2 : i < fs.length) : folF r h (ls.drop i) (fs.drop i) e = match Mt.lit r.home ls[i] fs[i] e with
    | none => false
    | some e1 => folF r h (ls.drop (i + 1)) (fs.drop (i + 1)) e1 := by
  unfold folF
  rw [Mt.lits_step h1 h2]
  cases Mt.lit r.home ls[i] fs[i] e with
  | none => rfl
  | some e1 => rfl
theorem folF_done {r : Ru} {h : F} {ls : List Lt} {fs : List F} {e : Mt.Env} {i : Nat} (h1 : ls.length ≤ i) (h2 : fs.length ≤ i) : folF r h (ls.drop i) (fs.drop i) e = match Mt.head r e with
    | none => false
    | some f => decide (cF f h = 0) := by
  unfold folF
  rw [Mt.lits_done h1 h2]; rfl
end Go.Proofs.YtdehimbfcilhpaaGreatDoor

/-
  What abides while atOnce's iterator runs.
-/
namespace Go.Proofs.YtdehimbfcilhpaaGreatDoor
open Go.RowKit Go.Lib Go.Shelf

theorem Rnd.keeps {n0 B : Nat} {X : Nat → Prop} {W W' : World} (h : Rnd n0 X W W') (hX : ∀ k, X k → k < B) : KeepsFrom B W W' :=
  ⟨h.size, fun k o hB hk ho => h.other hk (fun hx => by have := hX k hx; omega) (by cases o <;> first | rfl | cases ho)⟩
/-- what is known of a fact that follows, where a round begins -/
def EltO (w : Ml.Wd) (l : List Ru) (m : List F) (f : F) (v : Value) (W : World) : Prop := EltF f v W ∧ f ∈ Ml.onceL w l m
/-- WHAT ABIDES -/
structure OnW (w0 : World) (B l b1 b2 b3 : Nat) (ra : Option Addr) (rc : Nat) (rs : List Rv) (ha : Option Addr) (hc : Nat) (hs : List (List UInt8)) (na : Option Addr) (nc : Nat) (ns : List (List UInt8)) (fa : Option Addr) (fc : Nat) (zs : List Fv) (W : World) : Prop where
  cap : ACap b1 b2 b3 ra rc rs ha hc hs na nc ns fa fc zs W
  box : W.heap[B]? = some (.cells #[.func (.yield l) #[] #[]] 81)
  below : Below w0.heap.size w0 W
  low : w0.heap.size ≤ B
theorem OnW.itr {w0 : World} {B C l b1 b2 b3 : Nat} {ra : Option Addr} {rc : Nat} {rs : List Rv} {ha : Option Addr} {hc : Nat} {hs : List (List UInt8)} {na : Option Addr} {nc : Nat} {ns : List (List UInt8)} {fa : Option Addr} {fc : Nat} {zs : List Fv} {W W' : World} (h : OnW w0 B l b1 b2 b3 ra rc rs ha hc hs na nc ns fa fc zs W) (hi : Itr 166 C W W') (hC : B ≤ C) : OnW w0 B l b1 b2 b3 ra rc rs ha hc hs na nc ns fa fc zs W' :=
  ⟨⟨hi.same _ _ _ _ h.cap.rules (by decide), hi.same _ _ _ _ h.cap.world (by decide), hi.same _ _ _ _ h.cap.facts (by decide)⟩, hi.same _ _ _ _ h.box (by decide), h.below.trans (hi.toBelow.mono (Nat.le_trans h.low hC)), h.low⟩
theorem OnW.next {w0 : World} {B l b1 b2 b3 : Nat} {ra : Option Addr} {rc : Nat} {rs : List Rv} {ha : Option Addr} {hc : Nat} {hs : List (List UInt8)} {na : Option Addr} {nc : Nat} {ns : List (List UInt8)} {fa : Option Addr} {fc : Nat} {zs : List Fv} {W W' : World} (h : OnW w0 B l b1 b2 b3 ra rc rs ha hc hs na nc ns fa fc zs W) (hb : Below W.heap.size W W') : OnW w0 B l b1 b2 b3 ra rc rs ha hc hs na nc ns fa fc zs W' :=
  ⟨⟨below_heap hb h.cap.rules, below_heap hb h.cap.world, below_heap hb h.cap.facts⟩, below_heap hb h.box, h.below.trans (hb.mono h.below.size), h.low⟩
theorem OnW.rnd {w0 : World} {B l b1 b2 b3 : Nat} {ra : Option Addr} {rc : Nat} {rs : List Rv} {ha : Option Addr} {hc : Nat} {hs : List (List UInt8)} {na : Option Addr} {nc : Nat} {ns : List (List UInt8)} {fa : Option Addr} {fc : Nat} {zs : List Fv} {W W' : World} {X : Nat → Prop} (h : OnW w0 B l b1 b2 b3 ra rc rs ha hc hs na nc ns fa fc zs W) (r : Rnd w0.heap.size X W W') (hX : ∀ k, X k → w0.heap.size ≤ k ∧ k < B) (nb : ¬ X b1 ∧ ¬ X b2 ∧ ¬ X b3) : OnW w0 B l b1 b2 b3 ra rc rs ha hc hs na nc ns fa fc zs W' :=
  ⟨⟨r.other h.cap.rules nb.1 rfl, r.other h.cap.world nb.2.1 rfl, r.other h.cap.facts nb.2.2 rfl⟩, r.other h.box (fun hx => by have := (hX B hx).2; omega) rfl, h.below.trans (r.below (fun k hk => (hX k hk).1) h.below.size), h.low⟩
theorem Marks.itr {B C : Nat} {pt : TypeId} {Ds : List Nat} {W W' : World} (h : Marks B Ds W) (hi : Itr pt C W W') (hD : ∀ D ∈ Ds, D < C) : Marks B Ds W' := ⟨fun D hD' => (hi.low D (hD D hD')).trans (h.open_ D hD'), h.nodup, h.low⟩
theorem Marks.lt {B : Nat} {Ds : List Nat} {W : World} (h : Marks B Ds W) : ∀ D ∈ Ds, D < W.heap.size := fun D hD => heap_lt (h.open_ D hD)
theorem EltE.itr {B C : Nat} {p : List Bd} {v : Value} {W W' : World} (h : EltE B p v W) (hi : Itr 166 C W W') : EltE B p v W' := by
  obtain ⟨a, c, rfl, R, Fr, L⟩ := h
  exact ⟨a, c, rfl, R.safe (hi.safe (by decide)), Fr, L⟩
theorem hd_none {w : Ml.Wd} {r : Ru} {e : Mt.Env} (h : Mt.head r e = none) : Ml.hd w r e = [] := by unfold Ml.hd; rw [h]
theorem hd_out {w : Ml.Wd} {r : Ru} {e : Mt.Env} {f : F} (h : Mt.head r e = some f) (hn : f.at_ ∉ w.names) : Ml.hd w r e = [] := by unfold Ml.hd; rw [h]; simp only; rw [if_neg hn]
theorem hd_in {w : Ml.Wd} {r : Ru} {e : Mt.Env} {f : F} (h : Mt.head r e = some f) (hn : f.at_ ∈ w.names) : Ml.hd w r e = [f] := by unfold Ml.hd; rw [h]; simp only; rw [if_pos hn]
/-- what came so far, one end more -/
theorem flat_snoc {w : Ml.Wd} {r : Ru} (fs : List F) (pre : List Mt.Env) (p : Mt.Env) : fs ++ (pre ++ [p]).flatMap (Ml.hd w r) = fs ++ pre.flatMap (Ml.hd w r) ++ Ml.hd w r p := by simp
/-- rules and homes, one by one -/
theorem onceL_take {w : Ml.Wd} {m : List F} {rs : List Rv} {i : Nat} (hi : i < rs.length) (x : F) : x ∈ Ml.onceL w ((rs.take (i + 1)).map Rv.r) m ↔ x ∈ Ml.onceL w ((rs.take i).map Rv.r) m ∨ x ∈ w.homes.flatMap (fun h => Ml.heads w rs[i].r m h) := by
  unfold Ml.onceL
  rw [List.take_succ_eq_append_getElem hi, List.map_append, List.flatMap_append, List.mem_append]
  simp
theorem homes_take {w : Ml.Wd} {m : List F} {r : Ru} {hs : List (List UInt8)} {j : Nat} (hj : j < hs.length) (x : F) : x ∈ (hs.take (j + 1)).flatMap (fun h => Ml.heads w r m h) ↔ x ∈ (hs.take j).flatMap (fun h => Ml.heads w r m h) ∨ x ∈ Ml.heads w r m hs[j] := by
  rw [List.take_succ_eq_append_getElem hj, List.flatMap_append, List.mem_append]
  simp
theorem heads_once {w : Ml.Wd} {l : List Ru} {m : List F} {r : Ru} {h : List UInt8} (hr : r ∈ l) (hh : h ∈ w.homes) {x : F} (hx : x ∈ Ml.heads w r m h) : x ∈ Ml.onceL w l m := by
  unfold Ml.onceL
  rw [List.mem_flatMap]
  exact ⟨r, hr, List.mem_flatMap.2 ⟨h, hh, hx⟩⟩
end Go.Proofs.YtdehimbfcilhpaaGreatDoor

/-
  The reference's from: the heads of a rule's instances from a literal on, put into what was gathered.
-/
namespace Go.Proofs.YtdehimbfcilhpaaGreatDoor
open Go.RowKit Go.Lib Go.Shelf

/-- THE REFERENCE's WORLD in memory: homes, names, how much was done, too much? -/
def Wq (w : World) (q : Nat) (ha : Option Addr) (hc : Nat) (hs : List (List UInt8)) (na : Option Addr) (nc : Nat) (ns : List (List UInt8)) (c : Ml.Cn) : Prop := w.heap[q]? = some (.cells #[.slice ha hs.length hc, .slice na ns.length nc, .int .i64 (c.done : Int), .bool c.heavy] 31)
theorem Wq.next {w w' : World} {q : Nat} {ha : Option Addr} {hc : Nat} {hs : List (List UInt8)} {na : Option Addr} {nc : Nat} {ns : List (List UInt8)} {c : Ml.Cn} (h : Wq w q ha hc hs na nc ns c) (b : Below w.heap.size w w') : Wq w' q ha hc hs na nc ns c := below_heap b h
/-- bindings do not lie in it -/
theorem Row.butQ {w w' : World} {q : Nat} {ha : Option Addr} {hc : Nat} {hs : List (List UInt8)} {na : Option Addr} {nc : Nat} {ns : List (List UInt8)} {c : Ml.Cn} {a : Option Addr} {m : Nat} {L : List Bd} (h : Row bK w a m L) (hq : Wq w q ha hc hs na nc ns c) (b : But q w w') : Row bK w' a m L := by
  cases L with
  | nil => exact ⟨h.room, h.few, h.void, fun ad _ j u hu => by simp at hu⟩
  | cons y L =>
    obtain ⟨P, O, rfl⟩ := h.addr (by simp)
    have h0 : w.cell? ⟨P, O + 0, none⟩ = some (str y.1) := h.cells _ rfl 0 (str y.1) rfl
    have hne : P ≠ q := fun e => by
      subst e
      rw [heap_cell hq] at h0
      rcases O with _ | _ | _ | _ | O <;> simp at h0
    have hlt : P < w.heap.size := block_lt_of_cell h0
    exact ⟨h.room, h.few, h.void, fun ad ha j u hu => by
      cases ha
      rw [← h.cells _ rfl j u hu]
      exact b.cell (by rw [addr_add_block]; exact hne) (by rw [addr_add_block]; exact hlt)⟩
theorem OwF.butQ {w w' : World} {q base : Nat} {a : Option Addr} {m : Nat} {ys : List Fv} (h : OwF w base a m ys) (b : But q w w') (hq : q < base) : OwF w' base a m ys :=
  ⟨h.room, h.most, h.few, h.void, fun ad ha => by
    obtain ⟨g, rfl, h1, h2, hr⟩ := h.row ad ha
    refine ⟨g, rfl, h1, Nat.lt_of_lt_of_le h2 b.size, fun i hi c hc => ?_⟩
    have e := hr i hi c hc
    have hb := b.block g h2 (by omega)
    exact ⟨by rw [← e.1]; exact World.cell?_of_block (w := w) hb, by rw [← e.2]; exact World.frozen?_of_block (w := w) hb⟩⟩
theorem But.safe {q : Nat} {w w' : World} {C : Array Value} {T ty : TypeId} (b : But q w w') (hq : w.heap[q]? = some (.cells C T)) (hn : ty ≠ T) : Safe ty w w' := fun k cur hk => b.heap (fun e => by subst e; rw [hq] at hk; cases hk; exact hn rfl) hk
/-- one fact more -/
theorem fold_take {home : Tm} {l : Lt} {e : Mt.Env} {g : Mt.Env → Ml.Cn × List F → Ml.Cn × List F} {zs : List Fv} {i : Nat} (hi : i < zs.length) (st : Ml.Cn × List F) : ((zs.map Fv.f).take (i + 1)).foldl (Ml.one home l e g) st = Ml.one home l e g (((zs.map Fv.f).take i).foldl (Ml.one home l e g) st) zs[i].f := by
  rw [List.take_succ_eq_append_getElem (by simpa using hi), List.foldl_append]; simp
theorem one_no {home : Tm} {l : Lt} {e : Mt.Env} {g : Mt.Env → Ml.Cn × List F → Ml.Cn × List F} {c : Ml.Cn} {ys : List F} {f : F} (hv : c.heavy = false) (h : Mt.lit home l f e = none) : Ml.one home l e g (c, ys) f = (Ml.bump c, ys) := by
  unfold Ml.one; rw [if_neg (by rw [hv]; decide), h]
theorem one_yes {home : Tm} {l : Lt} {e e1 : Mt.Env} {g : Mt.Env → Ml.Cn × List F → Ml.Cn × List F} {c : Ml.Cn} {ys : List F} {f : F} (hv : c.heavy = false) (h : Mt.lit home l f e = some e1) : Ml.one home l e g (c, ys) f = g e1 (Ml.bump c, ys) := by
  unfold Ml.one; rw [if_neg (by rw [hv]; decide), h]
/-- where it was too much, no fact more is looked at -/
theorem fold_all {home : Tm} {l : Lt} {e : Mt.Env} {g : Mt.Env → Ml.Cn × List F → Ml.Cn × List F} {m : List F} {i : Nat} {st st2 : Ml.Cn × List F} (h : (m.take i).foldl (Ml.one home l e g) st = st2) (hv : i = m.length ∨ st2.1.heavy = true) : m.foldl (Ml.one home l e g) st = st2 := by
  rcases hv with rfl | hv
  · rw [List.take_length] at h; exact h
  · rw [← List.take_append_drop i m, List.foldl_append, h]; exact Ml.fold_stop _ hv
/-- what from tells -/
structure FrAns (w : World) (q base M : Nat) (ha : Option Addr) (hc : Nat) (hs : List (List UInt8)) (na : Option Addr) (nc : Nat) (ns : List (List UInt8)) (r : Ru) (m : List F) (ls : List Lt) (e : Mt.Env) (c : Ml.Cn) (ys : List Fv) (en : Ending) (w' : World) : Prop where
  ans : ∃ oa oc zs c', en = .returned (.slice oa (List.length zs) oc) ∧ OwF w' base oa oc zs ∧ EachK w' zs ∧ Wq w' q ha hc hs na nc ns c' ∧ Ml.frm ⟨hs, ns⟩ r m ls e (c, ys.map Fv.f) = (c', zs.map Fv.f)
  but : But q w w'
/-- a rule, facts, names that lie below -/
structure FrIn (w0 wf : World) (x : Rv) (q base M : Nat) (ha : Option Addr) (hc : Nat) (hs : List (List UInt8)) (na : Option Addr) (nc : Nat) (ns : List (List UInt8)) (fa : Option Addr) (fc : Nat) (zs : List Fv) : Prop where
  rule : Rv.Aw w0 x
  sm : SmR x
  facts : ∀ W, But q wf W → Fts W fa fc zs
  zl : zs.length ≤ 1000000
  names : Row sK w0 na nc ns
  q0 : w0.heap.size ≤ q
  qb : q < base
  most : M ≤ 1000000000

set_option maxRecDepth 100000 in
set_option maxHeartbeats 4000000 in
theorem from_nil (w0 wf : World) (x : Rv) (q base M : Nat) (ha : Option Addr) (hc : Nat) (hs : List (List UInt8)) (na : Option Addr) (nc : Nat) (ns : List (List UInt8)) (fa : Option Addr) (fc : Nat) (zs : List Fv) (hi : FrIn w0 wf x q base M ha hc hs na nc ns fa fc zs) (w : World) (ea : Option Addr) (ec : Nat) (e : List Bd) (oa : Option Addr) (oc : Nat) (ys : List Fv) (c : Ml.Cn)
    (hb : Below w0.heap.size w0 w) (hbase : base ≤ w.heap.size) (hq : Wq w q ha hc hs na nc ns c) (hc0 : c.Ok) (he : Row bK w ea ec e) (ho : OwF w base oa oc ys) (hk : EachK w ys) (hM : ys.length + 1 ≤ M + c.done) :
    Calls Tryz.prog 29 #[ptr q, rval x, .int .i64 (x.body.length : Int), .slice fa zs.length fc, .slice ea e.length ec, .slice oa ys.length oc] w (FrAns w q base M ha hc hs na nc ns x.r (zs.map Fv.f) [] e c ys) := by
  have mixed : Tryz.prog.follows .mixedOrders = true := by kernel_rfl
  have iR : (Tryz.prog.info? 62).map (·.size) = some 11 := by kernel_rfl
  have iF : (Tryz.prog.info? 36).map (·.size) = some 4 := by kernel_rfl
  have A0 := below_alloc w (.cells #[str x.home.v, .bool x.home.k.num, .int .i64 x.home.k.n, str x.home.k.s, str x.pred, .slice x.a x.args.length x.cap, str x.to_.v, .bool x.to_.k.num, .int .i64 x.to_.k.n, str x.to_.k.s, .slice x.ba x.body.length x.bcap] 62)
  have h0 := heap_alloc_new w (.cells #[str x.home.v, .bool x.home.k.num, .int .i64 x.home.k.n, str x.home.k.s, str x.pred, .slice x.a x.args.length x.cap, str x.to_.v, .bool x.to_.k.num, .int .i64 x.to_.k.n, str x.to_.k.s, .slice x.ba x.body.length x.bcap] 62)
  have c10 := (rv_home5 (x := x) h0).2.2.2.2
  have hcd := hc0.most
  have hMM := hi.most
  have q1 : ((x.body.length : Int) == (x.body.length : Int)) = true := by simp
  have HI := hideP hi
  have HA := hideP (Below.then (Below.refl _ w) A0)
  have FR : Hid (∀ L, Ml.frm ⟨hs, ns⟩ x.r (zs.map Fv.f) [] e (c, L) = (c, (Ml.hd ⟨hs, ns⟩ x.r e).foldl ins L)) := fun _ => rfl
  go_enter Tryz.func29, Tryz.ntmps29
  go_wp2_with (refine wpList_load_all rfl 62 _ rfl w.heap.size 11 62 (rv x) _ rfl (by with_reducible exact h0) rfl Tryz.underlying62 rfl iR ?_)
  have b1 := hb.trans (A0.mono hb.size)
  refine (rHead_at x ea ec e _ (hi.rule.below b1 (Nat.le_refl _)) (he.below A0 (Nat.le_refl _)) (by have := hi.sm.args; omega)).mono ?_
  rintro en w1 ⟨⟨z, rfl, RZ, hz⟩, B1⟩
  have T1 := Below.then A0 B1
  have N1 := heap_alloc_new w1 (.cells #[.string { data := #[] }, .string { data := #[] }, .string { data := #[] }, .slice none 0 0] 36)
  clear h0 c10 A0 B1 b1
  rcases fact_two hz with ⟨u1, u2⟩ | ⟨u1, u2⟩
  · rw [u2]
    have FS := hideP (hd_none (w := ⟨hs, ns⟩) u1)
    clear u1 u2 hz
    go_wp2_with (refine wpList_store_all rfl 36 _ _ rfl w1.heap.size 4 _ 36 (fv z) rfl rfl N1 rfl rfl iF rfl ?_; intro w2 N2 d2; have B2 := below_tok d2)
    have T2 := Below.then T1 B2
    go_quiet (fail)
    go_wp2_with fail
    go_ret
    have T3 : Below w.heap.size w (w2.drewN nq) := Below.then T2 (Grew.drewN w2 nq).below
    exact ⟨⟨oa, oc, ys, c, rfl, ho.below T3, hk.safe (Safe.below T3), hq.next T3, by rw [FR.out, FS.out]; rfl⟩, But.of_below T3⟩
  · rw [u2]
    go_wp2_with (refine wpList_store_all rfl 36 _ _ rfl w1.heap.size 4 _ 36 (fv z) rfl rfl N1 rfl rfl iF rfl ?_; intro w2 N2 d2; have B2 := below_tok d2)
    have T2 := Below.then T1 B2
    have RZ2 := RZ.safe (Safe.below B2 : Safe 56 _ _)
    have Q2 := hq.next T2
    have W2 : Below w0.heap.size w0 w2 := hb.trans (T2.mono hb.size)
    have GD := (Below.refl w2.heap.size w2).drew
    have K1 : ∀ W, Below w2.heap.size w2 W → (W.cell? ⟨q, 1, none⟩ = some (.slice na ns.length nc) ∧ W.cell? ⟨w1.heap.size, 0, none⟩ = some (str z.at_)) := fun W h => ⟨by rw [heap_cell (below_heap h Q2)]; rfl, by rw [heap_cell (below_heap h N2)]; rfl⟩
    have HK := hideP K1
    have TI := hideP (fun W (h : Below w2.heap.size w2 W) => rin_at W na nc ns z.at_ (HI.out.names.below (W2.trans (h.mono W2.size)) (Nat.le_refl _)))
    clear K1 RZ d2 T1
    go_region_held3 (fun W => W.cell? ⟨q, 1, none⟩ = some (.slice na ns.length nc) ∧ W.cell? ⟨w1.heap.size, 0, none⟩ = some (str z.at_)) (first | with_reducible exact HK.out _ GD | with_reducible exact HK.out _ G3) (first
      | (go_at_call 53; refine (TI.out _ GD).mono ?_; rintro e3 w3 ⟨rfl, e3⟩; have G3 : Below w2.heap.size w2 w3 := (by rw [← e3]; exact GD)))
    have B3 := G3
    have T3 := Below.then T2 B3
    have N3 := below_heap B3 N2
    have RZ3 := RZ2.safe (Safe.below B3 : Safe 56 _ _)
    clear e3 TI HK GD
    by_cases hin : z.at_ ∈ ns
    · have FS := hideP (hd_in (w := ⟨hs, ns⟩) u1 hin)
      rw [decide_eq_true hin]
      have TW := hideP (with_at oa oc ys z w3 base (ho.below T3) (fun y hy => row_args ((hk.safe (Safe.below T3 : Safe 56 _ _)) y hy).row) (row_args RZ3.row) (by omega) (Nat.le_trans hbase T3.size))
      clear u1 u2 hz hin
      go_wp2_with (refine wpList_load_all rfl 36 _ rfl w1.heap.size 4 36 (fv z) _ rfl N3 rfl Tryz.underlying36 rfl iF ?_)
      refine TW.out.mono ?_
      rintro e w4 ⟨a4, c4, us, rfl, OF4, hin4, hf4, hl4, B4⟩
      have T4 := Below.then T3 B4
      have HF := hideP hf4
      have HIN := hideP hin4
      clear hf4 hin4 TW
      go_wp2_with fail
      go_ret
      have K4 := hk.safe (Safe.below T4 : Safe 56 _ _)
      refine ⟨⟨a4, c4, us, c, rfl, OF4, fun y hy => ?_, hq.next T4, by rw [FR.out, FS.out, HF.out]; rfl⟩, But.of_below T4⟩
      rcases HIN.out y hy with h | rfl
      · exact K4 y h
      · exact RZ3.safe (Safe.below B4)
    · have FS := hideP (hd_out (w := ⟨hs, ns⟩) u1 hin)
      rw [decide_eq_false hin]
      clear u1 u2 hz hin
      go_wp2_with fail
      go_ret
      exact ⟨⟨oa, oc, ys, c, rfl, ho.below T3, hk.safe (Safe.below T3), hq.next T3, by rw [FR.out, FS.out]; rfl⟩, But.of_below T3⟩
end Go.Proofs.YtdehimbfcilhpaaGreatDoor
