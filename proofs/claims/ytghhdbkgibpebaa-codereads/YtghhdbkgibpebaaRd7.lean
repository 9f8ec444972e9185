/-
  What the program's reader does: facts and literals.
-/
import Derived.Deep.LoopGhost
import Derived.Test.YtghhdbkgibpebaaRd5
import Derived.Test.YtghhdbkgibpebaaMn
import Derived.Test.YtghhdbkgibpebaaBs
namespace Go.Proofs.Ytghhdbkgibpebaa
open Go.RowKit Go.Sort

theorem Rd.safe {ty ty' : TypeId} {w w' : World} {R : Nat} {a : Option Addr} {c : Nat} {l : List UInt8} {st : St} (h : Rd ty' w R a c l st) (hb : But R w w') (hn : ty ≠ ty') : Safe ty w w' := by
  obtain ⟨x, e, g, h1, _⟩ := h.obj
  exact Safe.but hb h1 hn
theorem pos_list {α : Type} {l : List UInt8} {m : Int} {p : Pr α} {F : List α → Bool} {B : α → List UInt8} {st : St} (hp : Snd l p B) : Pos l (stp (pList l m p) F st) := pos_stp fun x v j h => by
  obtain ⟨n, i, h1, h2⟩ := Pr.bnd_inv h
  have h3 := pCount_range h1
  have := snd_many hp n.toNat i v j (by omega) (by omega) h2
  omega
theorem anyF_no {α : Type} : (anyF (noF : α → Bool)) = noF := by funext xs; simp [anyF, noF]
/-- a literal whose Args lie in a block of terms -/
def Lv.AtT (w : World) (x : Lv) : Prop := RowT tK 51 w x.a x.cap x.args
theorem Lv.AtT.safe' {w w' : World} {x : Lv} (h : Lv.AtT w x) (s : Safe 51 w w') : Lv.AtT w' x := RowT.safe h s
theorem Lv.AtT.safe {w w' : World} {x : Lv} (h : Lv.AtT w x) (s : ∀ ty, (ty ≠ 69 ∧ ty ≠ 80) → Safe ty w w') : Lv.AtT w' x := RowT.safe h (s _ ⟨by decide, by decide⟩)

set_option maxRecDepth 100000 in
set_option maxHeartbeats 4000000 in
theorem fact_r (R : Nat) (a : Option Addr) (c : Nat) (l : List UInt8) (st : St) (w : World) (h : Rd 69 w R a c l st) :
    Calls Try.prog 35 #[ptr R] w fun e w' => ∃ x : Fv, e = .returned x.val ∧ RowT kK 49 w' x.a x.cap x.ks ∧ (∀ v, Got (pFact l) st v → x.f = v) ∧ Rd 69 w' R a c l (stp (pFact l) noF st) ∧ But R w w' := by
  have hT := fun W st (h : Rd 69 W R a c l st) => text_r R a c l st W h
  have hL := fun W st (h : Rd 69 W R a c l st) => readListConst_r 48 (pConst l) noF constB (fun _ => True) R a c l st W h (by omega) (fun W s h hp _ => constant_r R a c l s W h hp) trivial (fun _ _ => trivial) (snd_const l)
  have hlt := h.lt
  have B0 := Below.then (below_alloc w (.cells #[.string .empty, .string .empty, .string .empty, .slice none 0 0] 24)) (below_alloc _ (.cells #[.string .empty, .string .empty, .string .empty, .slice none 0 0] 24))
  have H0 := below_heap (below_alloc _ (.cells #[.string .empty, .string .empty, .string .empty, .slice none 0 0] 24)) (heap_alloc_new w (.cells #[.string .empty, .string .empty, .string .empty, .slice none 0 0] 24))
  have V0 := heap_alloc_new (w.alloc (.cells #[.string .empty, .string .empty, .string .empty, .slice none 0 0] 24)) (.cells #[.string .empty, .string .empty, .string .empty, .slice none 0 0] 24)
  rw [show (w.alloc (.cells #[.string .empty, .string .empty, .string .empty, .slice none 0 0] 24)).heap.size = w.heap.size + 1 by simp] at V0
  have R0 := h.below B0
  have b0 : But R w _ := But.of_below B0
  have iN : (Try.prog.info? 24).map (·.size) = some 4 := by kernel_rfl
  go_enter Try.func35, Try.ntmps35
  go_wp2_with fail
  refine (hT _ _ R0).mono ?_; rintro e w1 ⟨x1, rfl, k1, R1, c1⟩
  have V1 := c1.heap (by omega) V0
  have H1 := c1.heap (by omega) H0
  have B1 := b0.trans c1
  have K1 := hideP k1
  generalize hS : w.heap.size = S at *
  have HS := hideP hS; clear hS
  clear V0 H0 b0 k1 c1
  go_wp2_with (refine wpList_store_cel rfl 9 _ _ rfl (S + 1) 0 4 24 (str x1) #[str x1, .string .empty, .string .empty, .slice none 0 0] rfl rfl V1 rfl (by decide) (by kernel_rfl) rfl rfl ?_; intro z1 U1 d1)
  have G1 := d1.heap (by omega) H1
  have Q1 := R1.but d1 (by omega)
  have D1 := B1.fresh d1 (by rw [HS.out]; exact Nat.le_succ _)
  clear V1 H1 R1 B1 d1 
  have R1 := Q1; clear Q1
  refine (hT _ _ R1).mono ?_; rintro e w2 ⟨x2, rfl, k2, R2, c2⟩
  have V2 := c2.heap (by omega) U1
  have H2 := c2.heap (by omega) G1
  have B2 := D1.trans c2
  have K2 := hideP k2
  clear U1 G1 R1 D1 k2 c2
  go_wp2_with (refine wpList_store_cel rfl 9 _ _ rfl (S + 1) 1 4 24 (str x2) #[str x1, str x2, .string .empty, .slice none 0 0] rfl rfl V2 rfl (by decide) (by kernel_rfl) rfl rfl ?_; intro z2 U2 d2)
  have G2 := d2.heap (by omega) H2
  have Q2 := R2.but d2 (by omega)
  have D2 := B2.fresh d2 (by rw [HS.out]; exact Nat.le_succ _)
  clear V2 H2 R2 B2 d2 
  have R2 := Q2; clear Q2
  refine (hT _ _ R2).mono ?_; rintro e w3 ⟨x3, rfl, k3, R3, c3⟩
  have V3 := c3.heap (by omega) U2
  have H3 := c3.heap (by omega) G2
  have B3 := D2.trans c3
  have K3 := hideP k3
  clear U2 G2 R2 D2 k3 c3
  go_wp2_with (refine wpList_store_cel rfl 9 _ _ rfl (S + 1) 2 4 24 (str x3) #[str x1, str x2, str x3, .slice none 0 0] rfl rfl V3 rfl (by decide) (by kernel_rfl) rfl rfl ?_; intro z3 U3 d3)
  have G3 := d3.heap (by omega) H3
  have Q3 := R3.but d3 (by omega)
  have D3 := B3.fresh d3 (by rw [HS.out]; exact Nat.le_succ _)
  clear V3 H3 R3 B3 d3 
  have R3 := Q3; clear Q3
  refine (hL _ _ R3).mono ?_; rintro e w4 ⟨a4, c4, ks, rfl, row4, k4, R4, c4d⟩
  have V4 := c4d.heap (by omega) U3
  have H4 := c4d.heap (by omega) G3
  have B4 := D3.trans c4d
  have K4 := hideP k4
  clear U3 G3 R3 D3 k4 c4d
  go_wp2_with (first
    | (refine wpList_store_cel rfl 22 _ _ rfl (S + 1) 3 4 24 (.slice a4 ks.length c4) #[str x1, str x2, str x3, .slice a4 ks.length c4] rfl rfl V4 rfl (by decide) (by kernel_rfl) rfl rfl ?_; intro z4 U4 d4)
    | (refine wpList_load_all rfl 24 _ rfl (S + 1) 4 24 (fv ⟨x1, x2, x3, a4, c4, ks⟩) _ rfl U4 rfl Try.underlying24 rfl iN ?_)
    | (refine wpList_store_all rfl 24 _ _ rfl S 4 _ 24 (fv ⟨x1, x2, x3, a4, c4, ks⟩) rfl rfl (d4.heap (by omega) H4) rfl rfl iN rfl ?_; intro wf Hf bf))
  have HGf := hideP (d4.heap (show S ≠ S + 1 by omega) H4)
  have Q4 := R4.but d4 (by omega)
  have D4 := B4.fresh d4 (by rw [HS.out]; exact Nat.le_succ _)
  have row4' := row4.safe (Safe.but d4 V4 (by decide))
  clear V4 H4 R4 B4 d4 row4
  have R4 := Q4; clear Q4
  have row4 := row4'; clear row4'
  have hw : w.heap.size ≤ S := by rw [HS.out]; exact Nat.le_refl _
  have hGf := HGf.out
  refine bodyPost_ret (results_cell (b := S) rfl rfl Hf Try.underlying24 rfl (by kernel_rfl)) rfl ⟨⟨x1, x2, x3, a4, c4, ks⟩, rfl, row4.safe (Safe.but bf hGf (by decide)), fun v hv => ?_, ?_, D4.fresh bf hw⟩
  · skip
    obtain ⟨h1, h2, h3, h4⟩ := got_fact hv
    have e1 := K1.out _ h1; have e2 := K2.out _ h2; have e3 := K3.out _ h3; have e4 := K4.out _ h4
    rw [Fv.f, e1, e2, e3, e4]
  · rw [st_fact]
    have := R4.but bf (by omega); rw [anyF_no] at this; exact this

set_option maxRecDepth 100000 in
set_option maxHeartbeats 4000000 in
theorem literal_r (R : Nat) (a : Option Addr) (c : Nat) (l : List UInt8) (st : St) (w : World) (h : Rd 69 w R a c l st) (hp : Pos l st) :
    Calls Try.prog 89 #[ptr R] w fun e w' => ∃ x : Lv, e = .returned (lval x) ∧ Lv.AtT w' x ∧ (∀ v, Got (pLit l) st v → Lv.l x = Rl.l v) ∧ Rd 69 w' R a c l (stp (pLit l) (Rl.flag Rt.hollow) st) ∧ But R w w' := by
  have hT := fun W st (h : Rd 69 W R a c l st) => text_r R a c l st W h
  have hM := fun W st (h : Rd 69 W R a c l st) (hp : Pos l st) => term_r R a c l st W h hp
  have hL := fun W st (h : Rd 69 W R a c l st) => readListTerm_r 48 (pTerm l) Rt.hollow Rt.B (fun _ => True) R a c l st W h (by omega) (fun W s h hp _ => term_r R a c l s W h hp) trivial (fun _ _ => trivial) (snd_term l)
  have hlt := h.lt
  have B0 := Below.then (below_alloc w (.cells #[.string .empty, .bool false, .int .i64 0, .string .empty, .string .empty, .slice none 0 0, .string .empty, .bool false, .int .i64 0, .string .empty] 80)) (below_alloc _ (.cells #[.string .empty, .bool false, .int .i64 0, .string .empty, .string .empty, .slice none 0 0, .string .empty, .bool false, .int .i64 0, .string .empty] 80))
  have H0 := below_heap (below_alloc _ (.cells #[.string .empty, .bool false, .int .i64 0, .string .empty, .string .empty, .slice none 0 0, .string .empty, .bool false, .int .i64 0, .string .empty] 80)) (heap_alloc_new w (.cells #[.string .empty, .bool false, .int .i64 0, .string .empty, .string .empty, .slice none 0 0, .string .empty, .bool false, .int .i64 0, .string .empty] 80))
  have V0 := heap_alloc_new (w.alloc (.cells #[.string .empty, .bool false, .int .i64 0, .string .empty, .string .empty, .slice none 0 0, .string .empty, .bool false, .int .i64 0, .string .empty] 80)) (.cells #[.string .empty, .bool false, .int .i64 0, .string .empty, .string .empty, .slice none 0 0, .string .empty, .bool false, .int .i64 0, .string .empty] 80)
  rw [show (w.alloc (.cells #[.string .empty, .bool false, .int .i64 0, .string .empty, .string .empty, .slice none 0 0, .string .empty, .bool false, .int .i64 0, .string .empty] 80)).heap.size = w.heap.size + 1 by simp] at V0
  have R0 := h.below B0
  have b0 : But R w _ := But.of_below B0
  have iN : (Try.prog.info? 80).map (·.size) = some 10 := by kernel_rfl
  go_enter Try.func89, Try.ntmps89
  go_wp2_with fail
  have P0 := hp
  refine (hM _ _ R0 P0).mono ?_; rintro e w1 ⟨x1, rfl, k1, R1, c1⟩
  have V1 := c1.heap (by omega) V0
  have H1 := c1.heap (by omega) H0
  have B1 := b0.trans c1
  have K1 := hideP k1
  have pp1 : Pos l (stp (pTerm l) Rt.hollow (st)) := pos_snd (f := Rt.hollow) (snd_term l) P0
  generalize hS : w.heap.size = S at *
  have HS := hideP hS; clear hS
  clear V0 H0 b0 k1 c1
  go_wp2_with (refine wpList_store_rec rfl 51 _ _ rfl (S + 1) 0 10 4 80 (tv x1) #[str x1.v, .bool x1.k.num, .int .i64 x1.k.n, str x1.k.s, .string .empty, .slice none 0 0, .string .empty, .bool false, .int .i64 0, .string .empty] rfl rfl V1 rfl rfl (by decide) (by kernel_rfl) rfl rfl ?_; intro z1 U1 d1)
  have G1 := d1.heap (by omega) H1
  have Q1 := R1.but d1 (by omega)
  have D1 := B1.fresh d1 (by rw [HS.out]; exact Nat.le_succ _)
  clear V1 H1 R1 B1 d1 
  have R1 := Q1; clear Q1
  have ps1 := pp1; clear pp1
  refine (hT _ _ R1).mono ?_; rintro e w2 ⟨x2, rfl, k2, R2, c2⟩
  have V2 := c2.heap (by omega) U1
  have H2 := c2.heap (by omega) G1
  have B2 := D1.trans c2
  have K2 := hideP k2
  have pp2 : Pos l (stp (pText l) noF (stp (pTerm l) Rt.hollow (st))) := pos_text l _
  clear U1 G1 R1 D1 k2 c2
  go_wp2_with (refine wpList_store_cel rfl 9 _ _ rfl (S + 1) 4 10 80 (str x2) #[str x1.v, .bool x1.k.num, .int .i64 x1.k.n, str x1.k.s, str x2, .slice none 0 0, .string .empty, .bool false, .int .i64 0, .string .empty] rfl rfl V2 rfl (by decide) (by kernel_rfl) rfl rfl ?_; intro z2 U2 d2)
  have G2 := d2.heap (by omega) H2
  have Q2 := R2.but d2 (by omega)
  have D2 := B2.fresh d2 (by rw [HS.out]; exact Nat.le_succ _)
  clear V2 H2 R2 B2 d2 
  have R2 := Q2; clear Q2
  have ps2 := pp2; clear pp2
  refine (hL _ _ R2).mono ?_; rintro e w3 ⟨a3, c3, ks, rfl, row3, k3, R3, c3d⟩
  have V3 := c3d.heap (by omega) U2
  have H3 := c3d.heap (by omega) G2
  have B3 := D2.trans c3d
  have K3 := hideP k3
  have pp3 : Pos l (stp (pList l 48 (pTerm l)) (anyF Rt.hollow) (stp (pText l) noF (stp (pTerm l) Rt.hollow (st)))) := pos_list (snd_term l)
  clear U2 G2 R2 D2 k3 c3d
  go_wp2_with (refine wpList_store_cel rfl 52 _ _ rfl (S + 1) 5 10 80 (.slice a3 ks.length c3) #[str x1.v, .bool x1.k.num, .int .i64 x1.k.n, str x1.k.s, str x2, .slice a3 ks.length c3, .string .empty, .bool false, .int .i64 0, .string .empty] rfl rfl V3 rfl (by decide) (by kernel_rfl) rfl rfl ?_; intro z3 U3 d3)
  have G3 := d3.heap (by omega) H3
  have Q3 := R3.but d3 (by omega)
  have D3 := B3.fresh d3 (by rw [HS.out]; exact Nat.le_succ _)
  have row3' := row3.safe (Safe.but d3 V3 (by decide))
  clear V3 H3 R3 B3 d3 row3
  have R3 := Q3; clear Q3
  have row3 := row3'; clear row3'
  have ps3 := pp3; clear pp3
  have P3 := ps3
  refine (hM _ _ R3 P3).mono ?_; rintro e w4 ⟨x4, rfl, k4, R4, c4⟩
  have V4 := c4.heap (by omega) U3
  have H4 := c4.heap (by omega) G3
  have row3' := row3.safe (R3.safe c4 (by decide))
  have B4 := D3.trans c4
  have K4 := hideP k4
  have pp4 : Pos l (stp (pTerm l) Rt.hollow (stp (pList l 48 (pTerm l)) (anyF Rt.hollow) (stp (pText l) noF (stp (pTerm l) Rt.hollow (st))))) := pos_snd (f := Rt.hollow) (snd_term l) P3
  clear U3 G3 R3 D3 k4 c4 row3
  have row3 := row3'; clear row3'
  go_wp2_with (first
    | (refine wpList_store_rec rfl 51 _ _ rfl (S + 1) 6 10 4 80 (tv x4) #[str x1.v, .bool x1.k.num, .int .i64 x1.k.n, str x1.k.s, str x2, .slice a3 ks.length c3, str x4.v, .bool x4.k.num, .int .i64 x4.k.n, str x4.k.s] rfl rfl V4 rfl rfl (by decide) (by kernel_rfl) rfl rfl ?_; intro z4 U4 d4)
    | (refine wpList_load_all rfl 80 _ rfl (S + 1) 10 80 (lv ⟨x1, x2, a3, c3, ks, x4⟩) _ rfl U4 rfl Try.underlying80 rfl iN ?_)
    | (refine wpList_store_all rfl 80 _ _ rfl S 10 _ 80 (lv ⟨x1, x2, a3, c3, ks, x4⟩) rfl rfl (d4.heap (by omega) H4) rfl rfl iN rfl ?_; intro wf Hf bf))
  have HGf := hideP (d4.heap (show S ≠ S + 1 by omega) H4)
  have Q4 := R4.but d4 (by omega)
  have D4 := B4.fresh d4 (by rw [HS.out]; exact Nat.le_succ _)
  have row3' := row3.safe (Safe.but d4 V4 (by decide))
  clear V4 H4 R4 B4 d4 row3
  have R4 := Q4; clear Q4
  have row3 := row3'; clear row3'
  have ps4 := pp4; clear pp4
  have hw : w.heap.size ≤ S := by rw [HS.out]; exact Nat.le_refl _
  have hGf := HGf.out
  refine bodyPost_ret (results_cell (b := S) rfl rfl Hf Try.underlying80 rfl (by kernel_rfl)) rfl ⟨⟨x1, x2, a3, c3, ks, x4⟩, rfl, row3.safe (Safe.but bf hGf (by decide)), fun v hv => ?_, ?_, D4.fresh bf hw⟩
  · skip
    obtain ⟨h1, h2, h3, h4⟩ := got_lit Rt.hollow hv
    have e1 := K1.out _ h1; have e2 := K2.out _ h2; have e3 := K3.out _ h3; have e4 := K4.out _ h4
    rw [Lv.l, Rl.l, e1, e2, e3, e4]
  · rw [st_lit l Rt.hollow]
    exact R4.but bf (by omega)

end Go.Proofs.Ytghhdbkgibpebaa

/-
  The program reads a list.
-/
namespace Go.Proofs.Ytghhdbkgibpebaa
open Go.RowKit Go.Sort


set_option maxRecDepth 100000 in
set_option maxHeartbeats 4000000 in
theorem readListLiteral_r (m : Int) (p : Pr Rl) (f : Rl → Bool) (B : Rl → List UInt8) (J : St → Prop) (R : Nat) (a : Option Addr) (c : Nat) (l : List UInt8) (st : St) (w : World) (h : Rd 69 w R a c l st) (hm : m ≤ 1000000)
    (hE : ∀ W s, Rd 69 W R a c l s → Pos l s → J s → Calls Try.prog 89 #[ptr R] W fun e w' => ∃ t : Lv, e = .returned (lval t) ∧ Lv.AtT w' t ∧ (∀ v, Got p s v → Lv.l t = Rl.l v) ∧ Rd 69 w' R a c l (stp p f s) ∧ But R W w')
    (hJ0 : J (stp (pCount l m) noF st)) (hJ1 : ∀ s, J s → J (stp p f s)) (hB : Snd l p B) :
    Calls Try.prog 88 #[ptr R, .int .i64 m, .func (.func 89) #[ptr R] #[]] w fun e w' => ∃ a' c' ys, e = .returned (.slice a' (List.length ys) c') ∧ RowT lK 80 w' a' c' ys ∧ (∀ y ∈ ys, Lv.AtT w' y) ∧ (∀ vs, Got (pList l m p) st vs → List.map Lv.l ys = List.map Rl.l vs) ∧ Rd 69 w' R a c l (stp (pList l m p) (anyF f) st) ∧ But R w w' := by
  have eg : ∀ args w, (callFunc 89 args).run Try.prog w = .ok (.enter 89 args) w := enters_of Try.func89 (by kernel_rfl) rfl
  have hC := count_r m R a c l st w h
  have hlt := h.lt
  have iN : (Try.prog.info? 80).map (·.size) = some 10 := by kernel_rfl
  have iZ : (Try.prog.info? 80).map (fun i => (i.zero, i.size, i.bytes)) = some (some (.agg #[.string .empty, .bool false, .int .i64 0, .string .empty, .string .empty, .slice none 0 0, .string .empty, .bool false, .int .i64 0, .string .empty]), lK.k, 136) := by kernel_rfl
  go_enter Try.func88, Try.ntmps88
  go_wp2_with fail
  refine hC.mono ?_; rintro e w1 ⟨s, rfl, ⟨hs2, hs3⟩, R1, b1⟩
  have hs0 : 0 ≤ s ∧ s ≤ 1000000 := by
    rcases got_em (pCount l m) st with ⟨n, hn⟩ | ⟨hn, _⟩
    · have := count_le hn; rw [hs2 n hn]; omega
    · rw [hs3 hn]; omega
  obtain ⟨N, rfl⟩ := Int.eq_ofNat_of_zero_le hs0.1
  have hN : N ≤ 1000000 := by omega
  have hP1 := pos_count l m st
  have HL := hideP (fun F => st_list (F := F) (p := p) (N : Int) hs2)
  have HG := hideP (fun vs => got_list (p := p) (vs := vs) (N : Int) hs2)
  simp only [Int.toNat_natCast] at HL HG
  clear hC hs2 hs3 hs0 h hm
  generalize stp (pCount l m) noF st = s1 at *
  go_wp2_with fail
  go_loopw [7, 8, 12] (fun v7 _ v12 wr => ∃ (k : Nat) (Z : List Lv), v12 = .int .i64 (k : Int) ∧ k ≤ N ∧ Hid (Z.length = k) ∧ wr.ownsRow w.heap.size 80 lK.k v7 Z.length (Z.flatMap lK.enc) ∧ (∀ z ∈ Z, Lv.AtT wr z) ∧ But R w wr ∧ Rd 69 wr R a c l (stp (pMany p k) (anyF f) s1) ∧ Pos l (stp (pMany p k) (anyF f) s1) ∧ J (stp (pMany p k) (anyF f) s1) ∧ Hid (∀ xs, Got (pMany p k) s1 xs → List.map Lv.l Z = List.map Rl.l xs)) (fun _ _ v12 _ => N - (intOf v12).toNat)
  case atStart =>
    refine ⟨0, [], rfl, by omega, rfl, ⟨rfl, .inl ⟨rfl, rfl⟩⟩, fun _ h => by simp at h, b1, ?_, ?_, ?_, fun xs hx => ?_⟩
    · rw [stp_many_zero]; exact R1
    · rw [stp_many_zero]; exact hP1
    · rw [stp_many_zero]; exact hJ0
    · obtain ⟨_, _, _, _, hj⟩ := hx
      have := (ret_inv hj).1
      subst this; rfl
  case round =>
    obtain ⟨k, Z, rfl, hk, hZ, hown, hat, hbt, hRd, hPo, hJ, hgot⟩ := hrel
    by_cases hlt' : k < N
    · have q2 : (k : Int) < (N : Int) := by omega
      have hE1 := hE wr _ hRd hPo hJ
      have hst := (stp_many_succ p f k s1).symm
      have hP2 := pos_snd (f := f) hB hPo
      have hJ2 := hJ1 _ hJ
      have hg2 : Hid (∀ t, (∀ v, Got p (stp (pMany p k) (anyF f) s1) v → Lv.l t = Rl.l v) → ∀ xs, Got (pMany p (k + 1)) s1 xs → List.map Lv.l (Z ++ [t]) = List.map Rl.l xs) := fun t ht xs hx => by
        obtain ⟨ys, x, h1, h2, rfl⟩ := got_many_succ (f := f) hx
        rw [List.map_append, List.map_append, hgot.out ys h1]; simp only [List.map_cons, List.map_nil, ht x h2]
      rw [hst] at hE1 hP2 hJ2
      have Hst := hideP hst
      clear hJ hPo hst hE
      generalize stp (pMany p k) (anyF f) s1 = sk at *
      go_wp2_with fail
      refine hE1.mono ?_; rintro e w2 ⟨t, rfl, at2, hgt, R2, b2⟩
      obtain ⟨x2, er, g2, Q2, q3⟩ := R2.obj
      have Hgt := hideP hgt; clear hgt hE1
      have hlt2 := R2.lt
      have hB2 : But R w w2 := hbt.trans b2
      obtain ⟨_, _, _, Q1, _⟩ := hRd.obj
      have S2 : Safe 80 wr w2 := Safe.but b2 Q1 (by decide)
      have hown2 := ownsRow_keep hown S2
      have hat2 : ∀ z ∈ Z, Lv.AtT w2 z := fun z hz => Lv.AtT.safe (hat z hz) (fun ty hn => Safe.but b2 Q1 hn.1)
      clear hown hat hRd Q1 S2 b2 hbt
      have hQ : ∀ W, But w2.heap.size (w2.alloc (.cells #[.string .empty, .bool false, .int .i64 0, .string .empty, .string .empty, .slice none 0 0, .string .empty, .bool false, .int .i64 0, .string .empty] 80)) W → W.cell? ⟨R, 2, none⟩ = some (.int .i64 er) := fun W hW => by
        rw [heap_cell (hW.heap (by omega) (below_heap (below_alloc w2 _) Q2))]; rfl
      have hF : ∀ W, But w2.heap.size (w2.alloc (.cells #[.string .empty, .bool false, .int .i64 0, .string .empty, .string .empty, .slice none 0 0, .string .empty, .bool false, .int .i64 0, .string .empty] 80)) W → Below w2.heap.size w2 W := fun W hW => (below_alloc w2 _).trans (hW.lower (Nat.le_refl _) (by simp))
      have oK : (lv t).all (·.oneCell') = true := rfl
      have nK : (lv t).length = 10 := rfl
      by_cases he : er = 0
      · have hq : (er != 0) = false := by simp [he]
        have Hq3 := hideP q3; have He := hideP he; clear q3 he
        go_wp2_with (first
          | (refine wpList_store_all rfl 80 _ _ rfl w2.heap.size 10 #[.string .empty, .bool false, .int .i64 0, .string .empty, .string .empty, .slice none 0 0, .string .empty, .bool false, .int .i64 0, .string .empty] 80 (lv t) rfl rfl (heap_alloc_new w2 _) rfl nK iN oK ?_; intro w3 V3 b3; have d3 := hQ w3 b3; have B3 := hF w3 b3)
          | (refine wpList_load_all rfl 80 _ rfl w2.heap.size 10 80 (lv t) _ rfl V3 nK Try.underlying80 rfl iN ?_)
          | (refine wpList_build_one rfl 53 80 _ rfl (lv t) _ 10 136 rfl nK (by decide) (by decide) Try.underlying53 iZ ?_)
          | (at_builtin; refine wpList_append_rec lK _ rfl _ _ 53 80 rfl _ 136 Try.underlying53 iZ rfl (by decide) w.heap.size u7 Z [t] (some ⟨w3.heap.size, 0, none⟩) 1 1 rfl (ownsRow_keep hown2 (Safe.below (Below.then B3 (below_alloc w3 _)))) rfl rfl (row_new lK w3 _ 80 t rfl) (Nat.le_trans hB2.size (Nat.le_trans B3.size (below_alloc w3 _).size)) (by have := hZ.out; simp only [List.length_cons, List.length_nil]; omega) ?_; intro v4 w4 o4 g4))
        have B34 := Below.then B3 (below_alloc w3 (.cells (lv t).toArray 80))
        have hown3 := ownsRow_keep hown2 (Safe.below (ty := 80) B34)
        have BG : Below w.heap.size w3 w4 := by
          have h1 : Below w.heap.size w3 (w3.alloc (.cells (lv t).toArray 80)) := (below_alloc w3 _).mono (Nat.le_trans hB2.size B3.size)
          refine h1.trans ((Below.refl _ _).grown g4 (Nat.le_trans hB2.size B34.size) fun j hj => ?_)
          rcases hown3.2 with ⟨h0, _⟩ | ⟨gg, cap, cur, hv, hb, _⟩
          · rw [h0] at hj; cases hj
          · rw [hv] at hj; cases hj; exact hb
        have hneR : some R ≠ u7.ownBlock := fun e => by
          rcases hown3.2 with ⟨h0, _⟩ | ⟨gg, cap, cur, hv, hb, _⟩
          · rw [h0] at e; cases e
          · rw [hv] at e
            have : R = gg := by cases e; rfl
            omega
        have BR : But R w w4 := ⟨(g4.os.trans B34.os).trans hB2.os, (g4.tape.trans B34.tape).trans hB2.tape, (g4.output.trans B34.output).trans hB2.output, Nat.le_trans hB2.size (Nat.le_trans B34.size g4.size), fun j hj hn => by
          rw [BG.block j hj, B3.block j (Nat.lt_of_lt_of_le hj hB2.size), hB2.block j hj hn]⟩
        have hR4 : Rd 69 w4 R a c l (stp (pMany p (k + 1)) (anyF f) s1) := by
          have h3 := R2.below B34
          obtain ⟨y1, y2, y3, y4, y5⟩ := h3.obj
          refine ⟨⟨y1, y2, y3, ?_, y5⟩, ?_, h3.low, h3.len, h3.rng⟩
          · rw [g4.block R (heap_lt y4) hneR]; exact y4
          · refine ⟨h3.holds.1, h3.holds.2.1, fun ad ha j u hu => ?_⟩
            have hc := h3.holds.2.2 ad ha j u hu
            have hj : 0 < l.length := by have := (List.getElem?_eq_some_iff.1 hu).1; rw [cs_length] at this; omega
            have hlw := h3.low ad ha hj
            rw [World.cell?_of_block (w := w3.alloc (.cells (lv t).toArray 80)) (g4.block _ (cell_block hc) (by
              rw [addr_add_block]; intro e
              rcases hown3.2 with ⟨h0, _⟩ | ⟨gg, cap, cur, hv, hb, _⟩
              · rw [h0] at e; cases e
              · rw [hv] at e
                have : ad.block = gg := by cases e; rfl
                omega))]
            exact hc
        go_wp2_with fail
        refine ⟨⟨k + 1, Z ++ [t], by simp, by omega, ?_, o4, fun z hz => ?_, BR, hR4, hP2, hJ2, hg2.out t Hgt.out⟩, by simp [intOf]; omega⟩
        · show _ = _
          have := hZ.out; simp [this]
        · have sf : ∀ ty, (ty ≠ 69 ∧ ty ≠ 80) → Safe ty w2 w4 := fun ty hn => (Safe.below B34).trans (Safe.grown hown3 g4 hn.2)
          rcases List.mem_append.1 hz with hz | hz
          · exact Lv.AtT.safe (hat2 z hz) sf
          · rw [List.mem_singleton] at hz; subst hz; exact Lv.AtT.safe at2 sf
      · have hq : (er != 0) = true := by simpa using he
        have hse : stp (pMany p (k + 1)) (anyF f) s1 = .error er := by rw [q3]; unfold stOf; rw [if_neg he]
        have hfin := many_err hse (show k + 1 ≤ N by omega)
        have Hfin := hideP hfin; have Hse := hideP hse
        clear q3 he hfin hse
        go_wp2_with (refine wpList_store_all rfl 80 _ _ rfl w2.heap.size 10 #[.string .empty, .bool false, .int .i64 0, .string .empty, .string .empty, .slice none 0 0, .string .empty, .bool false, .int .i64 0, .string .empty] 80 (lv t) rfl rfl (heap_alloc_new w2 _) rfl nK iN oK ?_; intro w3 V3 b3; have d3 := hQ w3 b3; have B3 := hF w3 b3)
        go_ret
        refine ⟨none, 0, [], rfl, RowT.nil _ _ _, fun y hy => by simp at hy, fun vs hv => ?_, ?_, hB2.below B3⟩
        · exact (got_no Hfin.out (HG.out vs hv)).elim
        · rw [HL.out, Hfin.out, ← Hse.out]; exact R2.below B3
    · have q2 : ¬ (k : Int) < (N : Int) := by omega
      obtain rfl : k = N := by omega
      obtain ⟨a', c', rfl, hrow, _⟩ := own_row hown (by have := hZ.out; omega)
      go_wp2_with fail
      go_ret
      exact ⟨a', c', Z, rfl, hrow, hat, fun vs hv => hgot.out vs (HG.out vs hv), by rw [HL.out]; exact hRd, hbt⟩

end Go.Proofs.Ytghhdbkgibpebaa
