/-
  The reference's with, Bound, Vars.
-/
import Derived.Test.YtefajadolgmpdaaGreatDoorQVc
import Derived.Test.YtefajadolgmpdaaGreatDoorQVd
namespace Go.Proofs.YtefajadolgmpdaaGreatDoor
open Go.RowKit Go.Lib Go.Shelf

/-- texts in a row of the call's own -/
def OwnT (base : Nat) (w : World) (v : Value) (L : List (List UInt8)) : Prop := w.ownsRow base 9 sK.k v L.length (L.flatMap sK.enc)

set_option maxRecDepth 100000 in
set_option maxHeartbeats 800000 in
theorem rwith_raw (t : Tm) (base : Nat) (v : Value) (L : List (List UInt8)) (w : World) (h : OwnT base w v L) (hb : base ≤ w.heap.size) (hL : L.length < 1000000) :
    Calls Tryz.prog 35 #[v, tval t] w fun e w' => (∃ v', e = .returned v' ∧ OwnT base w' v' (Ck.wv L t)) ∧ Below base w w' ∧ ∀ ty : TypeId, ty ≠ 9 → Safe ty w w' := by
  obtain ⟨x, ⟨nm, n, s⟩⟩ := t
  obtain ⟨a, c, rfl, R, _⟩ := own_row (D := sK) h (by omega)
  have A1 := below_alloc w (.cells #[str x, .bool nm, .int .i64 n, str s] 38)
  have o1 := ownsRow_keep h (Safe.below A1 : Safe 9 _ _)
  have T := hideP (rhas_at _ a c L x (R.row.below A1 (Nat.le_refl _)))
  have B1 : Below base w (w.alloc (.cells #[str x, .bool nm, .int .i64 n, str s] 38)) := A1.mono hb
  by_cases he : x = []
  · have hw : Hid (Ck.wv L ⟨x, ⟨nm, n, s⟩⟩ = L) := by
      show Ck.wv L ⟨x, ⟨nm, n, s⟩⟩ = L
      unfold Ck.wv; rw [if_pos (.inl he)]
    have q : x.isEmpty = true := by simpa using he
    clear he
    go_enter Tryz.func35, Tryz.ntmps35
    go_wp2_with fail
    go_ret
    exact ⟨⟨_, rfl, by rw [hw.out]; exact o1⟩, B1, fun _ _ => Safe.below A1⟩
  have q : x.isEmpty = false := by simpa using he
  by_cases hin : x ∈ L
  · have hw : Hid (Ck.wv L ⟨x, ⟨nm, n, s⟩⟩ = L) := by
      show Ck.wv L ⟨x, ⟨nm, n, s⟩⟩ = L
      unfold Ck.wv; rw [if_pos (.inr hin)]
    rw [show decide (x ∈ L) = true by simpa using hin] at T
    clear hin he
    go_enter Tryz.func35, Tryz.ntmps35
    go_wp2_with fail
    refine T.out.mono ?_
    rintro e w1 ⟨rfl, rfl⟩
    go_wp2_with fail
    go_ret
    exact ⟨⟨_, rfl, by rw [hw.out]; exact o1⟩, B1, fun _ _ => Safe.below A1⟩
  · have hw : Hid (Ck.wv L ⟨x, ⟨nm, n, s⟩⟩ = L ++ [x]) := by
      show Ck.wv L ⟨x, ⟨nm, n, s⟩⟩ = L ++ [x]
      unfold Ck.wv; rw [if_neg (by simp only; exact fun h => h.elim he hin)]
    rw [show decide (x ∈ L) = false by simpa using hin] at T
    clear hin he
    generalize hW : w.alloc (.cells #[str x, .bool nm, .int .i64 n, str s] 38) = W at *
    have A4 := below_alloc W (.cells #[str x] 9)
    have o4 := ownsRow_keep o1 (Safe.below A4 : Safe 9 _ _)
    have R4 : Row sK (W.alloc (.cells #[str x] 9)) (some ⟨W.heap.size, 0, none⟩) 1 [x] := row_new sK W _ _ x rfl
    have hb3 : base ≤ (W.alloc (.cells #[str x] 9)).heap.size := by have := A4.size; have := B1.size; omega
    have hx0 : W.cell? ⟨w.heap.size, 0, none⟩ = some (str x) := by
      subst hW
      rw [heap_cell (heap_alloc_new w _)]; rfl
    go_enter Tryz.func35, Tryz.ntmps35
    subst hW
    go_wp2_with fail
    refine T.out.mono ?_
    rintro e w1 ⟨rfl, hw1⟩
    generalize hW : w.alloc (.cells #[str x, .bool nm, .int .i64 n, str s] 38) = W at *
    subst hw1
    go_wp2_with (at_builtin; refine wpList_append_rec sK _ rfl _ _ 44 9 rfl _ 16 Tryz.underlying44 Tryz.iS1 rfl (by decide) base (.slice a L.length c) L [x] (some ⟨W.heap.size, 0, none⟩) 1 1 rfl o4 rfl rfl R4 hb3 (by simp only [List.length_cons, List.length_nil]; omega) ?_; intro v5 w5 o5 g5)
    go_ret
    refine ⟨⟨_, rfl, by rw [hw.out]; exact o5⟩, B1.trans ((A4.mono (Nat.le_trans hb B1.size)).trans (own_below o4 g5 hb3)), fun ty hn => ?_⟩
    have : Safe ty w W := Safe.below A1
    exact this.trans ((Safe.below A4).trans (Safe.grown o4 g5 hn))
theorem rwith_at (t : Tm) (base : Nat) (a : Option Addr) (n c : Nat) (L : List (List UInt8)) (w : World) (h : OwnT base w (.slice a n c) L) (hb : base ≤ w.heap.size) (hL : L.length < 1000000) :
    Calls Tryz.prog 35 #[.slice a n c, tval t] w fun e w' => (∃ a' c', e = .returned (.slice a' (Ck.wv L t).length c') ∧ OwnT base w' (.slice a' (Ck.wv L t).length c') (Ck.wv L t)) ∧ Below base w w' ∧ ∀ ty : TypeId, ty ≠ 9 → Safe ty w w' := by
  refine (rwith_raw t base _ L w h hb hL).mono ?_
  rintro e w' ⟨⟨v', rfl, o⟩, b, k⟩
  have := Ck.wv_len L t
  obtain ⟨a', c', rfl, _, _⟩ := own_row (D := sK) o (by omega)
  exact ⟨⟨a', c', rfl, o⟩, b, k⟩
theorem lit_in {w : World} {b o : Nat} {y : Lv} (h : w.rangeAt b o (lv y)) : w.rangeAt b o (tv y.by_) ∧ w.rangeAt b (o + 6) (tv y.at_) ∧ w.cell? ⟨b, o + 4, none⟩ = some (str y.pred) ∧ w.cell? ⟨b, o + 5, none⟩ = some (.slice y.a y.args.length y.cap) ∧ w.cell? ⟨b, o + 6, none⟩ = some (str y.at_.v) := by
  refine ⟨fun j u hu => h j u ?_, fun j u hu => ?_, h 4 _ rfl, h 5 _ rfl, h 6 _ rfl⟩
  · have hj : j < 4 := (List.getElem?_eq_some_iff.1 hu).1
    match j, hj with
    | 0, _ => exact hu
    | 1, _ => exact hu
    | 2, _ => exact hu
    | 3, _ => exact hu
  · have hj : j < 4 := (List.getElem?_eq_some_iff.1 hu).1
    have e : ∀ i, o + 6 + i = o + (6 + i) := fun i => Nat.add_assoc ..
    rw [e]
    refine h (6 + j) u ?_
    match j, hj with
    | 0, _ => exact hu
    | 1, _ => exact hu
    | 2, _ => exact hu
    | 3, _ => exact hu

set_option maxRecDepth 100000 in
set_option maxHeartbeats 1000000 in
theorem rbound_at (x : Rv) (k : Int) (w : World) (hx : Rv.Aw w x) (hv : Ck.Vok x.r) :
    Calls Tryz.prog 20 #[rval x, .int .i64 k] w fun e w' => (∃ a c, e = .returned (.slice a (Ck.bnd x.r k.toNat).length c) ∧ Row sK w' a c (Ck.bnd x.r k.toNat)) ∧ Below w.heap.size w w' := by
  have iT : (Tryz.prog.info? 38).map (·.size) = some 4 := by kernel_rfl
  have hrl : x.r.body.length = x.body.length := List.length_map ..
  have hbf : x.body.length ≤ 300 := by have := hv.few; rwa [hrl] at this
  have LEN := hideP (fun j => Ck.bnd_len hv j)
  have A0 := below_alloc w (.cells (rv x).toArray 42)
  have H0 := heap_alloc_new w (.cells (rv x).toArray 42)
  have r0 := (rule_parts10 H0).1
  have T0 := hideP (rwith_at x.home w.heap.size none 0 0 [] _ (World.ownsRow_nil _ _ _ _) A0.size (by simp))
  go_enter Tryz.func20, Tryz.ntmps20
  go_wp2_with (refine wpList_load_mid rfl 38 _ rfl w.heap.size 0 rfl (tv x.home) _ r0 Tryz.underlying38 rfl iT ?_)
  refine T0.out.mono ?_
  rintro e w1 ⟨⟨a1, d1, rfl, o1⟩, b1, k1⟩
  have B1 := A0.trans b1
  have H1 := k1 42 (by decide) _ _ H0
  have o1' : OwnT w.heap.size w1 (.slice a1 (Ck.bnd x.r 0).length d1) (Ck.bnd x.r 0) := o1
  clear T0 A0 H0 r0 b1 k1 o1
  go_wp2_with fail
  go_loopw [5, 6, 7] (fun v5 v6 _ wr => ∃ (j : Nat) (a : Option Addr) (c : Nat), v5 = .slice a (Ck.bnd x.r j).length c ∧ v6 = .int .i64 (j : Int) ∧ j ≤ x.body.length ∧ j ≤ k.toNat ∧ OwnT w.heap.size wr (.slice a (Ck.bnd x.r j).length c) (Ck.bnd x.r j) ∧ Below w.heap.size w wr ∧ wr.heap[w.heap.size]? = some (.cells (rv x).toArray 42)) (fun _ v6 _ _ => x.body.length - (intOf v6).toNat)
  case atStart => exact ⟨0, a1, d1, rfl, rfl, Nat.zero_le _, Nat.zero_le _, o1', B1, H1⟩
  case round =>
    obtain ⟨j, a2, d2, rfl, rfl, hj, hjk, O, B, H⟩ := hrel
    have c10 := (rule_parts10 H).2.2.2.2.2.2
    by_cases hlt : j < x.body.length
    · have q1 : (j : Int) < (x.body.length : Int) := by omega
      by_cases hkt : (j : Int) < k
      · obtain ⟨P1, O1, hP⟩ := hx.body.addr (Nat.lt_of_le_of_lt (Nat.zero_le _) hlt)
        have RR : ∀ W, Below w.heap.size w W → W.rangeAt P1 (O1 + j * 10) (lv (x.body[j]'hlt)) := fun W h => by
          have := hx.body.below h (Nat.le_refl _)
          rw [hP] at this
          exact this.range j hlt
        have aY := hx.each _ (List.getElem_mem hlt)
        have hjr : j < x.r.body.length := by omega
        have hyr : x.r.body[j] = (x.body[j]'hlt).l := by simp [Rv.r]
        have SU := hideP (Ck.bnd_succ (r := x.r) hjr)
        rw [hyr] at SU
        have VE := hv.each _ (List.getElem_mem hjr)
        rw [hyr] at VE
        have LJ := LEN.out j
        rw [hP] at c10
        have CC : ∀ W : World, W.heap[w.heap.size]? = some (.cells (rv x).toArray 42) → W.cell? ⟨w.heap.size, 10, none⟩ = some (.slice (some ⟨P1, O1, none⟩) x.body.length x.bcap) := fun W h => by
          have := (rule_parts10 h).2.2.2.2.2.2
          rwa [hP] at this
        generalize (x.body[j]'hlt) = y at *
        change y.args.length ≤ 300 at VE
        generalize Ck.bnd x.r j = L at *
        clear hjr hyr
        have HRR := hideP RR
        have HCC := hideP CC
        clear RR CC
        have p1 := (lit_in (HRR.out wr B)).1
        go_wp2_with (refine wpList_load_mid rfl 38 _ rfl P1 (O1 + j * 10) rfl (tv y.by_) _ p1 Tryz.underlying38 rfl iT ?_)
        refine (rwith_at y.by_ w.heap.size a2 L.length d2 L wr O B.size (by omega)).mono ?_
        rintro e w2 ⟨⟨a3, d3, rfl, o2⟩, b2, k2⟩
        have B2 := B.trans b2
        have H2 := k2 42 (by decide) _ _ H
        have L3 := Ck.wv_len L y.by_
        clear p1 O b2 k2 H c10
        go_wp2_with fail
        go_loopw [5, 7] (fun v5 v7 wi => ∃ (i : Nat) (a : Option Addr) (c : Nat), v5 = .slice a ((y.args.take i).foldl Ck.wv (Ck.wv L y.by_)).length c ∧ v7 = .int .i64 (i : Int) ∧ i ≤ y.args.length ∧ OwnT w.heap.size wi (.slice a ((y.args.take i).foldl Ck.wv (Ck.wv L y.by_)).length c) ((y.args.take i).foldl Ck.wv (Ck.wv L y.by_)) ∧ Below w.heap.size w wi ∧ wi.heap[w.heap.size]? = some (.cells (rv x).toArray 42)) (fun _ v7 _ => y.args.length - (intOf v7).toNat)
        case atStart => exact ⟨0, a3, d3, rfl, rfl, by omega, o2, B2, H2⟩
        case round =>
          obtain ⟨i, a4, d4, rfl, rfl, hi, O4, B4, H4⟩ := hrel
          have c10 := HCC.out wr H4
          have p4 := lit_in (HRR.out wr B4)
          have c5 := p4.2.2.2.1
          by_cases hil : i < y.args.length
          · have q2 : (i : Int) < (y.args.length : Int) := by omega
            obtain ⟨P2, O2, hP2⟩ := Row.addr (show Row tK w y.a y.cap y.args from aY) (Nat.lt_of_le_of_lt (Nat.zero_le _) hil)
            have r4 : wr.rangeAt P2 (O2 + i * 4) (tv (y.args[i]'hil)) := by
              have := Row.below (show Row tK w y.a y.cap y.args from aY) B4 (Nat.le_refl _)
              rw [hP2] at this
              exact this.range i hil
            have ST : Hid ((y.args.take (i + 1)).foldl Ck.wv (Ck.wv L y.by_) = Ck.wv ((y.args.take i).foldl Ck.wv (Ck.wv L y.by_)) (y.args[i]'hil)) := by
              show _ = _
              rw [List.take_succ_eq_append_getElem hil, List.foldl_append]; rfl
            have L4 := Ck.fold_len (y.args.take i) (Ck.wv L y.by_)
            rw [List.length_take] at L4
            rw [hP2] at c5
            generalize (y.args[i]'hil) = t at *
            generalize (y.args.take i).foldl Ck.wv (Ck.wv L y.by_) = L' at *
            have iQ : (Tryz.prog.info? 38).map (·.size) = some (tv t).length := iT
            clear p4
            go_wp2_with (refine wpList_load_mid rfl 38 _ rfl P2 (O2 + i * 4) rfl (tv t) _ r4 Tryz.underlying38 rfl iQ ?_)
            refine (rwith_at t w.heap.size a4 L'.length d4 L' wr O4 B4.size (by omega)).mono ?_
            rintro e w7 ⟨⟨a7, d7, rfl, o7⟩, b7, k7⟩
            go_wp2_with fail
            exact ⟨⟨i + 1, a7, d7, by rw [ST.out], by go_num, by omega, by rw [ST.out]; exact o7, B4.trans b7, k7 42 (by decide) _ _ H4⟩, by simp [intOf]; omega⟩
          · have q2 : ¬ (i : Int) < (y.args.length : Int) := by omega
            rw [List.take_of_length_le (by omega)] at O4 ⊢
            have p6 := p4.2.1
            have L4 := Ck.fold_len y.args (Ck.wv L y.by_)
            clear p4
            go_wp2_with (refine wpList_load_mid rfl 38 _ rfl P1 (O1 + j * 10 + 6) rfl (tv y.at_) _ p6 Tryz.underlying38 rfl iT ?_)
            refine (rwith_at y.at_ w.heap.size a4 _ d4 _ wr O4 B4.size (by omega)).mono ?_
            rintro e w7 ⟨⟨a7, d7, rfl, o7⟩, b7, k7⟩
            go_wp2_with fail
            exact ⟨⟨j + 1, a7, d7, by rw [SU.out]; rfl, by go_num, by omega, by omega, by rw [SU.out]; exact o7, B4.trans b7, k7 42 (by decide) _ _ H4⟩, by simp [intOf]; omega⟩
      · have hjk' : j = k.toNat := by omega
        rw [hjk'] at O ⊢
        obtain ⟨a9, c9, e9, R9, _⟩ := own_row (D := sK) O (Nat.le_trans (Ck.bnd_all_len hv k.toNat) (by omega))
        cases e9
        have q2 : ¬ ((k.toNat : Nat) : Int) < k := by omega
        have q3 : ((k.toNat : Nat) : Int) < (x.body.length : Int) := by omega
        clear hjk'
        go_wp2_with fail
        go_ret
        exact ⟨⟨_, _, rfl, R9.row⟩, B⟩
    · have q1 : ¬ (j : Int) < (x.body.length : Int) := by omega
      rw [Ck.bnd_all (r := x.r) (k := j) (by omega), ← Ck.bnd_all (r := x.r) (k := k.toNat) (by omega)] at O ⊢
      obtain ⟨a9, c9, e9, R9, _⟩ := own_row (D := sK) O (Nat.le_trans (Ck.bnd_all_len hv k.toNat) (by omega))
      cases e9
      go_wp2_with fail
      go_ret
      exact ⟨⟨_, _, rfl, R9.row⟩, B⟩

set_option maxRecDepth 100000 in
set_option maxHeartbeats 400000 in
theorem rvars_at (x : Rv) (w : World) (hx : Rv.Aw w x) (hv : Ck.Vok x.r) :
    Calls Tryz.prog 18 #[rval x] w fun e w' => (∃ a c, e = .returned (.slice a (Ck.vars x.r).length c) ∧ Row sK w' a c (Ck.vars x.r)) ∧ Below w.heap.size w w' := by
  have A0 := below_alloc w (.cells (rv x).toArray 42)
  have H0 := heap_alloc_new w (.cells (rv x).toArray 42)
  have T := hideP (rbound_at x (x.body.length : Int) _ (hx.below A0 (Nat.le_refl _)) hv)
  rw [Int.toNat_natCast, show Ck.bnd x.r x.body.length = Ck.vars x.r by unfold Ck.vars; rw [show x.r.body.length = x.body.length from List.length_map ..]] at T
  go_enter Tryz.func18, Tryz.ntmps18
  go_wp2_with fail
  refine T.out.mono ?_
  rintro e w1 ⟨⟨a, c, rfl, r1⟩, b1⟩
  go_wp2_with fail
  go_ret
  exact ⟨⟨a, c, rfl, r1⟩, Below.then A0 b1⟩
end Go.Proofs.YtefajadolgmpdaaGreatDoor

/-
  The reference's number, places, free, open, odd, arities.
-/
namespace Go.Proofs.YtefajadolgmpdaaGreatDoor
open Go.RowKit Go.Lib Go.Shelf

/-- a whole record read, guarded -/
theorem wpList_load_g {P : Program} {ops : Array Oper} {rest : List Oper} {op : Oper} {a : Act} {w : World} {Q : Exit → Act → World → Prop} (hgw : Region.wanted op (yielded ops a.tmps) = true) (ty : TypeId) (x : Operand) (ho : op.op = .load ty x)
    (b o : Nat) (hx : a.eval x = .pointer (some ⟨b, o, none⟩)) (cs : List Value) (d : TypeDesc) (hc : w.rangeAt b o cs)
    (hu : P.underlying ty = some d) (hd : d.isRow = true) (hi : (P.info? ty).map (·.size) = some cs.length)
    (h : wpList P ops Q rest (a.put op.dst (.agg cs.toArray)) w) : wpList P ops Q (op :: rest) a w := by
  refine wpList_step fun K hK => ?_
  rw [if_pos hgw]
  unfold Oper.wp execOp
  simp only [ho, hx, Instr.loadAt, Instr.sureAddr, Sem.run_bind, Sem.run_pure, Result.andThen_ok, run_loadVar_mid w b o ty cs d hc hu hd hi]
  exact hK _ _ h

set_option maxRecDepth 100000 in
set_option maxHeartbeats 400000 in
theorem rnumber_at (t : Tm) (w : World) : Calls Tryz.prog 45 #[tval t] w fun e w' => e = .returned (.bool (Ck.num t)) ∧ Below w.heap.size w w' := by
  have HN : Hid (Ck.num t = (t.v.isEmpty && t.k.num)) := rfl
  obtain ⟨v, ⟨nm, n, s⟩⟩ := t
  simp only at HN
  have A0 := below_alloc w (.cells #[str v, .bool nm, .int .i64 n, str s] 38)
  cases hq : v.isEmpty with
  | true =>
    rw [hq] at HN
    go_enter Tryz.func45, Tryz.ntmps45
    go_wp2_with fail
    go_ret
    exact ⟨by rw [HN.out]; rfl, A0⟩
  | false =>
    rw [hq] at HN
    go_enter Tryz.func45, Tryz.ntmps45
    go_wp2_with fail
    go_ret
    exact ⟨by rw [HN.out]; rfl, A0⟩

/-- a place, or none: -2 -/
def plI (o : Option Int) : Int := match o with | some k => k | none => -2

set_option maxRecDepth 100000 in
set_option maxHeartbeats 1000000 in
theorem rplaces_at (x : Rv) (w : World) (hx : Rv.Aw w x) : Calls Tryz.prog 26 #[rval x] w fun e w' => e = .returned (.int .i64 (plI (Ck.places x.r))) ∧ Below w.heap.size w w' := by
  have iT : (Tryz.prog.info? 38).map (·.size) = some 4 := by kernel_rfl
  have hrl : x.r.body.length = x.body.length := List.length_map ..
  have few := hx.body.few
  have HP : Hid (Ck.places x.r = if (Ck.num x.home || Ck.num x.to_) = true then some (-1) else Ck.first (fun _ y => Ck.num y.by_ || Ck.num y.at_) 0 x.r.body) := rfl
  have A0 := below_alloc w (.cells (rv x).toArray 42)
  have H0 := heap_alloc_new w (.cells (rv x).toArray 42)
  have p0 := rule_parts10 H0
  have p00 := p0.1
  have T1 := hideP (rnumber_at x.home (w.alloc (.cells (rv x).toArray 42)))
  have T2 := hideP (fun W => rnumber_at x.to_ W)
  clear p0
  go_enter Tryz.func26, Tryz.ntmps26
  cases hq1 : Ck.num x.home with
  | true =>
    rw [hq1] at T1 HP
    rw [if_pos (by rfl)] at HP
    clear hq1
    go_wp2_with (refine wpList_load_mid rfl 38 _ rfl w.heap.size 0 rfl (tv x.home) _ p00 Tryz.underlying38 rfl iT ?_)
    refine T1.out.mono ?_
    rintro e w1 ⟨rfl, b1⟩
    go_wp2_with fail
    go_ret
    exact ⟨by rw [HP.out]; rfl, Below.then A0 b1⟩
  | false =>
    rw [hq1] at T1 HP
    rw [Bool.false_or] at HP
    clear hq1
    go_wp2_with (refine wpList_load_mid rfl 38 _ rfl w.heap.size 0 rfl (tv x.home) _ p00 Tryz.underlying38 rfl iT ?_)
    refine T1.out.mono ?_
    rintro e w1 ⟨rfl, b1⟩
    have B1 := Below.then A0 b1
    have H1 := below_heap b1 H0
    have p1 := (rule_parts10 H1).2.1
    clear T1 p00 H0 A0 b1
    go_wp2_with (refine wpList_load_g (by rfl) 38 _ rfl w.heap.size 6 rfl (tv x.to_) _ p1 Tryz.underlying38 rfl iT ?_)
    refine (T2.out w1).mono ?_
    rintro e w2 ⟨rfl, b2⟩
    have B2 := Below.then B1 b2
    have H2 := below_heap b2 H1
    clear p1 H1 B1 b2 T2
    cases hq2 : Ck.num x.to_ with
    | true =>
      rw [hq2, if_pos rfl] at HP
      clear hq2
      go_wp2_with fail
      go_ret
      exact ⟨by rw [HP.out]; rfl, B2⟩
    | false =>
      rw [hq2, if_neg (by decide)] at HP
      clear hq2
      go_wp2_with fail
      go_loopw [3] (fun v wr => ∃ j : Nat, v = .int .i64 (j : Int) ∧ j ≤ x.body.length ∧ Hid (Ck.places x.r = Ck.first (fun _ y => Ck.num y.by_ || Ck.num y.at_) j (x.r.body.drop j)) ∧ Below w.heap.size w wr ∧ wr.heap[w.heap.size]? = some (.cells (rv x).toArray 42)) (fun v _ => x.body.length - (intOf v).toNat)
      case atStart => exact ⟨0, rfl, Nat.zero_le _, by rw [List.drop_zero]; exact HP, B2, H2⟩
      case round =>
        obtain ⟨j, rfl, hj, HJ, B, H⟩ := hrel
        have c10 := (rule_parts10 H).2.2.2.2.2.2
        by_cases hlt : j < x.body.length
        · have q : (j : Int) < (x.body.length : Int) := by omega
          have hjr : j < x.r.body.length := by omega
          have hyr : x.r.body[j] = (x.body[j]'hlt).l := by simp [Rv.r]
          obtain ⟨P1, O1, hP⟩ := hx.body.addr (Nat.lt_of_le_of_lt (Nat.zero_le _) hlt)
          have RR := hideP (fun W (h : Below w.heap.size w W) => show W.rangeAt P1 (O1 + j * 10) (lv (x.body[j]'hlt)) by
            have := hx.body.below h (Nat.le_refl _)
            rw [hP] at this
            exact this.range j hlt)
          have CC := hideP (fun (W : World) (h : W.heap[w.heap.size]? = some (.cells (rv x).toArray 42)) => show W.cell? ⟨w.heap.size, 10, none⟩ = some (.slice (some ⟨P1, O1, none⟩) x.body.length x.bcap) by
            have := (rule_parts10 h).2.2.2.2.2.2
            rwa [hP] at this)
          rw [hP] at c10
          rw [List.drop_eq_getElem_cons hjr, Ck.first, hyr] at HJ
          generalize (x.body[j]'hlt) = y at *
          clear hyr
          replace HJ : Hid (Ck.places x.r = if (Ck.num y.by_ || Ck.num y.at_) = true then some (j : Int) else Ck.first (fun _ y => Ck.num y.by_ || Ck.num y.at_) (j + 1) (x.r.body.drop (j + 1))) := HJ
          have p1 := (lit_in (RR.out wr B)).1
          go_wp2_with (refine wpList_load_mid rfl 38 _ rfl P1 (O1 + j * 10) rfl (tv y.by_) _ p1 Tryz.underlying38 rfl iT ?_)
          refine (rnumber_at y.by_ wr).mono ?_
          rintro e w3 ⟨rfl, b3⟩
          have B3 := B.trans (b3.mono B.size)
          have H3 := below_heap b3 H
          clear p1 c10 H B b3
          cases hq3 : Ck.num y.by_ with
          | true =>
            rw [hq3, if_pos (by rfl)] at HJ
            clear hq3
            go_wp2_with fail
            go_ret
            exact ⟨by rw [HJ.out]; rfl, B3⟩
          | false =>
            rw [hq3, Bool.false_or] at HJ
            clear hq3
            have c10 := CC.out w3 H3
            have p2 := (lit_in (RR.out w3 B3)).2.1
            go_wp2_with (refine wpList_load_g (by rfl) 38 _ rfl P1 (O1 + j * 10 + 6) rfl (tv y.at_) _ p2 Tryz.underlying38 rfl iT ?_)
            refine (rnumber_at y.at_ w3).mono ?_
            rintro e w4 ⟨rfl, b4⟩
            have B4 := B3.trans (b4.mono B3.size)
            have H4 := below_heap b4 H3
            clear p2 c10 H3 B3 b4
            cases hq4 : Ck.num y.at_ with
            | true =>
              rw [hq4, if_pos rfl] at HJ
              clear hq4
              go_wp2_with fail
              go_ret
              exact ⟨by rw [HJ.out]; rfl, B4⟩
            | false =>
              rw [hq4, if_neg (by decide)] at HJ
              clear hq4
              go_wp2_with fail
              exact ⟨⟨j + 1, by go_num, by omega, HJ, B4, H4⟩, by simp [intOf]; omega⟩
        · have q : ¬ (j : Int) < (x.body.length : Int) := by omega
          rw [List.drop_of_length_le (by omega), Ck.first] at HJ
          go_wp2_with fail
          go_ret
          exact ⟨by rw [HJ.out]; rfl, B⟩

/-! free, open -/
set_option maxRecDepth 100000 in
set_option maxHeartbeats 1000000 in
theorem rfree_at (x : Rv) (w : World) (hx : Rv.Aw w x) (hv : Ck.Vok x.r) : Calls Tryz.prog 28 #[rval x] w fun e w' => e = .returned (.int .i64 (plI (Ck.free x.r))) ∧ Below w.heap.size w w' := by
  have hrl : x.r.body.length = x.body.length := List.length_map ..
  have few := hx.body.few
  have HP : Hid (Ck.free x.r = Ck.first (Ck.isFree x.r) 0 x.r.body) := rfl
  have A0 := below_alloc w (.cells (rv x).toArray 42)
  have H0 := heap_alloc_new w (.cells (rv x).toArray 42)
  go_enter Tryz.func28, Tryz.ntmps28
  go_wp2_with fail
  go_loopw [3, 4] (fun v _ wr => ∃ j : Nat, v = .int .i64 (j : Int) ∧ j ≤ x.body.length ∧ Hid (Ck.free x.r = Ck.first (Ck.isFree x.r) j (x.r.body.drop j)) ∧ Below w.heap.size w wr ∧ wr.heap[w.heap.size]? = some (.cells (rv x).toArray 42)) (fun v _ _ => x.body.length - (intOf v).toNat)
  case atStart => exact ⟨0, rfl, Nat.zero_le _, by rw [List.drop_zero]; exact HP, A0, H0⟩
  case round =>
    obtain ⟨j, rfl, hj, HJ, B, H⟩ := hrel
    have c10 := (rule_parts10 H).2.2.2.2.2.2
    by_cases hlt : j < x.body.length
    · have q : (j : Int) < (x.body.length : Int) := by omega
      have hjr : j < x.r.body.length := by omega
      have hyr : x.r.body[j] = (x.body[j]'hlt).l := by simp [Rv.r]
      obtain ⟨P1, O1, hP⟩ := hx.body.addr (Nat.lt_of_le_of_lt (Nat.zero_le _) hlt)
      have r1 : wr.rangeAt P1 (O1 + j * 10) (lv (x.body[j]'hlt)) := by
        have := hx.body.below B (Nat.le_refl _)
        rw [hP] at this
        exact this.range j hlt
      rw [hP] at c10
      rw [List.drop_eq_getElem_cons hjr, Ck.first, hyr] at HJ
      generalize (x.body[j]'hlt) = y at *
      clear hyr
      have he : Ck.isFree x.r j y.l = (!y.at_.v.isEmpty && !decide (y.at_.v ∈ Ck.bnd x.r j)) := outV_eq (Ck.bnd x.r j) y.at_
      rw [he] at HJ
      clear he
      have p6 := (lit_in r1).2.2.2.2
      have T1 := hideP (rbound_at x (j : Int) wr (hx.below B (Nat.le_refl _)) hv)
      rw [Int.toNat_natCast] at T1
      generalize Ck.bnd x.r j = N at *
      have T2 := hideP (fun W a c (h : Row sK W a c N) => rhas_at W a c N y.at_.v h)
      have rN := World.rangeAt_of_block H 0 11
      have rN' : wr.rangeAt w.heap.size 0 (rv x) := rN
      clear rN
      generalize y.at_.v = v at *
      cases hq : v.isEmpty with
      | true =>
        rw [hq, Bool.not_true, Bool.false_and, if_neg (by decide)] at HJ
        go_wp2_with fail
        exact ⟨⟨j + 1, by go_num, by omega, HJ, B, H⟩, by simp [intOf]; omega⟩
      | false =>
        rw [hq, Bool.not_false, Bool.true_and] at HJ
        go_wp2_with (refine wpList_load_g (by rfl) 42 _ rfl w.heap.size 0 rfl (rv x) _ rN' Tryz.underlying42 rfl (by kernel_rfl) ?_)
        refine T1.out.mono ?_
        rintro e w1 ⟨⟨a1, c1, rfl, R1⟩, b1⟩
        have B1 := B.trans (b1.mono B.size)
        have H1 := below_heap b1 H
        go_wp2_with fail
        refine (T2.out w1 a1 c1 R1).mono ?_
        rintro e w2 ⟨rfl, rfl⟩
        cases hd : decide (v ∈ N) with
        | true =>
          rw [hd, Bool.not_true, if_neg (by decide)] at HJ
          clear hd
          go_wp2_with fail
          exact ⟨⟨j + 1, by go_num, by omega, HJ, B1, H1⟩, by simp [intOf]; omega⟩
        | false =>
          rw [hd, Bool.not_false, if_pos rfl] at HJ
          clear hd
          go_wp2_with fail
          go_ret
          exact ⟨by rw [HJ.out]; rfl, B1⟩
    · have q : ¬ (j : Int) < (x.body.length : Int) := by omega
      rw [List.drop_of_length_le (by omega), Ck.first] at HJ
      go_wp2_with fail
      go_ret
      exact ⟨by rw [HJ.out]; rfl, B⟩

set_option maxRecDepth 100000 in
set_option maxHeartbeats 1000000 in
theorem ropen_at (x : Rv) (w : World) (hx : Rv.Aw w x) (hv : Ck.Vok x.r) : Calls Tryz.prog 29 #[rval x] w fun e w' => e = .returned (.bool (Ck.opn x.r)) ∧ Below w.heap.size w w' := by
  have few := hx.args.few
  have HP : Hid (Ck.opn x.r = (Ck.outV (Ck.vars x.r) x.to_ || x.args.any (Ck.outV (Ck.vars x.r)))) := rfl
  have A0 := below_alloc w (.cells (rv x).toArray 42)
  have H0 := heap_alloc_new w (.cells (rv x).toArray 42)
  have T1 := hideP (rvars_at x _ (hx.below A0 (Nat.le_refl _)) hv)
  generalize Ck.vars x.r = N at *
  have TH := hideP (fun W a c v (h : Row sK W a c N) => rhas_at W a c N v h)
  have OV := hideP (outV_eq N)
  rw [OV.out x.to_] at HP
  go_enter Tryz.func29, Tryz.ntmps29
  go_wp2_with (refine wpList_load_all rfl 42 _ rfl w.heap.size 11 42 (rv x) _ rfl H0 rfl Tryz.underlying42 rfl (by kernel_rfl) ?_)
  refine T1.out.mono ?_
  rintro e w1 ⟨⟨a1, c1, rfl, R1⟩, b1⟩
  have B1 := Below.then A0 b1
  have H1 := below_heap b1 H0
  have c6 := (rule_parts10 H1).2.2.2.2.2.1
  clear T1 A0 H0 b1
  have LOOP : Hid ((Ck.opn x.r = x.args.any (Ck.outV N)) → True) := fun _ => trivial
  clear LOOP
  generalize hv0 : x.to_.v = v0 at *
  obtain ⟨d0, hd0⟩ : ∃ d0, (!v0.isEmpty && !decide (v0 ∈ N)) = d0 := ⟨_, rfl⟩
  rw [hd0] at HP
  cases d0 with
  | true =>
    rw [Bool.true_or] at HP
    have hq : v0.isEmpty = false := by cases h : v0.isEmpty <;> simp_all
    have hn : decide (v0 ∈ N) = false := by cases h : decide (v0 ∈ N) <;> simp_all
    clear hd0
    go_wp2_with fail
    refine (TH.out w1 a1 c1 v0 R1).mono ?_
    rintro e w2 ⟨rfl, rfl⟩
    rw [hn]
    clear hn
    go_wp2_with fail
    go_ret
    exact ⟨by rw [HP.out]; rfl, B1⟩
  | false =>
    rw [Bool.false_or] at HP
    cases hq : v0.isEmpty
    have hn : decide (v0 ∈ N) = true := by cases h : decide (v0 ∈ N) <;> simp_all
    clear hd0
    go_wp2_with fail
    refine (TH.out w1 a1 c1 v0 R1).mono ?_
    rintro e w2 ⟨rfl, hww⟩
    subst hww
    rw [hn]
    clear hn
    go_wp2_with fail
    rotate_left
    clear hd0
    go_wp2_with fail
    all_goals (
      go_loopw [4] (fun v wr => ∃ j : Nat, v = .int .i64 (j : Int) ∧ j ≤ x.args.length ∧ Hid ((x.args.take j).any (Ck.outV N) = false) ∧ Below w.heap.size w wr ∧ wr.heap[w.heap.size]? = some (.cells (rv x).toArray 42) ∧ Row sK wr a1 c1 N) (fun v _ => x.args.length - (intOf v).toNat)
      case atStart => exact ⟨0, rfl, Nat.zero_le _, by show _ = _; simp, B1, H1, R1⟩
      case round =>
        obtain ⟨j, rfl, hj, HJ, B, H, R⟩ := hrel
        have c5 := (rule_parts10 H).2.2.2.2.1
        by_cases hlt : j < x.args.length
        · have q : (j : Int) < (x.args.length : Int) := by omega
          obtain ⟨P1, O1, hP⟩ := hx.args.addr (Nat.lt_of_le_of_lt (Nat.zero_le _) hlt)
          have r1 : wr.rangeAt P1 (O1 + j * 4) (tv (x.args[j]'hlt)) := by
            have := hx.args.below B (Nat.le_refl _)
            rw [hP] at this
            exact this.range j hlt
          have ST : Hid ((x.args.take (j + 1)).any (Ck.outV N) = Ck.outV N (x.args[j]'hlt)) := by
            show _ = _
            rw [List.take_succ_eq_append_getElem hlt, List.any_append, HJ.out]; simp
          have YE : Hid (Ck.outV N (x.args[j]'hlt) = true → x.args.any (Ck.outV N) = true) := fun h => List.any_eq_true.2 ⟨_, List.getElem_mem hlt, h⟩
          rw [hP] at c5
          generalize (x.args[j]'hlt) = t at *
          rw [OV.out t] at ST YE
          have cv : wr.cell? ⟨P1, O1 + j * 4, none⟩ = some (str t.v) := r1 0 _ rfl
          generalize t.v = v at *
          cases hq2 : v.isEmpty with
          | true =>
            rw [hq2, Bool.not_true, Bool.false_and] at ST
            go_wp2_with fail
            exact ⟨⟨j + 1, by go_num, by omega, ST, B, H, R⟩, by simp [intOf]; omega⟩
          | false =>
            rw [hq2, Bool.not_false, Bool.true_and] at ST YE
            go_wp2_with fail
            refine (TH.out wr a1 c1 v R).mono ?_
            rintro e w2 ⟨rfl, hww⟩
            subst hww
            cases hd : decide (v ∈ N) with
            | true =>
              rw [hd, Bool.not_true] at ST
              clear hd YE
              go_wp2_with fail
              exact ⟨⟨j + 1, by go_num, by omega, ST, B, H, R⟩, by simp [intOf]; omega⟩
            | false =>
              rw [hd, Bool.not_false] at YE
              have YE' := hideP (YE.out rfl)
              clear hd YE
              go_wp2_with fail
              go_ret
              exact ⟨by rw [HP.out, YE'.out]; rfl, B⟩
        · have q : ¬ (j : Int) < (x.args.length : Int) := by omega
          have HN : Hid (x.args.any (Ck.outV N) = false) := by
            have := HJ.out
            rwa [List.take_of_length_le (by omega)] at this
          go_wp2_with fail
          go_ret
          exact ⟨by rw [HP.out, HN.out]; rfl, B⟩)
end Go.Proofs.YtefajadolgmpdaaGreatDoor
