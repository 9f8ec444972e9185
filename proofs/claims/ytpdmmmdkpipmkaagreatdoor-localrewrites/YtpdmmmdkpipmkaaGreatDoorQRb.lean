/-
  The reference's with, Bound, Vars.
-/
import Derived.Test.YtpdmmmdkpipmkaaGreatDoorQOp1
import Derived.Test.YtpdmmmdkpipmkaaGreatDoorQPe
import Derived.Test.YtpdmmmdkpipmkaaGreatDoorQMb
namespace Go.Proofs.YtpdmmmdkpipmkaaGreatDoor
open Go.RowKit Go.Lib Go.Shelf

/-- texts in a row of the call's own -/
def OwnT (base : Nat) (w : World) (v : Value) (L : List (List UInt8)) : Prop := w.ownsRow base 9 sK.k v L.length (L.flatMap sK.enc)

set_option maxRecDepth 100000 in
set_option maxHeartbeats 800000 in
theorem rwith_raw (t : Tm) (base : Nat) (v : Value) (L : List (List UInt8)) (w : World) (h : OwnT base w v L) (hb : base ≤ w.heap.size) (hL : L.length < 1000000) :
    Calls Tryz.prog 87 #[v, tval t] w fun e w' => (∃ v', e = .returned v' ∧ OwnT base w' v' (Ck.wv L t)) ∧ Below base w w' ∧ ∀ ty : TypeId, ty ≠ 9 → Safe ty w w' := by
  obtain ⟨x, ⟨nm, n, s⟩⟩ := t
  obtain ⟨a, c, rfl, R, _⟩ := own_row (D := sK) h (by omega)
  have A1 := below_alloc w (.cells #[str x, .bool nm, .int .i64 n, str s] 44)
  have o1 := ownsRow_keep h (Safe.below A1 : Safe 9 _ _)
  have T := hideP (rhas_at _ a c L x (R.row.below A1 (Nat.le_refl _)))
  have B1 : Below base w (w.alloc (.cells #[str x, .bool nm, .int .i64 n, str s] 44)) := A1.mono hb
  by_cases he : x = []
  · have hw : Hid (Ck.wv L ⟨x, ⟨nm, n, s⟩⟩ = L) := by
      show Ck.wv L ⟨x, ⟨nm, n, s⟩⟩ = L
      unfold Ck.wv; rw [if_pos (.inl he)]
    have q : x.isEmpty = true := by simpa using he
    clear he
    go_enter Tryz.func87, Tryz.ntmps87
    go_wp2_with fail
    go_ret
    exact ⟨⟨_, rfl, by rw [hw.out]; exact o1⟩, B1, fun _ _ => Safe.below A1⟩
  have q : x.isEmpty = false := by simpa using he
  by_cases hin : x ∈ L
  · have hw : Hid (Ck.wv L ⟨x, ⟨nm, n, s⟩⟩ = L) := by
      show Ck.wv L ⟨x, ⟨nm, n, s⟩⟩ = L
      unfold Ck.wv; rw [if_pos (.inr hin)]
    rw [show decide (x ∈ L) = true by simpa using hin] at T
    clear hin he
    go_enter Tryz.func87, Tryz.ntmps87
    go_wp2_with fail
    refine T.out.mono ?_
    rintro e w1 ⟨rfl, rfl⟩
    go_wp2_with fail
    go_ret
    exact ⟨⟨_, rfl, by rw [hw.out]; exact o1⟩, B1, fun _ _ => Safe.below A1⟩
  · have hw : Hid (Ck.wv L ⟨x, ⟨nm, n, s⟩⟩ = L ++ [x]) := by
      show Ck.wv L ⟨x, ⟨nm, n, s⟩⟩ = L ++ [x]
      unfold Ck.wv; rw [if_neg (by simp only; exact fun h => h.elim he hin)]
    rw [show decide (x ∈ L) = false by simpa using hin] at T
    clear hin he
    generalize hW : w.alloc (.cells #[str x, .bool nm, .int .i64 n, str s] 44) = W at *
    have A4 := below_alloc W (.cells #[str x] 9)
    have o4 := ownsRow_keep o1 (Safe.below A4 : Safe 9 _ _)
    have R4 : Row sK (W.alloc (.cells #[str x] 9)) (some ⟨W.heap.size, 0, none⟩) 1 [x] := row_new sK W _ _ x rfl
    have hb3 : base ≤ (W.alloc (.cells #[str x] 9)).heap.size := by have := A4.size; have := B1.size; omega
    have hx0 : W.cell? ⟨w.heap.size, 0, none⟩ = some (str x) := by
      subst hW
      rw [heap_cell (heap_alloc_new w _)]; rfl
    go_enter Tryz.func87, Tryz.ntmps87
    subst hW
    go_wp2_with fail
    refine T.out.mono ?_
    rintro e w1 ⟨rfl, hw1⟩
    generalize hW : w.alloc (.cells #[str x, .bool nm, .int .i64 n, str s] 44) = W at *
    subst hw1
    go_wp2_with (at_builtin; refine wpList_append_rec sK _ rfl _ _ 53 9 rfl _ 16 Tryz.underlying53 Tryz.iS1 rfl (by decide) base (.slice a L.length c) L [x] (some ⟨W.heap.size, 0, none⟩) 1 1 rfl o4 rfl rfl R4 hb3 (by simp only [List.length_cons, List.length_nil]; omega) ?_; intro v5 w5 o5 g5)
    go_ret
    refine ⟨⟨_, rfl, by rw [hw.out]; exact o5⟩, B1.trans ((A4.mono (Nat.le_trans hb B1.size)).trans (own_below o4 g5 hb3)), fun ty hn => ?_⟩
    have : Safe ty w W := Safe.below A1
    exact this.trans ((Safe.below A4).trans (Safe.grown o4 g5 hn))
theorem rwith_at (t : Tm) (base : Nat) (a : Option Addr) (n c : Nat) (L : List (List UInt8)) (w : World) (h : OwnT base w (.slice a n c) L) (hb : base ≤ w.heap.size) (hL : L.length < 1000000) :
    Calls Tryz.prog 87 #[.slice a n c, tval t] w fun e w' => (∃ a' c', e = .returned (.slice a' (Ck.wv L t).length c') ∧ OwnT base w' (.slice a' (Ck.wv L t).length c') (Ck.wv L t)) ∧ Below base w w' ∧ ∀ ty : TypeId, ty ≠ 9 → Safe ty w w' := by
  refine (rwith_raw t base _ L w h hb hL).mono ?_
  rintro e w' ⟨⟨v', rfl, o⟩, b, k⟩
  have := Ck.wv_len L t
  obtain ⟨a', c', rfl, _, _⟩ := own_row (D := sK) o (by omega)
  exact ⟨⟨a', c', rfl, o⟩, b, k⟩
set_option maxRecDepth 100000 in
set_option maxHeartbeats 1000000 in
theorem rbound_at (x : Rv) (k : Int) (w : World) (hx : Rv.Aw w x) (hv : Ck.Vok x.r) :
    Calls Tryz.prog 55 #[rval x, .int .i64 k] w fun e w' => (∃ a c, e = .returned (.slice a (Ck.bnd x.r k.toNat).length c) ∧ Row sK w' a c (Ck.bnd x.r k.toNat)) ∧ Below w.heap.size w w' := by
  have iT : (Tryz.prog.info? 44).map (·.size) = some 4 := by kernel_rfl
  have hrl : x.r.body.length = x.body.length := List.length_map ..
  have hbf : x.body.length ≤ 300 := by have := hv.few; rwa [hrl] at this
  have LEN := hideP (fun j => Ck.bnd_len hv j)
  have A0 := below_alloc w (.cells (rv x).toArray 48)
  have H0 := heap_alloc_new w (.cells (rv x).toArray 48)
  have r0 := (rule_parts10 H0).1
  have T0 := hideP (rwith_at x.home w.heap.size none 0 0 [] _ (World.ownsRow_nil _ _ _ _) A0.size (by simp))
  go_enter Tryz.func55, Tryz.ntmps55
  go_wp2_with (refine wpList_load_mid rfl 44 _ rfl w.heap.size 0 rfl (tv x.home) _ r0 Tryz.underlying44 rfl iT ?_)
  refine T0.out.mono ?_
  rintro e w1 ⟨⟨a1, d1, rfl, o1⟩, b1, k1⟩
  have B1 := A0.trans b1
  have H1 := k1 48 (by decide) _ _ H0
  have o1' : OwnT w.heap.size w1 (.slice a1 (Ck.bnd x.r 0).length d1) (Ck.bnd x.r 0) := o1
  clear T0 A0 H0 r0 b1 k1 o1
  go_wp2_with fail
  go_loopw [5, 6, 7] (fun v5 v6 _ wr => ∃ (j : Nat) (a : Option Addr) (c : Nat), v5 = .slice a (Ck.bnd x.r j).length c ∧ v6 = .int .i64 (j : Int) ∧ j ≤ x.body.length ∧ j ≤ k.toNat ∧ OwnT w.heap.size wr (.slice a (Ck.bnd x.r j).length c) (Ck.bnd x.r j) ∧ Below w.heap.size w wr ∧ wr.heap[w.heap.size]? = some (.cells (rv x).toArray 48)) (fun _ v6 _ _ => x.body.length - (RowKit.intOf v6).toNat)
  case atStart => exact ⟨0, a1, d1, rfl, rfl, Nat.zero_le _, Nat.zero_le _, o1', B1, H1⟩
  case round =>
    obtain ⟨j, a2, d2, rfl, rfl, hj, hjk, O, B, H⟩ := hrel
    have c10 := (rule_parts10 H).2.2.2.2.2.2
    by_cases hlt : j < x.body.length
    · have q1 : (j : Int) < (x.body.length : Int) := by omega
      by_cases hkt : (j : Int) < k
      · obtain ⟨P1, O1, hP⟩ := hx.body.addr (Nat.lt_of_le_of_lt (Nat.zero_le _) hlt)
        have RR : ∀ W, Below w.heap.size w W → W.rangeAt P1 (O1 + j * 10) (lv (x.body[j]'hlt)) := fun W h => by
          have := hx.body.below h (Nat.le_refl _)
          rw [hP] at this
          exact this.range j hlt
        have aY := hx.each _ (List.getElem_mem hlt)
        have hjr : j < x.r.body.length := by omega
        have hyr : x.r.body[j] = (x.body[j]'hlt).l := by simp [Rv.r]
        have SU := hideP (Ck.bnd_succ (r := x.r) hjr)
        rw [hyr] at SU
        have VE := hv.each _ (List.getElem_mem hjr)
        rw [hyr] at VE
        have LJ := LEN.out j
        rw [hP] at c10
        have CC : ∀ W : World, W.heap[w.heap.size]? = some (.cells (rv x).toArray 48) → W.cell? ⟨w.heap.size, 10, none⟩ = some (.slice (some ⟨P1, O1, none⟩) x.body.length x.bcap) := fun W h => by
          have := (rule_parts10 h).2.2.2.2.2.2
          rwa [hP] at this
        generalize (x.body[j]'hlt) = y at *
        change y.args.length ≤ 300 at VE
        generalize Ck.bnd x.r j = L at *
        clear hjr hyr
        have HRR := hideP RR
        have HCC := hideP CC
        clear RR CC
        have p1 := (lit_in (HRR.out wr B)).1
        go_wp2_with (refine wpList_load_mid rfl 44 _ rfl P1 (O1 + j * 10) rfl (tv y.by_) _ p1 Tryz.underlying44 rfl iT ?_)
        refine (rwith_at y.by_ w.heap.size a2 L.length d2 L wr O B.size (by omega)).mono ?_
        rintro e w2 ⟨⟨a3, d3, rfl, o2⟩, b2, k2⟩
        have B2 := B.trans b2
        have H2 := k2 48 (by decide) _ _ H
        have L3 := Ck.wv_len L y.by_
        clear p1 O b2 k2 H c10
        go_wp2_with fail
        go_loopw [5, 7] (fun v5 v7 wi => ∃ (i : Nat) (a : Option Addr) (c : Nat), v5 = .slice a ((y.args.take i).foldl Ck.wv (Ck.wv L y.by_)).length c ∧ v7 = .int .i64 (i : Int) ∧ i ≤ y.args.length ∧ OwnT w.heap.size wi (.slice a ((y.args.take i).foldl Ck.wv (Ck.wv L y.by_)).length c) ((y.args.take i).foldl Ck.wv (Ck.wv L y.by_)) ∧ Below w.heap.size w wi ∧ wi.heap[w.heap.size]? = some (.cells (rv x).toArray 48)) (fun _ v7 _ => y.args.length - (RowKit.intOf v7).toNat)
        case atStart => exact ⟨0, a3, d3, rfl, rfl, by omega, o2, B2, H2⟩
        case round =>
          obtain ⟨i, a4, d4, rfl, rfl, hi, O4, B4, H4⟩ := hrel
          have c10 := HCC.out wr H4
          have p4 := lit_in (HRR.out wr B4)
          have c5 := p4.2.2.2.1
          by_cases hil : i < y.args.length
          · have q2 : (i : Int) < (y.args.length : Int) := by omega
            obtain ⟨P2, O2, hP2⟩ := Row.addr (show Row tK w y.a y.cap y.args from aY) (Nat.lt_of_le_of_lt (Nat.zero_le _) hil)
            have r4 : wr.rangeAt P2 (O2 + i * 4) (tv (y.args[i]'hil)) := by
              have := Row.below (show Row tK w y.a y.cap y.args from aY) B4 (Nat.le_refl _)
              rw [hP2] at this
              exact this.range i hil
            have ST : Hid ((y.args.take (i + 1)).foldl Ck.wv (Ck.wv L y.by_) = Ck.wv ((y.args.take i).foldl Ck.wv (Ck.wv L y.by_)) (y.args[i]'hil)) := by
              show _ = _
              rw [List.take_succ_eq_append_getElem hil, List.foldl_append]; rfl
            have L4 := Ck.fold_len (y.args.take i) (Ck.wv L y.by_)
            rw [List.length_take] at L4
            rw [hP2] at c5
            generalize (y.args[i]'hil) = t at *
            generalize (y.args.take i).foldl Ck.wv (Ck.wv L y.by_) = L' at *
            have iQ : (Tryz.prog.info? 44).map (·.size) = some (tv t).length := iT
            clear p4
            go_wp2_with (refine wpList_load_mid rfl 44 _ rfl P2 (O2 + i * 4) rfl (tv t) _ r4 Tryz.underlying44 rfl iQ ?_)
            refine (rwith_at t w.heap.size a4 L'.length d4 L' wr O4 B4.size (by omega)).mono ?_
            rintro e w7 ⟨⟨a7, d7, rfl, o7⟩, b7, k7⟩
            go_wp2_with fail
            exact ⟨⟨i + 1, a7, d7, by rw [ST.out], by go_num, by omega, by rw [ST.out]; exact o7, B4.trans b7, k7 48 (by decide) _ _ H4⟩, by simp [RowKit.intOf]; omega⟩
          · have q2 : ¬ (i : Int) < (y.args.length : Int) := by omega
            rw [List.take_of_length_le (by omega)] at O4 ⊢
            have p6 := p4.2.1
            have L4 := Ck.fold_len y.args (Ck.wv L y.by_)
            clear p4
            go_wp2_with (refine wpList_load_mid rfl 44 _ rfl P1 (O1 + j * 10 + 6) rfl (tv y.at_) _ p6 Tryz.underlying44 rfl iT ?_)
            refine (rwith_at y.at_ w.heap.size a4 _ d4 _ wr O4 B4.size (by omega)).mono ?_
            rintro e w7 ⟨⟨a7, d7, rfl, o7⟩, b7, k7⟩
            go_wp2_with fail
            exact ⟨⟨j + 1, a7, d7, by rw [SU.out]; rfl, by go_num, by omega, by omega, by rw [SU.out]; exact o7, B4.trans b7, k7 48 (by decide) _ _ H4⟩, by simp [RowKit.intOf]; omega⟩
      · have hjk' : j = k.toNat := by omega
        rw [hjk'] at O ⊢
        obtain ⟨a9, c9, e9, R9, _⟩ := own_row (D := sK) O (Nat.le_trans (Ck.bnd_all_len hv k.toNat) (by omega))
        cases e9
        have q2 : ¬ ((k.toNat : Nat) : Int) < k := by omega
        have q3 : ((k.toNat : Nat) : Int) < (x.body.length : Int) := by omega
        clear hjk'
        go_wp2_with fail
        go_ret
        exact ⟨⟨_, _, rfl, R9.row⟩, B⟩
    · have q1 : ¬ (j : Int) < (x.body.length : Int) := by omega
      rw [Ck.bnd_all (r := x.r) (k := j) (by omega), ← Ck.bnd_all (r := x.r) (k := k.toNat) (by omega)] at O ⊢
      obtain ⟨a9, c9, e9, R9, _⟩ := own_row (D := sK) O (Nat.le_trans (Ck.bnd_all_len hv k.toNat) (by omega))
      cases e9
      go_wp2_with fail
      go_ret
      exact ⟨⟨_, _, rfl, R9.row⟩, B⟩

set_option maxRecDepth 100000 in
set_option maxHeartbeats 400000 in
theorem rvars_at (x : Rv) (w : World) (hx : Rv.Aw w x) (hv : Ck.Vok x.r) :
    Calls Tryz.prog 86 #[rval x] w fun e w' => (∃ a c, e = .returned (.slice a (Ck.vars x.r).length c) ∧ Row sK w' a c (Ck.vars x.r)) ∧ Below w.heap.size w w' := by
  have A0 := below_alloc w (.cells (rv x).toArray 48)
  have H0 := heap_alloc_new w (.cells (rv x).toArray 48)
  have T := hideP (rbound_at x (x.body.length : Int) _ (hx.below A0 (Nat.le_refl _)) hv)
  rw [Int.toNat_natCast, show Ck.bnd x.r x.body.length = Ck.vars x.r by unfold Ck.vars; rw [show x.r.body.length = x.body.length from List.length_map ..]] at T
  go_enter Tryz.func86, Tryz.ntmps86
  go_wp2_with fail
  refine T.out.mono ?_
  rintro e w1 ⟨⟨a, c, rfl, r1⟩, b1⟩
  go_wp2_with fail
  go_ret
  exact ⟨⟨a, c, rfl, r1⟩, Below.then A0 b1⟩
end Go.Proofs.YtpdmmmdkpipmkaaGreatDoor
