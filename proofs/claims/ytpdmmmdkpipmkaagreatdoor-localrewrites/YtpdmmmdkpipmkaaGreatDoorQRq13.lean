/-
  The reference's One: what the rule of a number becomes.
-/
import Derived.Test.YtpdmmmdkpipmkaaGreatDoorQRm13
import Derived.Test.YtpdmmmdkpipmkaaGreatDoorQSb13
import Derived.Test.YtpdmmmdkpipmkaaGreatDoorQRb
import Derived.Test.YtpdmmmdkpipmkaaGreatDoorQRf2
namespace Go.Proofs.YtpdmmmdkpipmkaaGreatDoor
open Go.RowKit Go.Lib Go.Shelf

/-- a rule as a value -/
def RvM (m : Nat) (r : Ru) (v : Value) (X : World) : Prop := ∃ z : Rv, v = .agg (rv z).toArray ∧ z.r = r ∧ Rv.Ao m X z
/-- literals in a row of their type -/
def LsM (ls : List Lv) (v : Value) (X : World) : Prop := ∃ a c, v = .slice a ls.length c ∧ RowT lK 52 X a c ls
def BxM (B : Nat) (v : Value) (X : World) : Prop := ∃ U, v = .pointer (some ⟨U, 0, none⟩) ∧ B ≤ U ∧ ∃ C : Array Value, C.size = 11 ∧ X.heap[U]? = some (.cells C 48)
def StM (W : World) (k : Nat) (X X' : World) : Prop := (k ≠ 8 → Below X.heap.size X X') ∧ Below W.heap.size X X' ∧ Safe 44 X X' ∧ Safe 48 X X'
theorem StM.of {W X X' : World} {k : Nat} (h : Below X.heap.size X X') (hW : W.heap.size ≤ X.heap.size) : StM W k X X' := ⟨fun _ => h, h.mono hW, Safe.below h, Safe.below h⟩

set_option maxRecDepth 100000 in
set_option maxHeartbeats 4000000 in
theorem rone_at (m i : Nat) (x : Rv) (w : World) (hx : Rv.Ao m w x) (hm : m ≤ w.heap.size) (hv : Ck.Vok x.r) (hi : i ≤ 1000000) :
    Calls Tryz.prog 29 #[.int .i64 (i : Int), rval x] w fun e w' => ∃ a c ys, e = .returned (.slice a (List.length ys) c) ∧ Row rK w' a c ys ∧ (∀ y ∈ ys, Rv.Ao m w' y) ∧ ys.map Rv.r = Lc.one i x.r ∧ Below w.heap.size w w' := by
  have iT : (Tryz.prog.info? 44).map (·.size) = some 4 := by kernel_rfl
  have iL : (Tryz.prog.info? 52).map (·.size) = some 10 := by kernel_rfl
  have iR : (Tryz.prog.info? 48).map (·.size) = some 11 := by kernel_rfl
  have hrl : x.r.body.length = x.body.length := List.length_map ..
  have hbf : x.body.length ≤ 300 := by have := hv.few; rwa [hrl] at this
  have A0 := below_alloc w (.cells (rv x).toArray 48)
  have H0 := heap_alloc_new w (.cells (rv x).toArray 48)
  have s0 : (w.alloc (.cells (rv x).toArray 48)).heap.size = w.heap.size + 1 := World.size_alloc ..
  have I0 : SpI m (w.heap.size + 1) w.heap.size w x i 0 [] [] (.slice none 0 0) (.slice none 0 0) (w.alloc (.cells (rv x).toArray 48)) (w.alloc (.cells (rv x).toArray 48)) :=
    ⟨World.ownsRow_nil _ _ _ _, World.ownsRow_nil _ _ _ _, Kq.refl _ _, ⟨hm, Nat.le_refl _, Nat.lt_succ_self _, Nat.le_of_eq s0.symm⟩, Nat.le_refl _, (fun _ h => by cases h), (fun _ h => by cases h), Lc.Way.start _ _, A0, H0, by simp⟩
  have TB := hideP (fun (k : Nat) W (h : Below w.heap.size w W) => rbound_at x (k : Int) W (hx.aw.below h (Nat.le_refl _)) hv)
  have TL := hideP (fun k => Ck.bnd_all_len hv k)
  have HX := hideP hx
  have di := Lc.dec_len i hi
  clear hx hv
  go_enter Tryz.func29, Tryz.ntmps29
  go_wp2_with fail
  have eW : w.alloc (.cells #[str x.home.v, .bool x.home.k.num, .int .i64 x.home.k.n, str x.home.k.s, str x.pred, .slice x.a x.args.length x.cap, str x.to_.v, .bool x.to_.k.num, .int .i64 x.to_.k.n, str x.to_.k.s, .slice x.ba x.body.length x.bcap] 48) = w.alloc (.cells (rv x).toArray 48) := rfl
  simp only [eW]
  generalize w.alloc (.cells (rv x).toArray 48) = W0 at *
  clear eW A0 s0 H0
  go_loopw [5, 6, 7, 8, 9, 10, 11, 12, 13, 14, 15] (fun v5 v6 v7 _ _ _ _ _ _ _ _ wr => ∃ (k : Nat) (ys : List Rv) (ls : List Lv) (w1 : World), v7 = .int .i64 (k : Int) ∧ k ≤ x.body.length ∧ SpI m (w.heap.size + 1) w.heap.size w x i k ys ls v5 v6 w1 wr) (fun _ _ v7 _ _ _ _ _ _ _ _ _ => x.body.length - (RowKit.intOf v7).toNat)
  case atStart => exact ⟨0, [], [], W0, rfl, Nat.zero_le _, I0⟩
  case round =>
    clear I0
    obtain ⟨k, ys, ls, w1, rfl, hk, I⟩ := hrel
    obtain ⟨ln1, ln2⟩ := I.len
    obtain ⟨a6, c6, rfl, R6, _⟩ := own_row (D := lK) I.rea (by omega)
    obtain ⟨a5, c5, rfl, R5, _⟩ := own_row (D := rK) I.all (by omega)
    clear R5
    have c10 := (rule_parts10 I.box).2.2.2.2.2.2
    by_cases hlt : k < x.body.length
    · have q : (k : Int) < (x.body.length : Int) := by omega
      have hkr : k < x.r.body.length := by omega
      have hyr : x.r.body[k] = (x.body[k]'hlt).l := by simp [Rv.r]
      obtain ⟨P1, O1, hP⟩ := HX.out.body.row.addr (Nat.lt_of_le_of_lt (Nat.zero_le _) hlt)
      have r1 : wr.rangeAt P1 (O1 + k * 10) (lv (x.body[k]'hlt)) := by
        have := HX.out.body.row.below I.bel (Nat.le_refl _)
        rw [hP] at this
        exact this.range k hlt
      have aY := hideP (fun W (h : Below w.heap.size w W) => Lv.Ao.safe (HX.out.each _ (List.getElem_mem hlt)) (h.mono hm) (Safe.below h))
      have TR := hideP (fun W (h : Below w.heap.size w W) => remote_at x k W (HX.out.aw.below h (Nat.le_refl _)) hlt)
      rw [hP] at c10
      generalize hgy : (x.body[k]'hlt) = y at *
      clear hgy
      have iP : (Tryz.prog.info? 52).map (·.size) = some (lv y).length := iL
      go_upto_region 7 with (first
        | (refine wpList_load_mid rfl 52 _ rfl P1 (O1 + k * 10) rfl (lv y) _ r1 Tryz.underlying52 rfl iP ?_)
        | (refine wpList_store_all rfl 52 _ _ rfl wr.heap.size 10 _ 52 (lv y) rfl rfl (heap_alloc_new wr _) rfl rfl iL rfl ?_; intro w2 H2 d2; have b2 := below_tok d2))
      have p2 := (lit_parts10 H2).2.1
      have sU : wr.heap.size < w2.heap.size := heap_lt H2
      go_upto_region 8 with (first
        | (refine wpList_load_mid rfl 44 _ rfl wr.heap.size 6 rfl (tv y.at_) _ p2 Tryz.underlying44 rfl iT ?_)
        | (refine wpList_store_all rfl 44 _ _ rfl w2.heap.size 4 _ 44 (tv y.at_) rfl rfl (heap_alloc_new w2 _) rfl rfl iT rfl ?_; intro w3 H3 d3; have b3 := below_tok d3))
      have H23 := below_heap b3 H2
      go_upto_region 9 with (refine wpList_store_rec rfl 44 _ _ rfl wr.heap.size 6 10 4 52 (tv t0) (lv ⟨y.by_, y.pred, y.a, y.cap, y.args, t0⟩).toArray rfl rfl H23 rfl rfl (by decide) iT rfl rfl ?_; intro w4 H4 d4)
      have b4 : Below wr.heap.size wr w4 := (Below.then b2 b3).trans (d4.lower (Nat.le_refl _) (Below.then b2 b3).size)
      have I4 := I.next b4
      have R64 := R6.safe (Safe.below b4 : Safe 52 _ _)
      have HA4 := d4.heap (show w2.heap.size ≠ wr.heap.size by omega) H3
      generalize hU : wr.heap.size = U at *
      generalize hA : w2.heap.size = A at *
      clear r1 d2 b2 I R6 hU hA p2 sU d3 b3 H23 H2 H3 d4 b4 c10
      go_wp2_with (refine wpList_load_all rfl 48 _ rfl w.heap.size 11 48 (rv x) _ rfl I4.box rfl Tryz.underlying48 rfl iR ?_)
      refine (TR.out w4 I4.bel).mono ?_
      rintro e w5 ⟨rfl, b5⟩
      have I5 := I4.next b5
      have H5 := below_heap b5 H4
      have HA5 := below_heap b5 HA4
      have R65 := R64.safe (Safe.below b5)
      clear I4 H4 HA4 b5 R64 TR
      have HRM : Hid (Lc.rem x.r y.l = Lc.rem x.r y.l) := rfl
      generalize hq3 : Lc.rem x.r y.l = q3 at *
      have HQ := hideP hq3
      clear hq3 HRM
      cases q3 with
      | false =>
        have A6 := below_alloc w5 (.cells (lv ⟨y.by_, y.pred, y.a, y.cap, y.args, t0⟩).toArray 52)
        have I6 := I5.next A6
        have RL : Row lK (w5.alloc (.cells (lv ⟨y.by_, y.pred, y.a, y.cap, y.args, t0⟩).toArray 52)) (some ⟨w5.heap.size, 0, none⟩) 1 [⟨y.by_, y.pred, y.a, y.cap, y.args, t0⟩] := row_new lK w5 _ _ _ rfl
        go_wp2_with (first
          | (refine wpList_load_all rfl 52 _ rfl U 10 52 (lv ⟨y.by_, y.pred, y.a, y.cap, y.args, t0⟩) _ rfl H5 rfl Tryz.underlying52 rfl iL ?_)
          | (refine wpList_build_one rfl 46 52 _ rfl (lv ⟨y.by_, y.pred, y.a, y.cap, y.args, t0⟩) _ 10 136 rfl rfl (by decide) (by decide) Tryz.underlying46 Tryz.iLk13 ?_)
          | (at_builtin; refine wpList_append_rec lK _ rfl _ _ 46 52 rfl _ 136 Tryz.underlying46 Tryz.iLk13 rfl (by decide) w1.heap.size (.slice a6 ls.length c6) ls [⟨y.by_, y.pred, y.a, y.cap, y.args, t0⟩] (some ⟨w5.heap.size, 0, none⟩) 1 1 rfl I6.rea rfl rfl RL I6.s1 (by simp only [List.length_cons, List.length_nil]; omega) ?_; intro v6 w6 O6 g6))
        exact ⟨⟨k + 1, ys, ls ++ [⟨y.by_, y.pred, y.a, y.cap, y.args, t0⟩], w1, by go_num, by omega, I6.here hkr (by rw [hyr]; exact HQ.out) ⟨y.by_, y.pred, y.a, y.cap, y.args, t0⟩ (by rw [hyr]; rfl) (aY.out _ I6.bel) O6 g6⟩, by simp [RowKit.intOf]; omega⟩
      | true =>
        have dk := Lc.dec_len k (by omega)
        obtain ⟨s1, h1, q1, z1, n1⟩ := cat13 (Lib.decDigits i) [46]
        obtain ⟨s2, h2, q2, z2, n2⟩ := cat13 s1 (Lib.decDigits k)
        have zi := str_size (Lib.decDigits i)
        have zk := str_size (Lib.decDigits k)
        have e2 : s2 = Lc.nms i k := by rw [h2.out, h1.out]; simp [Lc.nms]
        subst e2
        obtain ⟨sa, ha, qa, za, na⟩ := cat13 [126, 97, 115, 107] (Lc.nms i k)
        obtain ⟨st, ht, qt, zt, nt⟩ := cat13 [126, 116, 101, 108, 108] (Lc.nms i k)
        have ea : sa = Lc.askN i k := ha.out
        have et : st = Lc.tellN i k := ht.out
        subst ea
        subst et
        simp only [List.length_cons, List.length_nil] at n1 na nt
        have q1' : (⟨(Lib.decDigits i).toArray⟩ : ByteArray) ++ ⟨#[46]⟩ = ⟨s1.toArray⟩ := q1
        have qa' : (⟨#[126, 97, 115, 107]⟩ : ByteArray) ++ ⟨(Lc.nms i k).toArray⟩ = ⟨(Lc.askN i k).toArray⟩ := qa
        have qt' : (⟨#[126, 116, 101, 108, 108]⟩ : ByteArray) ++ ⟨(Lc.nms i k).toArray⟩ = ⟨(Lc.tellN i k).toArray⟩ := qt
        clear q1 qa qt h1 h2 ha ht
        have D1 := hideP (rdigits_at (i : Int) w5 ⟨by omega, by omega⟩)
        have D2 := hideP (fun W => rdigits_at (k : Int) W ⟨by omega, by omega⟩)
        rw [itoa_nat] at D1
        simp only [itoa_nat] at D2
        generalize Lib.decDigits i = di1 at *
        generalize Lib.decDigits k = dk1 at *
        go_wp2_with fail
        refine D1.out.mono ?_
        rintro e w6 ⟨rfl, b6⟩
        go_wp2_with fail
        refine (D2.out w6).mono ?_
        rintro e w7 ⟨rfl, b7⟩
        have b67 := Below.then b6 b7
        have I7 := I5.next b67
        have H7 := below_heap b67 H5
        have HA7 := below_heap b67 HA5
        have R67 := R65.safe (Safe.below b67)
        clear I5 H5 HA5 R65 b6 b7 b67
        go_upto_region 12 with fail
        have nl : (Lc.nms i k).length ≤ 43 := by omega
        clear D1 D2 q1' q2 z1 n1 n2 zi zk di dk

        go_wp2_with (refine wpList_load_all rfl 48 _ rfl w.heap.size 11 48 (rv x) _ rfl I7.box rfl Tryz.underlying48 rfl iR ?_)
        refine (TB.out k w7 I7.bel).mono ?_
        rintro e w8 ⟨⟨ab, cb, rfl, Rb⟩, b8⟩
        rw [Int.toNat_natCast] at Rb ⊢
        go_wp2_with fail
        refine (rvarts_at ab cb (Ck.bnd x.r k) w8 Rb (Nat.le_trans (TL.out k) (by decide))).mono ?_
        rintro e w9 ⟨⟨aa, ca, rfl, Ra⟩, b9⟩
        have b89 := Below.then b8 b9
        have I9 := I7.next b89
        have H9 := below_heap b89 H7
        have HA9 := below_heap b89 HA7
        have R69 := R67.safe (Safe.below b89)
        clear I7 H7 HA7 R67 b8 b9 b89 Rb
        have wk : IntKind.i64.wrap ((k : Int) + 1) = ((k + 1 : Nat) : Int) := by rw [IntKind.wrap_i64]; omega
        go_wp2_with (refine wpList_load_all rfl 48 _ rfl w.heap.size 11 48 (rv x) _ rfl I9.box rfl Tryz.underlying48 rfl iR ?_)
        refine (TB.out (k + 1) w9 I9.bel).mono ?_
        rintro e w10 ⟨⟨ab2, cb2, rfl, Rb2⟩, b10⟩
        rw [Int.toNat_natCast] at Rb2 ⊢
        go_wp2_with fail
        refine (rvarts_at ab2 cb2 (Ck.bnd x.r (k + 1)) w10 Rb2 (Nat.le_trans (TL.out (k + 1)) (by decide))).mono ?_
        rintro e w11 ⟨⟨ac, cc, rfl, Rc⟩, b11⟩
        have b1011 := Below.then b10 b11
        have I11 := I9.next b1011
        have H11 := below_heap b1011 H9
        have HA11 := below_heap b1011 HA9
        have R611 := R69.safe (Safe.below b1011)
        have Ra11 := Ra.safe (Safe.below b1011)
        clear I9 H9 HA9 R69 b10 b11 b1011 Rb2 Ra
        go_wp2_with fail
        refine wp_region_held (S := fun X => Below w11.drew.heap.size w11.drew X) (by kernel_rfl) ?_
        change wpAnyH _ _ _ _ _ _ _ _ w11.drew
        have gD := (Below.refl w11.heap.size w11).drew
        have I12 := I11.next gD
        have H12 := below_heap gD H11
        have HA12 := below_heap gD HA11
        have R612 := R611.safe (Safe.below gD : Safe 52 _ _)
        have Ra12 := Ra11.safe (Safe.below gD : Safe 44 _ _)
        have Rc12 := Rc.safe (Safe.below gD : Safe 44 _ _)
        clear I11 H11 HA11 R611 Ra11 Rc gD
        generalize w11.drew = W at *
        have hHeld := Below.refl W.heap.size W
        refine wpAnyH_take (i := 0) (v := .pointer (some ⟨w.heap.size, 0, none⟩)) rfl (by kernel_rfl) (by kernel_rfl) (by kernel_rfl) (fun _ _ _ h => h) (Or.inl ⟨by kernel_rfl, fun w hSw => by kernel_rfl⟩) hHeld ?_
        refine wpAnyH_take (i := 1) (v := .agg (tv x.home).toArray) rfl (by kernel_rfl) (by kernel_rfl) (by kernel_rfl) (fun _ _ _ h => h) (yieldsIf_load_mid (by kernel_rfl) 44 _ rfl w.heap.size 0 (tv x.home) _ (by kernel_rfl) Tryz.underlying44 rfl iT (fun X hS => (rule_parts10 (below_heap hS I12.box)).1)) hHeld ?_
        refine wpAnyH_take (i := 2) (v := str (Lc.nms i k)) rfl (by kernel_rfl) (by kernel_rfl) (by kernel_rfl) (fun _ _ _ h => h) (Or.inl ⟨by kernel_rfl, fun w hSw => by kernel_rfl⟩) hHeld ?_
        refine wpAnyH_take (i := 3) (v := str (Lc.askN i k)) rfl (by kernel_rfl) (by kernel_rfl) (by kernel_rfl) (fun _ _ _ h => h) (Or.inl ⟨by kernel_rfl, fun w hSw => by go_simp; omega⟩) hHeld ?_
        refine wpAnyH_take (i := 4) (v := .slice aa (Lc.vts (Ck.bnd x.r k)).length ca) rfl (by kernel_rfl) (by kernel_rfl) (by kernel_rfl) (fun _ _ _ h => h) (Or.inl ⟨by kernel_rfl, fun w hSw => by kernel_rfl⟩) hHeld ?_
        refine wpAnyH_take (i := 5) (v := .agg (tv y.at_).toArray) rfl (by kernel_rfl) (by kernel_rfl) (by kernel_rfl) (fun _ _ _ h => h) (yieldsIf_load_mid (by kernel_rfl) 44 _ rfl A 0 (tv y.at_) _ (by kernel_rfl) Tryz.underlying44 rfl iT (fun X hS => World.rangeAt_of_block (below_heap hS HA12) 0 4)) hHeld ?_
        refine wpAnyH_take (i := 7) (v := .slice a6 ls.length c6) rfl (by kernel_rfl) (by kernel_rfl) (by kernel_rfl) (fun _ _ _ h => h) (Or.inl ⟨by kernel_rfl, fun w hSw => by kernel_rfl⟩) hHeld ?_
        refine Sb.each (StM W) (fun j k => !(k == 8) || j == 10) (fun X => Below W.heap.size W X) (fun _ X X' h b => h.trans b.2.1) [6, 8, 9, 10] (fun | 6 => 61 | 8 => 63 | 9 => 64 | _ => 13) (fun | 8 => [6] | 9 => [8] | _ => []) (fun | 6 => (fun v X => X.ownsRow W.heap.size 52 lK.k v ([] : List Lv).length (([] : List Lv).flatMap lK.enc)) | 8 => LsM ls | 9 => RvM m (Lc.askR i x.r k y.l (ls.map Lv.l)) | _ => BxM W.heap.size) 1 _ _ (by kernel_rfl) (by kernel_rfl) (by kernel_rfl) ?st ?op ?fin W hHeld hHeld
        case st =>
          intro j k' v X X' hk' hR st
          by_cases h10 : j = 10
          · subst h10
            obtain ⟨U', h1, h0, C, h2, h3⟩ := hR
            exact ⟨U', h1, h0, C, h2, st.2.2.2 _ _ h3⟩
          have hb : Below X.heap.size X X' := st.1 (fun e => by subst e; simp [h10] at hk')
          revert hR
          split
          · exact fun hR => ownsRow_keep hR (Safe.below hb)
          · exact fun ⟨a, c, h1, h2⟩ => ⟨a, c, h1, h2.safe (Safe.below hb)⟩
          · exact fun ⟨z, h1, h2, h3⟩ => ⟨z, h1, h2, h3.safe ⟨st.2.1.mono (Nat.le_trans hm I12.bel.size), Safe.below hb, Safe.below hb⟩⟩
          · exact fun ⟨U', h1, h0, C, h2, h3⟩ => ⟨U', h1, h0, C, h2, st.2.2.2 _ _ h3⟩
        case op =>
          intro j hj o ho g X hS _ hdone
          simp only [List.mem_cons, List.not_mem_nil, or_false] at hj
          rcases hj with rfl | rfl | rfl | rfl
          · obtain rfl := Option.some.inj ho
            have A := below_alloc X (.cells #[] 52)
            have OW := owns_lit lK X 52 #[] [] rfl (by simp)
            refine Sb.val (.slice (some ⟨X.heap.size, 0, none⟩) 0 0) (w' := X.alloc (.cells #[] 52)) (by kernel_rfl) ?_
            exact ⟨_, rfl, Below.then hS A, StM.of A hS.size, ⟨OW.1, OW.2.imp id (fun ⟨g, c, cur, h1, h2, h3⟩ => ⟨g, c, cur, h1, Nat.le_trans hS.size h2, h3⟩)⟩⟩
          · obtain rfl := Option.some.inj ho
            have hown := hdone 6 (List.mem_cons_self ..) (by decide +kernel)
            simp only [List.foldl_cons, List.foldl_nil]
            refine owp_append_recN lK _ _ 46 52 rfl _ 136 Tryz.underlying46 Tryz.iLk13 rfl W.heap.size (g 6) [] ls a6 ls.length c6 (by kernel_rfl) hown (by kernel_rfl) rfl ((R612.safe (Safe.below hS)).row) hS.size (by simp only [List.length_nil]; omega) (by simp only [List.length_nil]; omega) ?_
            intro v' X' o' g'
            have Bl := own_below hown g' hS.size
            obtain ⟨a', c', rfl, R', _⟩ := own_row (D := lK) (xs := [] ++ ls) o' (by simp only [List.nil_append]; omega)
            exact ⟨_, rfl, hS.trans Bl, ⟨fun h => absurd rfl h, Bl, Safe.grown hown g' (by decide), Safe.grown hown g' (by decide)⟩, a', c', rfl, R'⟩
          · obtain rfl := Option.some.inj ho
            obtain ⟨a, c, hg, Rg⟩ := hdone 8 (List.mem_cons_self ..) (by decide +kernel)
            simp only [List.foldl_cons, List.foldl_nil]
            rw [hg]
            refine Sb.val (.agg (rv ⟨x.home, Lc.askN i k, aa, ca, Lc.vts (Ck.bnd x.r k), y.at_, a, c, ls⟩).toArray) (w' := X) (by kernel_rfl) ?_
            have KX := Kq.below hS (Nat.le_trans hm I12.bel.size)
            exact ⟨_, rfl, hS, StM.of (Below.refl _ _) hS.size, ⟨x.home, Lc.askN i k, aa, ca, Lc.vts (Ck.bnd x.r k), y.at_, a, c, ls⟩, rfl, rfl, (Ra12.safe KX.tm).o m, Rg.o m, fun l hl => (I12.lits l hl).safe KX.low KX.tm⟩
          · obtain rfl := Option.some.inj ho
            have A := below_alloc X (.cells #[.string { data := #[] }, .bool false, .int .i64 0, .string { data := #[] }, .string { data := #[] }, .slice none 0 0, .string { data := #[] }, .bool false, .int .i64 0, .string { data := #[] }, .slice none 0 0] 48)
            refine Sb.val (.pointer (some ⟨X.heap.size, 0, none⟩)) (w' := X.alloc (.cells #[.string { data := #[] }, .bool false, .int .i64 0, .string { data := #[] }, .string { data := #[] }, .slice none 0 0, .string { data := #[] }, .bool false, .int .i64 0, .string { data := #[] }, .slice none 0 0] 48)) (by kernel_rfl) ?_
            exact ⟨_, rfl, Below.then hS A, StM.of A hS.size, X.heap.size, rfl, hS.size, _, rfl, heap_alloc_new _ _⟩
        case fin =>
          intro g X hS _ hg
          obtain ⟨z, hz, hzl, hza⟩ := hg 9 (by decide) (by decide +kernel)
          obtain ⟨T, hT, hTW, C, hC, HT⟩ := hg 10 (by decide) (by decide +kernel)
          simp only [List.foldl_cons, List.foldl_nil]
          rw [hz, hT]
          generalize g 6 = g6
          generalize g 8 = g8
          clear hg hz hT g
          refine wpAnyH_one 11 (by kernel_rfl) ?_
          refine wpOp_store_all rfl rfl 48 _ _ rfl T 11 C 48 (rv z) (by kernel_rfl) (by kernel_rfl) HT hC rfl iR rfl ?_
          intro w13 G13 d13
          have B13 : Below W.heap.size W w13 := hS.trans (d13.lower hTW hS.size)
          refine ⟨B13, ?_⟩
          refine wpAnyH_done (by kernel_rfl) ?_ _
          simp only [Act.put, List.getElem_toArray, List.getElem_cons_succ, List.getElem_cons_zero, List.setIfInBounds_toArray, List.set_cons_zero, List.set_cons_succ]
          have I13 := I12.next B13
          have H13 := below_heap B13 H12
          have HA13 := below_heap B13 HA12
          have Ra13 := Ra12.safe (Safe.below B13)
          have Rc13 := Rc12.safe (Safe.below B13)
          have K13 : Rv.Ao m w13 z := hza.safe ⟨d13.lower (by have := I12.mB.1; have := I12.bel.size; omega) (by have := I12.mB.1; have := I12.bel.size; have := hS.size; omega), Safe.but d13 HT (by decide), Safe.but d13 HT (by decide)⟩
          clear I12 H12 HA12 R612 Ra12 Rc12 hHeld hS d13 B13 HT hza hC hTW
          have r13 := (rule_parts10 I13.box).1
          go_upto_region 16 with (first
            | (refine wpList_load_mid rfl 44 _ rfl w.heap.size 0 rfl (tv x.home) _ r13 Tryz.underlying44 rfl iT ?_)
            | (refine wpList_bld rfl 52 _ rfl (.agg (lv ⟨x.home, Lc.askN i k, aa, ca, Lc.vts (Ck.bnd x.r k), t0⟩).toArray) (by kernel_rfl) ?_)
            | (refine wpList_store_all rfl 52 _ _ rfl w13.heap.size 10 _ 52 (lv ⟨x.home, Lc.askN i k, aa, ca, Lc.vts (Ck.bnd x.r k), t0⟩) rfl rfl (heap_alloc_new w13 _) rfl rfl iL rfl ?_; intro w14 H14 d14; have b14 := below_tok d14))
          have I14 := I13.next b14
          have HU14 := below_heap b14 H13
          have HA14 := below_heap b14 HA13
          have Ra14 := Ra13.safe (Safe.below b14)
          have Rc14 := Rc13.safe (Safe.below b14)
          have K14 := K13.safe (Kq.below b14 (Nat.le_trans hm I13.bel.size))
          have G14 := below_heap b14 G13
          generalize hN : w13.heap.size = N at *
          clear I13 H13 HA13 Ra13 Rc13 K13 G13 r13 d14 b14 hN
          have r14 := (rule_parts10 I14.box).1
          have A15 := below_alloc w14 (.cells (lv ⟨x.home, Lc.askN i k, aa, ca, Lc.vts (Ck.bnd x.r k), t0⟩ ++ lv ⟨y.by_, y.pred, y.a, y.cap, y.args, t0⟩).toArray 52)
          have RL15 : RowT lK 52 (w14.alloc (.cells (lv ⟨x.home, Lc.askN i k, aa, ca, Lc.vts (Ck.bnd x.r k), t0⟩ ++ lv ⟨y.by_, y.pred, y.a, y.cap, y.args, t0⟩).toArray 52)) (some ⟨w14.heap.size, 0, none⟩) 2 [⟨x.home, Lc.askN i k, aa, ca, Lc.vts (Ck.bnd x.r k), t0⟩, ⟨y.by_, y.pred, y.a, y.cap, y.args, t0⟩] := ⟨row_two lK w14 _ _ _ _ rfl, fun ad ha => by cases ha; exact ⟨_, heap_alloc_new _ _⟩⟩
          have H15z : ((w14.alloc (.cells (lv ⟨x.home, Lc.askN i k, aa, ca, Lc.vts (Ck.bnd x.r k), t0⟩ ++ lv ⟨y.by_, y.pred, y.a, y.cap, y.args, t0⟩).toArray 52)).alloc (.cells #[.string { data := #[] }, .bool false, .int .i64 0, .string { data := #[] }, .string { data := #[] }, .slice none 0 0, .string { data := #[] }, .bool false, .int .i64 0, .string { data := #[] }, .slice none 0 0] 48)).heap[w14.heap.size + 1]? = some (.cells #[.string { data := #[] }, .bool false, .int .i64 0, .string { data := #[] }, .string { data := #[] }, .slice none 0 0, .string { data := #[] }, .bool false, .int .i64 0, .string { data := #[] }, .slice none 0 0] 48) := by
            have := heap_alloc_new (w14.alloc (.cells (lv ⟨x.home, Lc.askN i k, aa, ca, Lc.vts (Ck.bnd x.r k), t0⟩ ++ lv ⟨y.by_, y.pred, y.a, y.cap, y.args, t0⟩).toArray 52)) (.cells #[.string { data := #[] }, .bool false, .int .i64 0, .string { data := #[] }, .string { data := #[] }, .slice none 0 0, .string { data := #[] }, .bool false, .int .i64 0, .string { data := #[] }, .slice none 0 0] 48)
            rwa [World.size_alloc] at this
          go_upto_region 17 with (first
            | (refine wpList_load_all rfl 44 _ rfl A 4 44 (tv y.at_) _ rfl HA14 rfl Tryz.underlying44 rfl iT ?_)
            | (refine wpList_load_mid rfl 44 _ rfl w.heap.size 0 rfl (tv x.home) _ r14 Tryz.underlying44 rfl iT ?_)
            | (refine wpList_load_all rfl 52 _ rfl N 10 52 (lv ⟨x.home, Lc.askN i k, aa, ca, Lc.vts (Ck.bnd x.r k), t0⟩) _ rfl H14 rfl Tryz.underlying52 rfl iL ?_)
            | (refine wpList_load_all rfl 52 _ rfl U 10 52 (lv ⟨y.by_, y.pred, y.a, y.cap, y.args, t0⟩) _ rfl HU14 rfl Tryz.underlying52 rfl iL ?_)
            | (refine wpList_build_two rfl 46 52 _ _ rfl (lv ⟨x.home, Lc.askN i k, aa, ca, Lc.vts (Ck.bnd x.r k), t0⟩) (lv ⟨y.by_, y.pred, y.a, y.cap, y.args, t0⟩) _ 10 136 rfl rfl rfl rfl (by decide) (by decide) Tryz.underlying46 Tryz.iLk13 _ rfl ?_)
            | (refine wpList_bld rfl 48 _ rfl (.agg (rv ⟨y.at_, Lc.tellN i k, ac, cc, Lc.vts (Ck.bnd x.r (k + 1)), x.home, some ⟨w14.heap.size, 0, none⟩, 2, [⟨x.home, Lc.askN i k, aa, ca, Lc.vts (Ck.bnd x.r k), t0⟩, ⟨y.by_, y.pred, y.a, y.cap, y.args, t0⟩]⟩).toArray) (by kernel_rfl) ?_)
            | (refine wpList_store_all rfl 48 _ _ rfl (w14.heap.size + 1) 11 _ 48 (rv ⟨y.at_, Lc.tellN i k, ac, cc, Lc.vts (Ck.bnd x.r (k + 1)), x.home, some ⟨w14.heap.size, 0, none⟩, 2, [⟨x.home, Lc.askN i k, aa, ca, Lc.vts (Ck.bnd x.r k), t0⟩, ⟨y.by_, y.pred, y.a, y.cap, y.args, t0⟩]⟩) rfl rfl H15z rfl rfl iR rfl ?_; intro w16 H16 d16; have b16 := below_tok (show But (w14.alloc (.cells (lv ⟨x.home, Lc.askN i k, aa, ca, Lc.vts (Ck.bnd x.r k), t0⟩ ++ lv ⟨y.by_, y.pred, y.a, y.cap, y.args, t0⟩).toArray 52)).heap.size _ w16 from (by rw [World.size_alloc]; exact d16))))
          generalize hX15 : w14.alloc (.cells (lv ⟨x.home, Lc.askN i k, aa, ca, Lc.vts (Ck.bnd x.r k), t0⟩ ++ lv ⟨y.by_, y.pred, y.a, y.cap, y.args, t0⟩).toArray 52) = w15 at *
          clear hX15
          have b1416 := Below.then A15 b16
          have I16 := I14.next b1416
          have HA16 := below_heap b1416 HA14
          have Rc16 := Rc14.safe (Safe.below b1416)
          have K16 := K14.safe (Kq.below b1416 (Nat.le_trans hm I14.bel.size))
          have G16 := below_heap b1416 G14
          have Ra16 := Ra14.safe (Safe.below b1416)
          have RL16 := RL15.safe (Safe.below b16)
          have aY16 := aY.out w16 I16.bel
          have T16 : Rv.Ao m w16 ⟨y.at_, Lc.tellN i k, ac, cc, Lc.vts (Ck.bnd x.r (k + 1)), x.home, some ⟨w14.heap.size, 0, none⟩, 2, [⟨x.home, Lc.askN i k, aa, ca, Lc.vts (Ck.bnd x.r k), t0⟩, ⟨y.by_, y.pred, y.a, y.cap, y.args, t0⟩]⟩ := ⟨Rc16.o m, RL16.o m, fun l hl => by
            rcases List.mem_cons.1 hl with rfl | hl
            · exact Ra16.o m
            · rw [List.mem_singleton.1 hl]; exact aY16⟩
          generalize hNN : w14.heap.size + 1 = N2 at *
          generalize hbb : w14.heap.size = b66 at *
          clear hNN H15z I14 HU14 HA14 Ra14 Rc14 K14 G14 r14 A15 RL15 d16 b16 b1416 H14 RL16
          have A17 := below_alloc w16 (.cells (rv z ++ rv ⟨y.at_, Lc.tellN i k, ac, cc, Lc.vts (Ck.bnd x.r (k + 1)), x.home, some ⟨b66, 0, none⟩, 2, [⟨x.home, Lc.askN i k, aa, ca, Lc.vts (Ck.bnd x.r k), t0⟩, ⟨y.by_, y.pred, y.a, y.cap, y.args, t0⟩]⟩).toArray 48)
          have I17 := I16.next A17
          have R17 : Row rK (w16.alloc (.cells (rv z ++ rv ⟨y.at_, Lc.tellN i k, ac, cc, Lc.vts (Ck.bnd x.r (k + 1)), x.home, some ⟨b66, 0, none⟩, 2, [⟨x.home, Lc.askN i k, aa, ca, Lc.vts (Ck.bnd x.r k), t0⟩, ⟨y.by_, y.pred, y.a, y.cap, y.args, t0⟩]⟩).toArray 48)) (some ⟨w16.heap.size, 0, none⟩) 2 [z, ⟨y.at_, Lc.tellN i k, ac, cc, Lc.vts (Ck.bnd x.r (k + 1)), x.home, some ⟨b66, 0, none⟩, 2, [⟨x.home, Lc.askN i k, aa, ca, Lc.vts (Ck.bnd x.r k), t0⟩, ⟨y.by_, y.pred, y.a, y.cap, y.args, t0⟩]⟩] := row_two rK w16 _ _ _ _ rfl
          have KQ := Kq.below A17 (Nat.le_trans hm I16.bel.size)
          have hb17 := Nat.le_trans I17.mB.2.2.2 I17.s1
          go_upto_region 18 with (first
            | (refine wpList_load_all rfl 48 _ rfl T 11 48 (rv z) _ rfl G16 rfl Tryz.underlying48 rfl iR ?_)
            | (refine wpList_load_all rfl 48 _ rfl N2 11 48 (rv ⟨y.at_, Lc.tellN i k, ac, cc, Lc.vts (Ck.bnd x.r (k + 1)), x.home, some ⟨b66, 0, none⟩, 2, [⟨x.home, Lc.askN i k, aa, ca, Lc.vts (Ck.bnd x.r k), t0⟩, ⟨y.by_, y.pred, y.a, y.cap, y.args, t0⟩]⟩) _ rfl H16 rfl Tryz.underlying48 rfl iR ?_)
            | (refine wpList_build_two rfl 22 48 _ _ rfl (rv z) (rv ⟨y.at_, Lc.tellN i k, ac, cc, Lc.vts (Ck.bnd x.r (k + 1)), x.home, some ⟨b66, 0, none⟩, 2, [⟨x.home, Lc.askN i k, aa, ca, Lc.vts (Ck.bnd x.r k), t0⟩, ⟨y.by_, y.pred, y.a, y.cap, y.args, t0⟩]⟩) _ 11 160 rfl rfl rfl rfl (by decide) (by decide) Tryz.underlying22 Tryz.iRk13 _ rfl ?_)
            | (at_builtin; refine wpList_append_rec rK _ rfl _ _ 22 48 rfl _ 160 Tryz.underlying22 Tryz.iRk13 rfl (by decide) (w.heap.size + 1) (.slice a5 ys.length c5) ys [z, ⟨y.at_, Lc.tellN i k, ac, cc, Lc.vts (Ck.bnd x.r (k + 1)), x.home, some ⟨b66, 0, none⟩, 2, [⟨x.home, Lc.askN i k, aa, ca, Lc.vts (Ck.bnd x.r k), t0⟩, ⟨y.by_, y.pred, y.a, y.cap, y.args, t0⟩]⟩] (some ⟨w16.heap.size, 0, none⟩) 2 2 rfl I17.all rfl rfl R17 hb17 (by simp only [List.length_cons, List.length_nil]; omega) ?_; intro v18 w18 O18 g18))
          have hrm : Lc.rem x.r x.r.body[k] = true := by rw [hyr]; exact HQ.out
          have J18 := I17.two hkr hrm z _ (by rw [hyr]; exact hzl) (by rw [hyr]; rfl) (K16.safe KQ) (T16.safe KQ) O18 g18
          have sT : Safe 44 w16 w18 := (Safe.below A17).trans (Safe.grown I17.all g18 (by decide))
          have HA18 := sT _ _ HA16
          have Rc18 := Rc16.safe sT
          have K18 := J18.fin ⟨y.at_, Lc.tellN i k, ac, cc, Lc.vts (Ck.bnd x.r (k + 1)), t0⟩ (by rw [hyr]; rfl) (show RowO tK m 44 _ ac cc _ from RowT.o Rc18 m)
          clear I16 I17 HA16 Rc16 K16 G16 Ra16 aY16 T16 A17 R17 KQ hb17 J18 O18 g18 H16 sT
          go_wp2_with (first
            | (refine wpList_load_all rfl 44 _ rfl A 4 44 (tv y.at_) _ rfl HA18 rfl Tryz.underlying44 rfl iT ?_)
            | (refine wpList_bld rfl 52 _ rfl (.agg (lv ⟨y.at_, Lc.tellN i k, ac, cc, Lc.vts (Ck.bnd x.r (k + 1)), t0⟩).toArray) (by kernel_rfl) ?_)
            | (refine wpList_build_one rfl 46 52 _ rfl (lv ⟨y.at_, Lc.tellN i k, ac, cc, Lc.vts (Ck.bnd x.r (k + 1)), t0⟩) _ 10 136 rfl rfl (by decide) (by decide) Tryz.underlying46 Tryz.iLk13 ?_))
          exact ⟨⟨k + 1, ys ++ [z, _], [⟨y.at_, Lc.tellN i k, ac, cc, Lc.vts (Ck.bnd x.r (k + 1)), t0⟩], w18, by go_num, by omega, K18⟩, by simp [RowKit.intOf]; omega⟩
    · have q : ¬ (k : Int) < (x.body.length : Int) := by omega
      obtain ⟨p0, p6, _, p4, p5, _, _⟩ := rule_parts10 I.box
      have A2 := below_alloc wr (.cells (rv ⟨x.home, x.pred, x.a, x.cap, x.args, x.to_, a6, c6, ls⟩).toArray 48)
      have I2 := I.next A2
      have R2 : Row rK (wr.alloc (.cells (rv ⟨x.home, x.pred, x.a, x.cap, x.args, x.to_, a6, c6, ls⟩).toArray 48)) (some ⟨wr.heap.size, 0, none⟩) 1 [⟨x.home, x.pred, x.a, x.cap, x.args, x.to_, a6, c6, ls⟩] := row_new rK wr _ _ _ rfl
      have KX := Kq.below I2.bel hm
      have AO : Rv.Ao m (wr.alloc (.cells (rv ⟨x.home, x.pred, x.a, x.cap, x.args, x.to_, a6, c6, ls⟩).toArray 48)) ⟨x.home, x.pred, x.a, x.cap, x.args, x.to_, a6, c6, ls⟩ := ⟨HX.out.args.safe KX.low KX.tm, (R6.safe (Safe.below A2)).o m, I2.lits⟩
      have hb2 := Nat.le_trans I2.mB.2.2.2 I2.s1
      go_wp2_with (first
        | (refine wpList_load_mid rfl 44 _ rfl w.heap.size 0 rfl (tv x.home) _ p0 Tryz.underlying44 rfl iT ?_)
        | (refine wpList_load_mid rfl 44 _ rfl w.heap.size 6 rfl (tv x.to_) _ p6 Tryz.underlying44 rfl iT ?_)
        | (refine wpList_bld rfl 48 _ rfl (.agg (rv ⟨x.home, x.pred, x.a, x.cap, x.args, x.to_, a6, c6, ls⟩).toArray) (by kernel_rfl) ?_)
        | (refine wpList_build_one rfl 22 48 _ rfl (rv ⟨x.home, x.pred, x.a, x.cap, x.args, x.to_, a6, c6, ls⟩) _ 11 160 rfl rfl (by decide) (by decide) Tryz.underlying22 Tryz.iRk13 ?_)
        | (at_builtin; refine wpList_append_rec rK _ rfl _ _ 22 48 rfl _ 160 Tryz.underlying22 Tryz.iRk13 rfl (by decide) (w.heap.size + 1) (.slice a5 ys.length c5) ys [⟨x.home, x.pred, x.a, x.cap, x.args, x.to_, a6, c6, ls⟩] (some ⟨wr.heap.size, 0, none⟩) 1 1 rfl I2.all rfl rfl R2 hb2 (by simp only [List.length_cons, List.length_nil]; omega) ?_; intro v3 w3 O3 g3; obtain ⟨a7, c7, rfl, RR, AA, EE, BB⟩ := I2.last (by omega) ⟨x.home, x.pred, x.a, x.cap, x.args, x.to_, a6, c6, ls⟩ rfl AO O3 g3 (by omega)))
      go_ret
      exact ⟨a7, c7, ys ++ [⟨x.home, x.pred, x.a, x.cap, x.args, x.to_, a6, c6, ls⟩], by rw [List.length_append]; rfl, RR, AA, EE, BB⟩
end Go.Proofs.YtpdmmmdkpipmkaaGreatDoor
