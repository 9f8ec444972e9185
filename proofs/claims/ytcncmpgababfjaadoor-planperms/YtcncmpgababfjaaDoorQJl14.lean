/-
  The reference's Order.
-/
import Derived.Test.YtcncmpgababfjaaDoorQJk14
import Derived.Test.YtcncmpgababfjaaDoorQW9
namespace Go.Proofs.YtcncmpgababfjaaDoor
open Go.RowKit Go.Lib Go.Shelf

theorem Tryd.iIn14 : (Tryd.prog.info? 3).map (fun i => (i.zero, i.size, i.bytes)) = some (some (.int .i64 0), iK14.k, 8) := by kernel_rfl
/-- numbers in a row of the call's own -/
def OwnI (base : Nat) (w : World) (v : Value) (o : List Nat) : Prop := w.ownsRow base 3 iK14.k v o.length (o.flatMap iK14.enc)
theorem lvk_len (x : Rv) (hv : Ck.Vok x.r) (k : Nat) : (Pn.lvk x.r k).length ≤ 302 := by
  unfold Pn.lvk
  cases h : x.r.body[k]? with
  | none => simp
  | some y =>
    have := hv.each y (List.mem_of_getElem? h)
    simp only [Pn.lvs, List.length_cons, List.length_map]
    omega
theorem vs_len (x : Rv) (hv : Ck.Vok x.r) : ∀ o : List Nat, (Pn.vs x.r o).length ≤ 1 + o.length * 302
  | [] => by simp [Pn.vs]
  | k :: o => by
    have h1 := vs_len x hv o
    have h2 := lvk_len x hv k
    simp only [Pn.vs, List.length_cons, List.flatMap_cons, List.length_append] at h1 ⊢
    omega
/-- the reference's order as it grows -/
structure RSt (x : Rv) (w0 w : World) (vo vv : Value) (o : List Nat) : Prop where
  out : OwnI w0.heap.size w vo o
  vars : OwnT w0.heap.size w vv (Pn.vs x.r o)
  box : w.heap[w0.heap.size]? = some (.cells (rv x).toArray 29)
  bel : Below w0.heap.size w0 w
theorem RSt.next {x : Rv} {w0 w w' : World} {vo vv : Value} {o : List Nat} (h : RSt x w0 w vo vv o) (hb : Below w.heap.size w w') : RSt x w0 w' vo vv o :=
  ⟨ownsRow_keep h.out (Safe.below hb), ownsRow_keep h.vars (Safe.below hb), below_heap hb h.box, h.bel.trans (hb.mono h.bel.size)⟩
theorem ownT_row {base : Nat} {w : World} {a : Option Addr} {c : Nat} {L : List (List UInt8)} (h : OwnT base w (.slice a L.length c) L) (hl : L.length ≤ 4398046510976) : Row sK w a c L := by
  obtain ⟨a', c', e, R, _⟩ := own_row (D := sK) h hl
  injection e with e1 _ e3
  subst e1 e3
  exact R.row
theorem ownI_row {base : Nat} {w : World} {a : Option Addr} {c : Nat} {L : List Nat} (h : OwnI base w (.slice a L.length c) L) (hl : L.length ≤ 4398046510976) : Row iK14 w a c L := by
  obtain ⟨a', c', e, R, _⟩ := own_row (D := iK14) h hl
  injection e with e1 _ e3
  subst e1 e3
  exact R.row
/-- the most known terms so far -/
def pkm (c : Nat → Nat) : Option Nat → Int
  | none => -1
  | some b => (c b : Int)
theorem lit_at14 {w : World} {b o : Nat} {y : Lv} (h : w.rangeAt b o (lv y)) : w.rangeAt b o (tv y.by_) ∧ w.cell? ⟨b, o + 5, none⟩ = some (.slice y.a y.args.length y.cap) := ⟨(lit_in h).1, (lit_in h).2.2.2.1⟩

set_option maxRecDepth 100000 in
set_option maxHeartbeats 4000000 in
theorem rorder14_at (x : Rv) (first : Int) (w : World) (hx : Rv.Aw w x) (hv : Ck.Vok x.r) :
    Calls Tryd.prog 9 #[rval x, .int .i64 first] w fun e w' => (∃ a c, e = .returned (.slice a (Pn.ord x.r first).length c) ∧ Row iK14 w' a c (Pn.ord x.r first)) ∧ Below w.heap.size w w' := by
  have hrl : x.r.body.length = x.body.length := List.length_map ..
  have hn : x.body.length ≤ 300 := by have := hv.few; rwa [hrl] at this
  have A0 := below_alloc w (.cells (rv x).toArray 29)
  have H0 := heap_alloc_new w (.cells (rv x).toArray 29)
  have d0 : (w.alloc (.cells (rv x).toArray 29)).cell? ⟨w.heap.size, 0, none⟩ = some (str x.home.v) := by rw [heap_cell H0]; rfl
  have A1 := below_alloc (w.alloc (.cells (rv x).toArray 29)) (.cells #[str x.home.v] 9)
  have V1 : OwnT w.heap.size ((w.alloc (.cells (rv x).toArray 29)).alloc (.cells #[str x.home.v] 9)) (.slice (some ⟨(w.alloc (.cells (rv x).toArray 29)).heap.size, 0, none⟩) 1 1) [x.home.v] := World.ownsRow_lit _ #[str x.home.v] 1 A0.size (by decide) rfl
  have S1 : RSt x w ((w.alloc (.cells (rv x).toArray 29)).alloc (.cells #[str x.home.v] 9)) (.slice none 0 0) (.slice (some ⟨(w.alloc (.cells (rv x).toArray 29)).heap.size, 0, none⟩) 1 1) [] := ⟨World.ownsRow_nil _ _ _ _, V1, below_heap A1 H0, Below.then A0 A1⟩
  have VL := hideP (fun o : List Nat => vs_len x hv o)
  have YF := hideP (fun k (h : k < x.body.length) => (show (x.body[k]).args.length ≤ 300 from hv.each (x.body[k]).l (List.mem_map_of_mem (List.getElem_mem h))))
  have few := hx.body.few
  have RB := hideP (fun W (h : Below w.heap.size w W) => hx.body.below h (Nat.le_refl _))
  have RE := hideP (fun k (h : k < x.body.length) W (hb : Below w.heap.size w W) => (hx.each _ (List.getElem_mem h)).below hb (Nat.le_refl _))
  have TT := Tryd.underlying25
  have TL := Tryd.underlying39
  have W2s : ((w.alloc (.cells (rv x).toArray 29)).alloc (.cells #[str x.home.v] 9)).heap.size = w.heap.size + 1 + 1 := by simp
  have W1s : (w.alloc (.cells (rv x).toArray 29)).heap.size = w.heap.size + 1 := by simp
  rw [W1s] at S1
  clear V1
  go_enter Tryd.func9, Tryd.ntmps9
  by_cases h0 : 0 ≤ first
  · by_cases h1 : first < (x.body.length : Int)
    · obtain ⟨i, rfl⟩ : ∃ i : Nat, first = (i : Int) := ⟨first.toNat, by omega⟩
      have hi : i < x.body.length := by omega
      have hord := hideP (show Pn.go x.r (x.body.length - 1) [i] = Pn.ord x.r (i : Int) by unfold Pn.ord; rw [if_pos (by rw [Pn.isNo_iff, hrl]; exact ⟨h0, h1⟩), hrl]; rfl)
      have hok3 := Pn.Ok.single (r := x.r) (k := i) (by omega)
      have AA := below_alloc ((w.alloc (.cells (rv x).toArray 29)).alloc (.cells #[str x.home.v] 9)) (.cells #[.int .i64 (i : Int)] 3)
      have RA := row_blk14 iK14 (heap_alloc_new ((w.alloc (.cells (rv x).toArray 29)).alloc (.cells #[str x.home.v] 9)) (.cells #[.int .i64 (i : Int)] 3)) [i] rfl (by simp)
      have SA := S1.next AA
      rw [W2s] at RA
      obtain ⟨b, oo, hba⟩ := (RB.out w (Below.refl _ _)).addr (by omega)
      have RG := hideP (fun W (h : Below w.heap.size w W) => (show W.rangeAt b (oo + i * 10) (lv (x.body[i])) by have := RB.out W h; rw [hba] at this; exact this.range i hi))
      have CB := hideP (fun (W : World) (h : W.heap[w.heap.size]? = some (.cells (rv x).toArray 29)) => (show W.cell? ⟨w.heap.size, 10, none⟩ = some (.slice (some ⟨b, oo, none⟩) x.body.length x.bcap) by rw [heap_cell h, ← hba]; rfl))
      have YE := hideP (RE.out i hi)
      have yf := YF.out i hi
      have VT := vs_take x [] i hi
      rw [List.nil_append] at VT
      have cS := CB.out _ S1.box
      clear hba
      generalize x.body[i] = y at *
      have hVT := hideP VT
      clear VT
      go_wp2_with (first
        | (at_builtin; refine wpList_append_rec iK14 _ rfl _ _ 34 3 rfl _ 8 Tryd.underlying34 Tryd.iIn14 rfl (by decide) w.heap.size (.slice none 0 0) [] [i] (some ⟨w.heap.size + 1 + 1, 0, none⟩) 1 1 rfl SA.out rfl rfl RA SA.bel.size (by simp) ?_; intro v3 w3 o3 g3; obtain ⟨a3, c3, rfl, _, _⟩ := own_row (D := iK14) o3 (by simp); have B3 := own_below SA.out g3 SA.bel.size; have X3 := Safe.grown SA.out g3 (show (29 : TypeId) ≠ 3 by decide) _ _ SA.box; have V3 := ownsRow_keep SA.vars (Safe.grown SA.out g3 (show (9 : TypeId) ≠ 3 by decide)); have BB3 := SA.bel.trans B3; have c3x := CB.out _ X3; have rg3 := RG.out w3 BB3)
        | (refine wpList_load_mid rfl 39 _ rfl b (oo + i * 10) rfl (lv y) _ rg3 TL rfl Tryd.iL14 ?_))
      refine (rvars14_at y w.heap.size (some ⟨w.heap.size + 1, 0, none⟩) 1 [x.home.v] w3 V3 BB3.size (fun W h => YE.out W (BB3.trans h)) (by simp only [List.length_cons, List.length_nil]; omega)).mono ?_
      rintro e w4 ⟨⟨a4, c4, rfl, O4⟩, B4, K4⟩
      have S4 : RSt x w w4 (.slice a3 1 c3) (.slice a4 (Pn.vs x.r [i]).length c4) [i] := ⟨ownsRow_keep o3 (K4 _ (by decide)), by rw [← hVT.out]; exact O4, K4 _ (by decide) _ _ X3, BB3.trans B4⟩
      rw [show [x.home.v] ++ Pn.lvs y.l = Pn.vs x.r [i] from hVT.out]
      have c4x := CB.out _ S4.box
      clear O4 K4 V3 X3 o3 c3x rg3 CB RG YE cS
      go_wp2_with fail
      go_loopg [5, 6] (x.body.length - 1) (fun k v5 v6 wr => ∃ (o : List Nat) (ao : Option Addr) (co : Nat) (av : Option Addr) (cv : Nat), v5 = .slice ao o.length co ∧ v6 = .slice av (Pn.vs x.r o).length cv ∧ RSt x w wr (.slice ao o.length co) (.slice av (Pn.vs x.r o).length cv) o ∧ Pn.Ok x.r o ∧ Hid (Pn.go x.r k o = Pn.ord x.r (i : Int)) ∧ o.length + k = x.body.length)
      case atStart => exact ⟨[i], a3, c3, a4, c4, rfl, rfl, S4, hok3, hord, by simp only [List.length_cons, List.length_nil]; omega⟩
      case round =>
        obtain ⟨o, ao, co, av, cv, rfl, rfl, S, hok, hgo, hlen⟩ := hrel
        have vl := VL.out o
        by_cases hlt : o.length < x.body.length
        · have q1 : (o.length : Int) < (x.body.length : Int) := by omega
          obtain ⟨b, oo, hba⟩ := (RB.out w (Below.refl _ _)).addr (by omega)
          have RG := hideP (fun k (hk : k < x.body.length) W (h : Below w.heap.size w W) => (show W.rangeAt b (oo + k * 10) (lv (x.body[k])) by have := RB.out W h; rw [hba] at this; exact this.range k hk))
          have CB := hideP (fun (W : World) (h : W.heap[w.heap.size]? = some (.cells (rv x).toArray 29)) => (show W.cell? ⟨w.heap.size, 10, none⟩ = some (.slice (some ⟨b, oo, none⟩) x.body.length x.bcap) by rw [heap_cell h, ← hba]; rfl))
          clear hba
          generalize wr = wo at *
          have co10 := CB.out _ S.box
          obtain ⟨k9, rfl⟩ : ∃ k, gk = k + 1 := ⟨gk - 1, by omega⟩
          go_wp2_with fail
          go_loopw [7, 8, 9] (fun v7 v8 v9 wr => ∃ k : Nat, v9 = .int .i64 (k : Int) ∧ k ≤ x.body.length ∧ v7 = .int .i64 (pkv (Pn.pick (Pn.ck x.r o) o k)) ∧ v8 = .int .i64 (pkm (Pn.ck x.r o) (Pn.pick (Pn.ck x.r o) o k)) ∧ Below wo.heap.size wo wr) (fun _ _ v9 _ => x.body.length - (RowKit.intOf v9).toNat)
          case atStart => exact ⟨0, rfl, Nat.zero_le _, rfl, rfl, Below.refl _ _⟩
          case round =>
            obtain ⟨k, rfl, hk, rfl, rfl, BK⟩ := hrel
            have Sk := S.next BK
            have c10 := CB.out _ Sk.box
            by_cases hkl : k < x.body.length
            · have q2 : (k : Int) < (x.body.length : Int) := by omega
              have RGk := hideP (fun W (h : Below wr.heap.size wr W) => RG.out k hkl W (Sk.bel.trans (h.mono Sk.bel.size)))
              have REk := hideP (fun W (h : Below wr.heap.size wr W) => RE.out k hkl W (Sk.bel.trans (h.mono Sk.bel.size)))
              have yf := YF.out k hkl
              have CK := hideP (show Pn.ck x.r o k = Pn.cnt (Pn.vs x.r o) (x.body[k]).l by unfold Pn.ck; rw [List.getElem?_eq_getElem (by rw [hrl]; exact hkl)]; simp [Rv.r])
              generalize x.body[k] = y at *
              have r0 := (lit_at14 (RGk.out wr (Below.refl _ _))).1
              have RV := ownT_row Sk.vars (by omega)
              go_wp2_with (refine wpList_load_mid rfl 25 _ rfl b (oo + k * 10) rfl (tv y.by_) _ r0 TT rfl Tryd.iT14 ?_)
              refine (rknown14_at y.by_ av cv (Pn.vs x.r o) wr RV).mono ?_
              rintro e w5 ⟨rfl, B5⟩
              generalize wr = wk at *
              go_wp2_with fail
              go_loopw [10, 11] (fun v10 v11 wr => ∃ i : Nat, v11 = .int .i64 (i : Int) ∧ i ≤ y.args.length ∧ v10 = .int .i64 ((Pn.kn (Pn.vs x.r o) y.by_ + Pn.kns (Pn.vs x.r o) (y.args.take i) : Nat) : Int) ∧ Below w5.heap.size w5 wr) (fun _ v11 _ => y.args.length - (RowKit.intOf v11).toNat)
              case atStart => exact ⟨0, rfl, Nat.zero_le _, by simp [Pn.kns], Below.refl _ _⟩
              case round =>
                obtain ⟨i, rfl, hi, rfl, Bw⟩ := hrel
                have Bi := B5.trans (Bw.mono B5.size)
                have c10i := CB.out wr (below_heap Bi Sk.box)
                have c5i := (lit_at14 (RGk.out wr Bi)).2
                have Rargs : Row tK wr y.a y.cap y.args := REk.out wr Bi
                have kle := Pn.kns_le (Pn.vs x.r o) (y.args.take i)
                rw [List.length_take] at kle
                have ble : Pn.kn (Pn.vs x.r o) y.by_ ≤ 1 := by unfold Pn.kn; split <;> (try split) <;> omega
                by_cases hil : i < y.args.length
                · have q3 : (i : Int) < (y.args.length : Int) := by omega
                  obtain ⟨pb, po, hya⟩ := Rargs.addr (by omega)
                  rw [hya] at Rargs c5i
                  clear hya
                  have tr := Rargs.range i hil
                  have TK := List.take_succ_eq_append_getElem hil
                  generalize y.args[i] = t at *
                  have HK := hideP (show Pn.kn (Pn.vs x.r o) y.by_ + Pn.kns (Pn.vs x.r o) (y.args.take (i + 1)) = Pn.kn (Pn.vs x.r o) y.by_ + Pn.kns (Pn.vs x.r o) (y.args.take i) + Pn.kn (Pn.vs x.r o) t by rw [TK, Pn.kns_snoc]; omega)
                  have tle : Pn.kn (Pn.vs x.r o) t ≤ 1 := by unfold Pn.kn; split <;> (try split) <;> omega
                  clear TK
                  have RVi := RV.below Bi (Nat.le_refl _)
                  generalize hm : Pn.kn (Pn.vs x.r o) y.by_ + Pn.kns (Pn.vs x.r o) (y.args.take i) = m at *
                  have ml : m ≤ 301 := by omega
                  clear hm kle ble
                  go_wp2_with (refine wpList_load_mid rfl 25 _ rfl pb (po + i * 4) rfl (tv t) _ tr TT rfl Tryd.iT14 ?_)
                  refine (rknown14_at t av cv (Pn.vs x.r o) wr RVi).mono ?_
                  rintro e w6 ⟨rfl, B6⟩
                  generalize Pn.kn (Pn.vs x.r o) t = z at *
                  go_wp2_with fail
                  go_roundw
                  case rel => exact ⟨i + 1, rfl, hil, by rw [HK.out]; rfl, Bw.trans (B6.mono Bw.size)⟩
                  case measure => simp [RowKit.intOf]; omega
                · have q3 : ¬ (i : Int) < (y.args.length : Int) := by omega
                  obtain rfl : i = y.args.length := by omega
                  rw [List.take_length] at kle ⊢
                  have HC := hideP (show Pn.kn (Pn.vs x.r o) y.by_ + Pn.kns (Pn.vs x.r o) y.args = Pn.ck x.r o k by rw [CK.out]; rfl)
                  have hcl : Pn.ck x.r o k ≤ 301 := by have := HC.out; omega
                  rw [HC.out]
                  have Si := Sk.next Bi
                  have RO := ownI_row Si.out (by omega)
                  go_wp2_with fail
                  refine (rin14_at wr ao co o k RO).mono ?_
                  rintro e w7 ⟨rfl, rfl⟩
                  have BF := BK.trans (Bi.mono BK.size)
                  clear kle ble HC CK Rargs RGk REk
                  by_cases hin : k ∈ o
                  · have E := hideP (Pn.pick_in (c := Pn.ck x.r o) hin)
                    rw [decide_eq_true hin]
                    generalize hz7 : pkv (Pn.pick (Pn.ck x.r o) o k) = z7 at *
                    generalize hz8 : pkm (Pn.ck x.r o) (Pn.pick (Pn.ck x.r o) o k) = z8 at *
                    have h7 := hideP hz7
                    have h8 := hideP hz8
                    clear hz7 hz8
                    go_wp2_with fail
                    go_roundw
                    case rel => exact ⟨k + 1, rfl, hkl, by rw [E.out, h7.out], by rw [E.out, h8.out], BF⟩
                    case measure => simp [RowKit.intOf]; omega
                  · rw [decide_eq_false hin]
                    cases hp : Pn.pick (Pn.ck x.r o) o k with
                    | none =>
                      have E := hideP (Pn.pick_first hin hp)
                      rw [show pkv none = (-1 : Int) from rfl, show pkm (Pn.ck x.r o) none = (-1 : Int) from rfl]
                      generalize hz : Pn.ck x.r o k = z at *
                      have HZ := hideP hz
                      clear hz hp
                      have q4 : (-1 : Int) < (z : Int) := by omega
                      go_wp2_with fail
                      go_roundw
                      case rel => exact ⟨k + 1, rfl, hkl, by rw [E.out]; rfl, by rw [E.out, ← HZ.out]; rfl, BF⟩
                      case measure => simp [RowKit.intOf]; omega
                    | some b9 =>
                      have E := hideP (Pn.pick_more hin hp)
                      rw [show pkv (some b9) = (b9 : Int) from rfl, show pkm (Pn.ck x.r o) (some b9) = (Pn.ck x.r o b9 : Int) from rfl]
                      generalize hz : Pn.ck x.r o k = z at *
                      generalize hy9 : Pn.ck x.r o b9 = y9 at *
                      have HZ := hideP hz
                      have HY := hideP hy9
                      clear hz hy9 hp
                      by_cases h12 : y9 < z
                      · have q4 : (y9 : Int) < (z : Int) := by omega
                        rw [if_pos h12] at E
                        go_wp2_with fail
                        go_roundw
                        case rel => exact ⟨k + 1, rfl, hkl, by rw [E.out]; rfl, by rw [E.out, ← HZ.out]; rfl, BF⟩
                        case measure => simp [RowKit.intOf]; omega
                      · have q4 : ¬ (y9 : Int) < (z : Int) := by omega
                        rw [if_neg h12] at E
                        go_wp2_with fail
                        go_roundw
                        case rel => exact ⟨k + 1, rfl, hkl, by rw [E.out]; rfl, by rw [E.out, ← HY.out]; rfl, BF⟩
                        case measure => simp [RowKit.intOf]; omega
            · have q2 : ¬ (k : Int) < (x.body.length : Int) := by omega
              obtain rfl : k = x.body.length := by omega
              obtain ⟨bb, hp, hb⟩ := Pn.pick_ex (c := Pn.ck x.r o) (o := o) (n := x.body.length) hlt
              have hb2 : Pn.Best (Pn.ck x.r o) o x.r.body.length bb := by rw [hrl]; exact hb
              have hok5 := hok.snoc hb2
              have hst := hideP (Pn.go_step (m := k9) hb2)
              have hbl := hb.lt
              rw [hp, show pkv (some bb) = (bb : Int) from rfl]
              clear hp hb hb2
              generalize pkm (Pn.ck x.r o) (some bb) = z8 at *
              have q5 : (bb : Int) < (x.body.length : Int) := by omega
              have AA := below_alloc wr (.cells #[.int .i64 (bb : Int)] 3)
              have RA := row_blk14 iK14 (heap_alloc_new wr (.cells #[.int .i64 (bb : Int)] 3)) [bb] rfl (by simp)
              have SA := Sk.next AA
              have RGb := hideP (fun W (h : Below w.heap.size w W) => RG.out bb hbl W h)
              have YE := hideP (RE.out bb hbl)
              have yf := YF.out bb hbl
              have HVT := hideP (vs_take x o bb hbl)
              generalize x.body[bb] = y at *
              go_wp2_with (first
                | (at_builtin; refine wpList_append_rec iK14 _ rfl _ _ 34 3 rfl _ 8 Tryd.underlying34 Tryd.iIn14 rfl (by decide) w.heap.size (.slice ao o.length co) o [bb] (some ⟨wr.heap.size, 0, none⟩) 1 1 rfl SA.out rfl rfl RA SA.bel.size (by simp only [List.length_cons, List.length_nil]; omega) ?_; intro v3 w3 o3 g3; obtain ⟨a3, c3, rfl, _, _⟩ := own_row (D := iK14) o3 (by simp only [List.length_append, List.length_cons, List.length_nil]; omega); have B3 := own_below SA.out g3 SA.bel.size; have X3 := Safe.grown SA.out g3 (show (29 : TypeId) ≠ 3 by decide) _ _ SA.box; have V3 := ownsRow_keep SA.vars (Safe.grown SA.out g3 (show (9 : TypeId) ≠ 3 by decide)); have BB3 := SA.bel.trans B3; have c3x := CB.out _ X3; have rg3 := RGb.out w3 BB3)
                | (refine wpList_load_mid rfl 39 _ rfl b (oo + bb * 10) rfl (lv y) _ rg3 TL rfl Tryd.iL14 ?_))
              refine (rvars14_at y w.heap.size av cv (Pn.vs x.r o) w3 V3 BB3.size (fun W h => YE.out W (BB3.trans h)) (by omega)).mono ?_
              rintro e w4 ⟨⟨a4, c4, rfl, O4⟩, B4, K4⟩
              have S4 : RSt x w w4 (.slice a3 (o ++ [bb]).length c3) (.slice a4 (Pn.vs x.r (o ++ [bb])).length c4) (o ++ [bb]) := ⟨ownsRow_keep o3 (K4 _ (by decide)), by rw [← HVT.out]; exact O4, K4 _ (by decide) _ _ X3, BB3.trans B4⟩
              rw [HVT.out]
              clear O4 K4 V3 X3 o3 c3x rg3 CB RG YE
              go_wp2_with fail
              go_roundg k9
              case rel => exact ⟨o ++ [bb], a3, c3, a4, c4, by first | rfl | (rw [List.length_append]; rfl), rfl, S4, hok5, hideP (hst.out.symm.trans hgo.out), by rw [List.length_append, List.length_singleton]; omega⟩
              case measure => omega
        · have q1 : ¬ (o.length : Int) < (x.body.length : Int) := by omega
          have c10 : wr.cell? ⟨w.heap.size, 10, none⟩ = some (.slice x.ba x.body.length x.bcap) := by rw [heap_cell S.box]; rfl
          have RO := ownI_row S.out (by omega)
          obtain rfl : gk = 0 := by omega
          go_wp2_with fail
          go_ret
          have ho : o = Pn.ord x.r (i : Int) := hgo.out
          rw [← ho]
          exact ⟨⟨ao, co, rfl, RO⟩, S.bel⟩
    · have hord := hideP (show Pn.go x.r x.body.length [] = Pn.ord x.r first by unfold Pn.ord; rw [if_neg (by rw [Pn.isNo_iff, hrl]; exact fun h => h1 h.2), hrl])
      have hok3 := Pn.Ok.nil x.r
      have cS1 : ((w.alloc (.cells (rv x).toArray 29)).alloc (.cells #[str x.home.v] 9)).cell? ⟨w.heap.size, 10, none⟩ = some (.slice x.ba x.body.length x.bcap) := by rw [heap_cell S1.box]; rfl
      go_wp2_with fail
      go_loopg [5, 6] x.body.length (fun k v5 v6 wr => ∃ (o : List Nat) (ao : Option Addr) (co : Nat) (av : Option Addr) (cv : Nat), v5 = .slice ao o.length co ∧ v6 = .slice av (Pn.vs x.r o).length cv ∧ RSt x w wr (.slice ao o.length co) (.slice av (Pn.vs x.r o).length cv) o ∧ Pn.Ok x.r o ∧ Hid (Pn.go x.r k o = Pn.ord x.r first) ∧ o.length + k = x.body.length)
      case atStart => exact ⟨[], none, 0, (some ⟨w.heap.size + 1, 0, none⟩), 1, rfl, rfl, S1, hok3, hord, by simp only [List.length_nil]; omega⟩
      case round =>
        obtain ⟨o, ao, co, av, cv, rfl, rfl, S, hok, hgo, hlen⟩ := hrel
        have vl := VL.out o
        by_cases hlt : o.length < x.body.length
        · have q1 : (o.length : Int) < (x.body.length : Int) := by omega
          obtain ⟨b, oo, hba⟩ := (RB.out w (Below.refl _ _)).addr (by omega)
          have RG := hideP (fun k (hk : k < x.body.length) W (h : Below w.heap.size w W) => (show W.rangeAt b (oo + k * 10) (lv (x.body[k])) by have := RB.out W h; rw [hba] at this; exact this.range k hk))
          have CB := hideP (fun (W : World) (h : W.heap[w.heap.size]? = some (.cells (rv x).toArray 29)) => (show W.cell? ⟨w.heap.size, 10, none⟩ = some (.slice (some ⟨b, oo, none⟩) x.body.length x.bcap) by rw [heap_cell h, ← hba]; rfl))
          clear hba
          generalize wr = wo at *
          have co10 := CB.out _ S.box
          obtain ⟨k9, rfl⟩ : ∃ k, gk = k + 1 := ⟨gk - 1, by omega⟩
          go_wp2_with fail
          go_loopw [7, 8, 9] (fun v7 v8 v9 wr => ∃ k : Nat, v9 = .int .i64 (k : Int) ∧ k ≤ x.body.length ∧ v7 = .int .i64 (pkv (Pn.pick (Pn.ck x.r o) o k)) ∧ v8 = .int .i64 (pkm (Pn.ck x.r o) (Pn.pick (Pn.ck x.r o) o k)) ∧ Below wo.heap.size wo wr) (fun _ _ v9 _ => x.body.length - (RowKit.intOf v9).toNat)
          case atStart => exact ⟨0, rfl, Nat.zero_le _, rfl, rfl, Below.refl _ _⟩
          case round =>
            obtain ⟨k, rfl, hk, rfl, rfl, BK⟩ := hrel
            have Sk := S.next BK
            have c10 := CB.out _ Sk.box
            by_cases hkl : k < x.body.length
            · have q2 : (k : Int) < (x.body.length : Int) := by omega
              have RGk := hideP (fun W (h : Below wr.heap.size wr W) => RG.out k hkl W (Sk.bel.trans (h.mono Sk.bel.size)))
              have REk := hideP (fun W (h : Below wr.heap.size wr W) => RE.out k hkl W (Sk.bel.trans (h.mono Sk.bel.size)))
              have yf := YF.out k hkl
              have CK := hideP (show Pn.ck x.r o k = Pn.cnt (Pn.vs x.r o) (x.body[k]).l by unfold Pn.ck; rw [List.getElem?_eq_getElem (by rw [hrl]; exact hkl)]; simp [Rv.r])
              generalize x.body[k] = y at *
              have r0 := (lit_at14 (RGk.out wr (Below.refl _ _))).1
              have RV := ownT_row Sk.vars (by omega)
              go_wp2_with (refine wpList_load_mid rfl 25 _ rfl b (oo + k * 10) rfl (tv y.by_) _ r0 TT rfl Tryd.iT14 ?_)
              refine (rknown14_at y.by_ av cv (Pn.vs x.r o) wr RV).mono ?_
              rintro e w5 ⟨rfl, B5⟩
              generalize wr = wk at *
              go_wp2_with fail
              go_loopw [10, 11] (fun v10 v11 wr => ∃ i : Nat, v11 = .int .i64 (i : Int) ∧ i ≤ y.args.length ∧ v10 = .int .i64 ((Pn.kn (Pn.vs x.r o) y.by_ + Pn.kns (Pn.vs x.r o) (y.args.take i) : Nat) : Int) ∧ Below w5.heap.size w5 wr) (fun _ v11 _ => y.args.length - (RowKit.intOf v11).toNat)
              case atStart => exact ⟨0, rfl, Nat.zero_le _, by simp [Pn.kns], Below.refl _ _⟩
              case round =>
                obtain ⟨i, rfl, hi, rfl, Bw⟩ := hrel
                have Bi := B5.trans (Bw.mono B5.size)
                have c10i := CB.out wr (below_heap Bi Sk.box)
                have c5i := (lit_at14 (RGk.out wr Bi)).2
                have Rargs : Row tK wr y.a y.cap y.args := REk.out wr Bi
                have kle := Pn.kns_le (Pn.vs x.r o) (y.args.take i)
                rw [List.length_take] at kle
                have ble : Pn.kn (Pn.vs x.r o) y.by_ ≤ 1 := by unfold Pn.kn; split <;> (try split) <;> omega
                by_cases hil : i < y.args.length
                · have q3 : (i : Int) < (y.args.length : Int) := by omega
                  obtain ⟨pb, po, hya⟩ := Rargs.addr (by omega)
                  rw [hya] at Rargs c5i
                  clear hya
                  have tr := Rargs.range i hil
                  have TK := List.take_succ_eq_append_getElem hil
                  generalize y.args[i] = t at *
                  have HK := hideP (show Pn.kn (Pn.vs x.r o) y.by_ + Pn.kns (Pn.vs x.r o) (y.args.take (i + 1)) = Pn.kn (Pn.vs x.r o) y.by_ + Pn.kns (Pn.vs x.r o) (y.args.take i) + Pn.kn (Pn.vs x.r o) t by rw [TK, Pn.kns_snoc]; omega)
                  have tle : Pn.kn (Pn.vs x.r o) t ≤ 1 := by unfold Pn.kn; split <;> (try split) <;> omega
                  clear TK
                  have RVi := RV.below Bi (Nat.le_refl _)
                  generalize hm : Pn.kn (Pn.vs x.r o) y.by_ + Pn.kns (Pn.vs x.r o) (y.args.take i) = m at *
                  have ml : m ≤ 301 := by omega
                  clear hm kle ble
                  go_wp2_with (refine wpList_load_mid rfl 25 _ rfl pb (po + i * 4) rfl (tv t) _ tr TT rfl Tryd.iT14 ?_)
                  refine (rknown14_at t av cv (Pn.vs x.r o) wr RVi).mono ?_
                  rintro e w6 ⟨rfl, B6⟩
                  generalize Pn.kn (Pn.vs x.r o) t = z at *
                  go_wp2_with fail
                  go_roundw
                  case rel => exact ⟨i + 1, rfl, hil, by rw [HK.out]; rfl, Bw.trans (B6.mono Bw.size)⟩
                  case measure => simp [RowKit.intOf]; omega
                · have q3 : ¬ (i : Int) < (y.args.length : Int) := by omega
                  obtain rfl : i = y.args.length := by omega
                  rw [List.take_length] at kle ⊢
                  have HC := hideP (show Pn.kn (Pn.vs x.r o) y.by_ + Pn.kns (Pn.vs x.r o) y.args = Pn.ck x.r o k by rw [CK.out]; rfl)
                  have hcl : Pn.ck x.r o k ≤ 301 := by have := HC.out; omega
                  rw [HC.out]
                  have Si := Sk.next Bi
                  have RO := ownI_row Si.out (by omega)
                  go_wp2_with fail
                  refine (rin14_at wr ao co o k RO).mono ?_
                  rintro e w7 ⟨rfl, rfl⟩
                  have BF := BK.trans (Bi.mono BK.size)
                  clear kle ble HC CK Rargs RGk REk
                  by_cases hin : k ∈ o
                  · have E := hideP (Pn.pick_in (c := Pn.ck x.r o) hin)
                    rw [decide_eq_true hin]
                    generalize hz7 : pkv (Pn.pick (Pn.ck x.r o) o k) = z7 at *
                    generalize hz8 : pkm (Pn.ck x.r o) (Pn.pick (Pn.ck x.r o) o k) = z8 at *
                    have h7 := hideP hz7
                    have h8 := hideP hz8
                    clear hz7 hz8
                    go_wp2_with fail
                    go_roundw
                    case rel => exact ⟨k + 1, rfl, hkl, by rw [E.out, h7.out], by rw [E.out, h8.out], BF⟩
                    case measure => simp [RowKit.intOf]; omega
                  · rw [decide_eq_false hin]
                    cases hp : Pn.pick (Pn.ck x.r o) o k with
                    | none =>
                      have E := hideP (Pn.pick_first hin hp)
                      rw [show pkv none = (-1 : Int) from rfl, show pkm (Pn.ck x.r o) none = (-1 : Int) from rfl]
                      generalize hz : Pn.ck x.r o k = z at *
                      have HZ := hideP hz
                      clear hz hp
                      have q4 : (-1 : Int) < (z : Int) := by omega
                      go_wp2_with fail
                      go_roundw
                      case rel => exact ⟨k + 1, rfl, hkl, by rw [E.out]; rfl, by rw [E.out, ← HZ.out]; rfl, BF⟩
                      case measure => simp [RowKit.intOf]; omega
                    | some b9 =>
                      have E := hideP (Pn.pick_more hin hp)
                      rw [show pkv (some b9) = (b9 : Int) from rfl, show pkm (Pn.ck x.r o) (some b9) = (Pn.ck x.r o b9 : Int) from rfl]
                      generalize hz : Pn.ck x.r o k = z at *
                      generalize hy9 : Pn.ck x.r o b9 = y9 at *
                      have HZ := hideP hz
                      have HY := hideP hy9
                      clear hz hy9 hp
                      by_cases h12 : y9 < z
                      · have q4 : (y9 : Int) < (z : Int) := by omega
                        rw [if_pos h12] at E
                        go_wp2_with fail
                        go_roundw
                        case rel => exact ⟨k + 1, rfl, hkl, by rw [E.out]; rfl, by rw [E.out, ← HZ.out]; rfl, BF⟩
                        case measure => simp [RowKit.intOf]; omega
                      · have q4 : ¬ (y9 : Int) < (z : Int) := by omega
                        rw [if_neg h12] at E
                        go_wp2_with fail
                        go_roundw
                        case rel => exact ⟨k + 1, rfl, hkl, by rw [E.out]; rfl, by rw [E.out, ← HY.out]; rfl, BF⟩
                        case measure => simp [RowKit.intOf]; omega
            · have q2 : ¬ (k : Int) < (x.body.length : Int) := by omega
              obtain rfl : k = x.body.length := by omega
              obtain ⟨bb, hp, hb⟩ := Pn.pick_ex (c := Pn.ck x.r o) (o := o) (n := x.body.length) hlt
              have hb2 : Pn.Best (Pn.ck x.r o) o x.r.body.length bb := by rw [hrl]; exact hb
              have hok5 := hok.snoc hb2
              have hst := hideP (Pn.go_step (m := k9) hb2)
              have hbl := hb.lt
              rw [hp, show pkv (some bb) = (bb : Int) from rfl]
              clear hp hb hb2
              generalize pkm (Pn.ck x.r o) (some bb) = z8 at *
              have q5 : (bb : Int) < (x.body.length : Int) := by omega
              have AA := below_alloc wr (.cells #[.int .i64 (bb : Int)] 3)
              have RA := row_blk14 iK14 (heap_alloc_new wr (.cells #[.int .i64 (bb : Int)] 3)) [bb] rfl (by simp)
              have SA := Sk.next AA
              have RGb := hideP (fun W (h : Below w.heap.size w W) => RG.out bb hbl W h)
              have YE := hideP (RE.out bb hbl)
              have yf := YF.out bb hbl
              have HVT := hideP (vs_take x o bb hbl)
              generalize x.body[bb] = y at *
              go_wp2_with (first
                | (at_builtin; refine wpList_append_rec iK14 _ rfl _ _ 34 3 rfl _ 8 Tryd.underlying34 Tryd.iIn14 rfl (by decide) w.heap.size (.slice ao o.length co) o [bb] (some ⟨wr.heap.size, 0, none⟩) 1 1 rfl SA.out rfl rfl RA SA.bel.size (by simp only [List.length_cons, List.length_nil]; omega) ?_; intro v3 w3 o3 g3; obtain ⟨a3, c3, rfl, _, _⟩ := own_row (D := iK14) o3 (by simp only [List.length_append, List.length_cons, List.length_nil]; omega); have B3 := own_below SA.out g3 SA.bel.size; have X3 := Safe.grown SA.out g3 (show (29 : TypeId) ≠ 3 by decide) _ _ SA.box; have V3 := ownsRow_keep SA.vars (Safe.grown SA.out g3 (show (9 : TypeId) ≠ 3 by decide)); have BB3 := SA.bel.trans B3; have c3x := CB.out _ X3; have rg3 := RGb.out w3 BB3)
                | (refine wpList_load_mid rfl 39 _ rfl b (oo + bb * 10) rfl (lv y) _ rg3 TL rfl Tryd.iL14 ?_))
              refine (rvars14_at y w.heap.size av cv (Pn.vs x.r o) w3 V3 BB3.size (fun W h => YE.out W (BB3.trans h)) (by omega)).mono ?_
              rintro e w4 ⟨⟨a4, c4, rfl, O4⟩, B4, K4⟩
              have S4 : RSt x w w4 (.slice a3 (o ++ [bb]).length c3) (.slice a4 (Pn.vs x.r (o ++ [bb])).length c4) (o ++ [bb]) := ⟨ownsRow_keep o3 (K4 _ (by decide)), by rw [← HVT.out]; exact O4, K4 _ (by decide) _ _ X3, BB3.trans B4⟩
              rw [HVT.out]
              clear O4 K4 V3 X3 o3 c3x rg3 CB RG YE
              go_wp2_with fail
              go_roundg k9
              case rel => exact ⟨o ++ [bb], a3, c3, a4, c4, by first | rfl | (rw [List.length_append]; rfl), rfl, S4, hok5, hideP (hst.out.symm.trans hgo.out), by rw [List.length_append, List.length_singleton]; omega⟩
              case measure => omega
        · have q1 : ¬ (o.length : Int) < (x.body.length : Int) := by omega
          have c10 : wr.cell? ⟨w.heap.size, 10, none⟩ = some (.slice x.ba x.body.length x.bcap) := by rw [heap_cell S.box]; rfl
          have RO := ownI_row S.out (by omega)
          obtain rfl : gk = 0 := by omega
          go_wp2_with fail
          go_ret
          have ho : o = Pn.ord x.r first := hgo.out
          rw [← ho]
          exact ⟨⟨ao, co, rfl, RO⟩, S.bel⟩
  · have hord := hideP (show Pn.go x.r x.body.length [] = Pn.ord x.r first by unfold Pn.ord; rw [if_neg (by rw [Pn.isNo_iff, hrl]; exact fun h => h0 h.1), hrl])
    have hok3 := Pn.Ok.nil x.r
    go_wp2_with fail
    go_loopg [5, 6] x.body.length (fun k v5 v6 wr => ∃ (o : List Nat) (ao : Option Addr) (co : Nat) (av : Option Addr) (cv : Nat), v5 = .slice ao o.length co ∧ v6 = .slice av (Pn.vs x.r o).length cv ∧ RSt x w wr (.slice ao o.length co) (.slice av (Pn.vs x.r o).length cv) o ∧ Pn.Ok x.r o ∧ Hid (Pn.go x.r k o = Pn.ord x.r first) ∧ o.length + k = x.body.length)
    case atStart => exact ⟨[], none, 0, (some ⟨w.heap.size + 1, 0, none⟩), 1, rfl, rfl, S1, hok3, hord, by simp only [List.length_nil]; omega⟩
    case round =>
      obtain ⟨o, ao, co, av, cv, rfl, rfl, S, hok, hgo, hlen⟩ := hrel
      have vl := VL.out o
      by_cases hlt : o.length < x.body.length
      · have q1 : (o.length : Int) < (x.body.length : Int) := by omega
        obtain ⟨b, oo, hba⟩ := (RB.out w (Below.refl _ _)).addr (by omega)
        have RG := hideP (fun k (hk : k < x.body.length) W (h : Below w.heap.size w W) => (show W.rangeAt b (oo + k * 10) (lv (x.body[k])) by have := RB.out W h; rw [hba] at this; exact this.range k hk))
        have CB := hideP (fun (W : World) (h : W.heap[w.heap.size]? = some (.cells (rv x).toArray 29)) => (show W.cell? ⟨w.heap.size, 10, none⟩ = some (.slice (some ⟨b, oo, none⟩) x.body.length x.bcap) by rw [heap_cell h, ← hba]; rfl))
        clear hba
        generalize wr = wo at *
        have co10 := CB.out _ S.box
        obtain ⟨k9, rfl⟩ : ∃ k, gk = k + 1 := ⟨gk - 1, by omega⟩
        go_wp2_with fail
        go_loopw [7, 8, 9] (fun v7 v8 v9 wr => ∃ k : Nat, v9 = .int .i64 (k : Int) ∧ k ≤ x.body.length ∧ v7 = .int .i64 (pkv (Pn.pick (Pn.ck x.r o) o k)) ∧ v8 = .int .i64 (pkm (Pn.ck x.r o) (Pn.pick (Pn.ck x.r o) o k)) ∧ Below wo.heap.size wo wr) (fun _ _ v9 _ => x.body.length - (RowKit.intOf v9).toNat)
        case atStart => exact ⟨0, rfl, Nat.zero_le _, rfl, rfl, Below.refl _ _⟩
        case round =>
          obtain ⟨k, rfl, hk, rfl, rfl, BK⟩ := hrel
          have Sk := S.next BK
          have c10 := CB.out _ Sk.box
          by_cases hkl : k < x.body.length
          · have q2 : (k : Int) < (x.body.length : Int) := by omega
            have RGk := hideP (fun W (h : Below wr.heap.size wr W) => RG.out k hkl W (Sk.bel.trans (h.mono Sk.bel.size)))
            have REk := hideP (fun W (h : Below wr.heap.size wr W) => RE.out k hkl W (Sk.bel.trans (h.mono Sk.bel.size)))
            have yf := YF.out k hkl
            have CK := hideP (show Pn.ck x.r o k = Pn.cnt (Pn.vs x.r o) (x.body[k]).l by unfold Pn.ck; rw [List.getElem?_eq_getElem (by rw [hrl]; exact hkl)]; simp [Rv.r])
            generalize x.body[k] = y at *
            have r0 := (lit_at14 (RGk.out wr (Below.refl _ _))).1
            have RV := ownT_row Sk.vars (by omega)
            go_wp2_with (refine wpList_load_mid rfl 25 _ rfl b (oo + k * 10) rfl (tv y.by_) _ r0 TT rfl Tryd.iT14 ?_)
            refine (rknown14_at y.by_ av cv (Pn.vs x.r o) wr RV).mono ?_
            rintro e w5 ⟨rfl, B5⟩
            generalize wr = wk at *
            go_wp2_with fail
            go_loopw [10, 11] (fun v10 v11 wr => ∃ i : Nat, v11 = .int .i64 (i : Int) ∧ i ≤ y.args.length ∧ v10 = .int .i64 ((Pn.kn (Pn.vs x.r o) y.by_ + Pn.kns (Pn.vs x.r o) (y.args.take i) : Nat) : Int) ∧ Below w5.heap.size w5 wr) (fun _ v11 _ => y.args.length - (RowKit.intOf v11).toNat)
            case atStart => exact ⟨0, rfl, Nat.zero_le _, by simp [Pn.kns], Below.refl _ _⟩
            case round =>
              obtain ⟨i, rfl, hi, rfl, Bw⟩ := hrel
              have Bi := B5.trans (Bw.mono B5.size)
              have c10i := CB.out wr (below_heap Bi Sk.box)
              have c5i := (lit_at14 (RGk.out wr Bi)).2
              have Rargs : Row tK wr y.a y.cap y.args := REk.out wr Bi
              have kle := Pn.kns_le (Pn.vs x.r o) (y.args.take i)
              rw [List.length_take] at kle
              have ble : Pn.kn (Pn.vs x.r o) y.by_ ≤ 1 := by unfold Pn.kn; split <;> (try split) <;> omega
              by_cases hil : i < y.args.length
              · have q3 : (i : Int) < (y.args.length : Int) := by omega
                obtain ⟨pb, po, hya⟩ := Rargs.addr (by omega)
                rw [hya] at Rargs c5i
                clear hya
                have tr := Rargs.range i hil
                have TK := List.take_succ_eq_append_getElem hil
                generalize y.args[i] = t at *
                have HK := hideP (show Pn.kn (Pn.vs x.r o) y.by_ + Pn.kns (Pn.vs x.r o) (y.args.take (i + 1)) = Pn.kn (Pn.vs x.r o) y.by_ + Pn.kns (Pn.vs x.r o) (y.args.take i) + Pn.kn (Pn.vs x.r o) t by rw [TK, Pn.kns_snoc]; omega)
                have tle : Pn.kn (Pn.vs x.r o) t ≤ 1 := by unfold Pn.kn; split <;> (try split) <;> omega
                clear TK
                have RVi := RV.below Bi (Nat.le_refl _)
                generalize hm : Pn.kn (Pn.vs x.r o) y.by_ + Pn.kns (Pn.vs x.r o) (y.args.take i) = m at *
                have ml : m ≤ 301 := by omega
                clear hm kle ble
                go_wp2_with (refine wpList_load_mid rfl 25 _ rfl pb (po + i * 4) rfl (tv t) _ tr TT rfl Tryd.iT14 ?_)
                refine (rknown14_at t av cv (Pn.vs x.r o) wr RVi).mono ?_
                rintro e w6 ⟨rfl, B6⟩
                generalize Pn.kn (Pn.vs x.r o) t = z at *
                go_wp2_with fail
                go_roundw
                case rel => exact ⟨i + 1, rfl, hil, by rw [HK.out]; rfl, Bw.trans (B6.mono Bw.size)⟩
                case measure => simp [RowKit.intOf]; omega
              · have q3 : ¬ (i : Int) < (y.args.length : Int) := by omega
                obtain rfl : i = y.args.length := by omega
                rw [List.take_length] at kle ⊢
                have HC := hideP (show Pn.kn (Pn.vs x.r o) y.by_ + Pn.kns (Pn.vs x.r o) y.args = Pn.ck x.r o k by rw [CK.out]; rfl)
                have hcl : Pn.ck x.r o k ≤ 301 := by have := HC.out; omega
                rw [HC.out]
                have Si := Sk.next Bi
                have RO := ownI_row Si.out (by omega)
                go_wp2_with fail
                refine (rin14_at wr ao co o k RO).mono ?_
                rintro e w7 ⟨rfl, rfl⟩
                have BF := BK.trans (Bi.mono BK.size)
                clear kle ble HC CK Rargs RGk REk
                by_cases hin : k ∈ o
                · have E := hideP (Pn.pick_in (c := Pn.ck x.r o) hin)
                  rw [decide_eq_true hin]
                  generalize hz7 : pkv (Pn.pick (Pn.ck x.r o) o k) = z7 at *
                  generalize hz8 : pkm (Pn.ck x.r o) (Pn.pick (Pn.ck x.r o) o k) = z8 at *
                  have h7 := hideP hz7
                  have h8 := hideP hz8
                  clear hz7 hz8
                  go_wp2_with fail
                  go_roundw
                  case rel => exact ⟨k + 1, rfl, hkl, by rw [E.out, h7.out], by rw [E.out, h8.out], BF⟩
                  case measure => simp [RowKit.intOf]; omega
                · rw [decide_eq_false hin]
                  cases hp : Pn.pick (Pn.ck x.r o) o k with
                  | none =>
                    have E := hideP (Pn.pick_first hin hp)
                    rw [show pkv none = (-1 : Int) from rfl, show pkm (Pn.ck x.r o) none = (-1 : Int) from rfl]
                    generalize hz : Pn.ck x.r o k = z at *
                    have HZ := hideP hz
                    clear hz hp
                    have q4 : (-1 : Int) < (z : Int) := by omega
                    go_wp2_with fail
                    go_roundw
                    case rel => exact ⟨k + 1, rfl, hkl, by rw [E.out]; rfl, by rw [E.out, ← HZ.out]; rfl, BF⟩
                    case measure => simp [RowKit.intOf]; omega
                  | some b9 =>
                    have E := hideP (Pn.pick_more hin hp)
                    rw [show pkv (some b9) = (b9 : Int) from rfl, show pkm (Pn.ck x.r o) (some b9) = (Pn.ck x.r o b9 : Int) from rfl]
                    generalize hz : Pn.ck x.r o k = z at *
                    generalize hy9 : Pn.ck x.r o b9 = y9 at *
                    have HZ := hideP hz
                    have HY := hideP hy9
                    clear hz hy9 hp
                    by_cases h12 : y9 < z
                    · have q4 : (y9 : Int) < (z : Int) := by omega
                      rw [if_pos h12] at E
                      go_wp2_with fail
                      go_roundw
                      case rel => exact ⟨k + 1, rfl, hkl, by rw [E.out]; rfl, by rw [E.out, ← HZ.out]; rfl, BF⟩
                      case measure => simp [RowKit.intOf]; omega
                    · have q4 : ¬ (y9 : Int) < (z : Int) := by omega
                      rw [if_neg h12] at E
                      go_wp2_with fail
                      go_roundw
                      case rel => exact ⟨k + 1, rfl, hkl, by rw [E.out]; rfl, by rw [E.out, ← HY.out]; rfl, BF⟩
                      case measure => simp [RowKit.intOf]; omega
          · have q2 : ¬ (k : Int) < (x.body.length : Int) := by omega
            obtain rfl : k = x.body.length := by omega
            obtain ⟨bb, hp, hb⟩ := Pn.pick_ex (c := Pn.ck x.r o) (o := o) (n := x.body.length) hlt
            have hb2 : Pn.Best (Pn.ck x.r o) o x.r.body.length bb := by rw [hrl]; exact hb
            have hok5 := hok.snoc hb2
            have hst := hideP (Pn.go_step (m := k9) hb2)
            have hbl := hb.lt
            rw [hp, show pkv (some bb) = (bb : Int) from rfl]
            clear hp hb hb2
            generalize pkm (Pn.ck x.r o) (some bb) = z8 at *
            have q5 : (bb : Int) < (x.body.length : Int) := by omega
            have AA := below_alloc wr (.cells #[.int .i64 (bb : Int)] 3)
            have RA := row_blk14 iK14 (heap_alloc_new wr (.cells #[.int .i64 (bb : Int)] 3)) [bb] rfl (by simp)
            have SA := Sk.next AA
            have RGb := hideP (fun W (h : Below w.heap.size w W) => RG.out bb hbl W h)
            have YE := hideP (RE.out bb hbl)
            have yf := YF.out bb hbl
            have HVT := hideP (vs_take x o bb hbl)
            generalize x.body[bb] = y at *
            go_wp2_with (first
              | (at_builtin; refine wpList_append_rec iK14 _ rfl _ _ 34 3 rfl _ 8 Tryd.underlying34 Tryd.iIn14 rfl (by decide) w.heap.size (.slice ao o.length co) o [bb] (some ⟨wr.heap.size, 0, none⟩) 1 1 rfl SA.out rfl rfl RA SA.bel.size (by simp only [List.length_cons, List.length_nil]; omega) ?_; intro v3 w3 o3 g3; obtain ⟨a3, c3, rfl, _, _⟩ := own_row (D := iK14) o3 (by simp only [List.length_append, List.length_cons, List.length_nil]; omega); have B3 := own_below SA.out g3 SA.bel.size; have X3 := Safe.grown SA.out g3 (show (29 : TypeId) ≠ 3 by decide) _ _ SA.box; have V3 := ownsRow_keep SA.vars (Safe.grown SA.out g3 (show (9 : TypeId) ≠ 3 by decide)); have BB3 := SA.bel.trans B3; have c3x := CB.out _ X3; have rg3 := RGb.out w3 BB3)
              | (refine wpList_load_mid rfl 39 _ rfl b (oo + bb * 10) rfl (lv y) _ rg3 TL rfl Tryd.iL14 ?_))
            refine (rvars14_at y w.heap.size av cv (Pn.vs x.r o) w3 V3 BB3.size (fun W h => YE.out W (BB3.trans h)) (by omega)).mono ?_
            rintro e w4 ⟨⟨a4, c4, rfl, O4⟩, B4, K4⟩
            have S4 : RSt x w w4 (.slice a3 (o ++ [bb]).length c3) (.slice a4 (Pn.vs x.r (o ++ [bb])).length c4) (o ++ [bb]) := ⟨ownsRow_keep o3 (K4 _ (by decide)), by rw [← HVT.out]; exact O4, K4 _ (by decide) _ _ X3, BB3.trans B4⟩
            rw [HVT.out]
            clear O4 K4 V3 X3 o3 c3x rg3 CB RG YE
            go_wp2_with fail
            go_roundg k9
            case rel => exact ⟨o ++ [bb], a3, c3, a4, c4, by first | rfl | (rw [List.length_append]; rfl), rfl, S4, hok5, hideP (hst.out.symm.trans hgo.out), by rw [List.length_append, List.length_singleton]; omega⟩
            case measure => omega
      · have q1 : ¬ (o.length : Int) < (x.body.length : Int) := by omega
        have c10 : wr.cell? ⟨w.heap.size, 10, none⟩ = some (.slice x.ba x.body.length x.bcap) := by rw [heap_cell S.box]; rfl
        have RO := ownI_row S.out (by omega)
        obtain rfl : gk = 0 := by omega
        go_wp2_with fail
        go_ret
        have ho : o = Pn.ord x.r first := hgo.out
        rw [← ho]
        exact ⟨⟨ao, co, rfl, RO⟩, S.bel⟩
end Go.Proofs.YtcncmpgababfjaaDoor
