/-
  through, walked.
-/
import Derived.Test.YtdehimbfcilhpaaGreatDoorQTh1
import Derived.Deep.Cut
namespace Go.Proofs.YtdehimbfcilhpaaGreatDoor
open Go.RowKit Go.Lib Go.Shelf

theorem iW15 : (Tryz.prog.info? 136).map (·.size) = some 15 := by kernel_rfl
theorem last_split {α : Type} (L : List α) (h : L ≠ []) : ∃ L' p, L = L' ++ [p] := ⟨L.dropLast, L.getLast h, (List.dropLast_concat_getLast h).symm⟩
theorem get_last {α : Type} (L : List α) (p : α) : (L ++ [p])[L.length]? = some p := by rw [List.getElem?_append_right (Nat.le_refl _), Nat.sub_self]; rfl

set_option maxRecDepth 100000 in
set_option maxHeartbeats 4000000 in
theorem through_at (x : Wv) (w0 : World) (B n : Nat) (X : Nat → Prop) (e0 : List Bd) (a : Option Addr) (c : Nat) (l : Nat) (J Jx : List Mt.Env → World → Prop) (W : World) (hi : WkIn x w0 B e0) (hX : ∀ k, X k → w0.heap.size ≤ k ∧ k < B)
    (hJ : ∀ s A A', J s A → Itr 166 B A A' → J s A') (hJx : ∀ s A A', Jx s A → Itr 166 B A A' → Jx s A')
    (hY : ∀ pre p v W1, J pre W1 → EltE B p v W1 → pre.length < (x.cx.Y 0 e0).length → p ∈ x.cx.Y 0 e0 → YieldAt Fence.wide 0 Tryz.prog l #[v] W1 fun e W' => (e = .returned (.bool true) ∧ J (pre ++ [p]) W' ∧ Rnd w0.heap.size X W1 W') ∨ (e = .returned (.bool false) ∧ Jx (pre ++ [p]) W'))
    (hb : Below w0.heap.size w0 W) (hB : B ≤ W.heap.size) (hsp : SpansAt W x.bs (Ml.spans x.r.r) n) (hnu : NumsAt W x.na x.nc x.nvs) (hme : MetAt W x.bt []) (he : RowT bK 99 W a c e0) (hef : From B a) (h0 : J [] W) :
    Calls Tryz.prog 82 #[x.val, .slice a e0.length c, .func (.yield l) #[] #[]] W fun e W' => (∃ v, e = .returned v) ∧ ((∃ ys, ((∀ y, y ∈ ys ↔ y ∈ x.cx.Y 0 e0) ∧ ys.length ≤ (x.cx.Y 0 e0).length) ∧ J ys W') ∨ (∃ pre, Jx pre W')) := by
  have hnl : x.cx.nums.length = x.cx.n := by
    have := hi.chs.len
    show (x.nvs.map Nv.ns).length = x.r.r.body.length
    exact this
  have A1 := below_alloc W (.cells x.cells 136)
  obtain ⟨p0, hp0⟩ : ∃ p0 : Pv, p0 = ⟨a, c, e0, 0⟩ := ⟨_, rfl⟩
  have HP0 := hideP hp0
  have A2 := below_alloc (W.alloc (.cells x.cells 136)) (.cells (pvl p0).toArray 166)
  have A := Below.then A1 A2
  have HV : Hid ((.agg #[.slice a e0.length c, .int .i64 0] : Value) = .agg (pvl p0).toArray) := by show _ = _; rw [hp0]; rfl
  have WW : WkW x w0 B W.heap.size n ((W.alloc (.cells x.cells 136)).alloc (.cells (pvl p0).toArray 166)) :=
    ⟨hb.trans (A.mono (Nat.le_trans hi.low hB)), Nat.le_trans hB A.size, below_heap A2 (heap_alloc_new W _), hsp.next A, hnu.safe (Safe.below A) (Safe.below A)⟩
  have OW : ((W.alloc (.cells x.cells 136)).alloc (.cells (pvl p0).toArray 166)).ownsRow B 166 pK.k (.slice (some ⟨W.heap.size + 1, 0, none⟩) [p0].length 1) [p0].length ([p0].flatMap pK.enc) := by
    refine ⟨rfl, .inr ⟨W.heap.size + 1, 1, (pvl p0).toArray, rfl, by omega, ?_, Nat.le_refl _, by unfold maxLen; omega, rfl, rfl⟩⟩
    have := heap_alloc_new (W.alloc (.cells x.cells 136)) (.cells (pvl p0).toArray 166)
    rw [World.size_alloc] at this
    exact this
  have pa : p0.a = a := by rw [hp0]
  have pc : p0.cap = c := by rw [hp0]
  have pe : p0.env = e0 := by rw [hp0]
  have pt : p0.pt = (e0, 0) := by rw [hp0]
  have pz : p0.t ≤ (x.cx.ns 0).length := by
    rw [hp0]; exact Nat.zero_le _
  have PP : WkP x B e0 [] [p0] [] ((W.alloc (.cells x.cells 136)).alloc (.cells (pvl p0).toArray 166)) := by
    refine ⟨fun j p hp => ?_, hme.next A, ?_, ?_, by simp⟩
    · cases j with
      | zero => cases hp; rw [pa, pc, pe]; exact ⟨he.safe (Safe.below A), hef, hi.e0k, pz⟩
      | succ j => cases hp
    · rw [List.map_cons, List.map_nil, pt]; exact Ml.Wk.start x.cx hnl e0
    · rw [List.map_cons, List.map_nil, pt]; exact Ml.Wc.start x.cx hnl e0
  have J0 := hJ [] W _ h0 (Itr.below A hB)
  have HI := hideP hi
  have HY := hideP hY
  have HJ := hideP hJ
  have HJX := hideP hJx
  have HX := hideP hX
  have HNL := hideP hnl
  have SZ := A1.size
  have lowB := hi.low
  clear hi hY hJ hJx hX hnl hp0 pa pc pe pt pz he hme hnu hsp hb h0 A1 A2
  go_enter Tryz.func82, Tryz.ntmps82
  go_wp2_with (refine wpList_build_one rfl 167 166 _ rfl (pvl p0) _ 2 32 HV.out rfl (by decide) (by decide) Tryz.underlying167 Tryz.iPt ?_)
  generalize hW1 : (W.alloc (.cells x.cells 136)).alloc (.cells (pvl p0).toArray 166) = W1 at *
  clear hW1 A
  generalize hS : W.heap.size = S at *
  have HS : B ≤ S := hB
  go_loopg [6, 7, 8, 9, 10, 11] (x.cx.lefts 0 ([p0].map Pv.pt)) (fun m v6 _ _ _ _ _ wr => ∃ (L : List Pv) (ys : List Mt.Env) (met : List (Nat × Mt.Env)) (g cap : Nat), v6 = .slice (some ⟨g, 0, none⟩) L.length cap ∧ m = x.cx.lefts 0 (L.map Pv.pt) ∧ wr.ownsRow B 166 pK.k (.slice (some ⟨g, 0, none⟩) L.length cap) L.length (L.flatMap pK.enc) ∧ WkW x w0 B S n wr ∧ WkP x B e0 ys L met wr ∧ J ys wr)
  case atStart => exact ⟨[p0], [], [], S + 1, 1, rfl, rfl, OW, WW, PP, J0⟩
  case round =>
    obtain ⟨L, ys, met, g, cap, rfl, rfl, O, WA, PA, HJr⟩ := hrel
    have dep := PA.dep
    have b300 := HI.out.sm.body
    by_cases hL : L = []
    · subst hL
      have FIN := hideP PA.wk.fin
      go_wp2_with fail
      go_end0
      exact ⟨⟨_, rfl⟩, .inl ⟨ys, FIN.out, HJr⟩⟩
    · obtain ⟨L', pp, rfl⟩ := last_split L hL
      clear hL
      have BLK : Blk pK 166 wr g (L' ++ [pp]) := by
        rcases own_blk (D := pK) O with ⟨h, _⟩ | ⟨g', cap', h, _, _, _, hB'⟩
        · cases h
        · cases h; exact hB'
      have rg : wr.rangeAt g (L'.length * 2) (pvl pp) := by
        have h1 := BLK.range L'.length (by simp)
        have e1 : (L' ++ [pp])[L'.length]'(by simp) = pp := by simp
        rw [e1] at h1
        exact h1
      obtain ⟨k, hk⟩ : ∃ k, L'.length = k := ⟨_, rfl⟩
      have ll : (L' ++ [pp]).length = k + 1 := by simp [hk]
      have HK := hideP hk
      have PT := hideP (PA.pts k pp (by rw [← hk]; exact get_last L' pp))
      rw [hk] at rg
      rw [ll]
      have LL := hideP ll
      have DEP : k ≤ x.r.body.length := by rw [ll] at dep; omega
      clear hk ll dep
      have N1 := heap_alloc_new wr (.cells #[.slice none 0 0, .int .i64 0] 166)
      have TPu := Tryz.underlying166
      have c13 : ∀ W : World, W.heap[S]? = some (.cells x.cells 136) → W.cell? ⟨S, 13, none⟩ = some (.slice x.na x.nvs.length x.nc) := fun W h => by rw [heap_cell h]; rfl
      have c11 : ∀ W : World, W.heap[S]? = some (.cells x.cells 136) → W.cell? ⟨S, 11, none⟩ = some (.slice x.fa x.zs.length x.fc) := fun W h => by rw [heap_cell h]; rfl
      have C13 := hideP c13
      have C11 := hideP c11
      clear c13 c11
      have nvl : x.nvs.length = x.r.body.length := by have := HI.out.chs.len; simpa [Rv.r] using this
      have NVL := hideP nvl
      have fewn := WA.nums.row.row.few
      by_cases hend : k = x.r.body.length
      · have q2 : ((k : Int) == (x.nvs.length : Int)) = true := by simp; omega
        have HEND := hideP hend
        have kw : wrap64 (k : Int) = (k : Int) := by simp only [wrap64]; omega
        clear nvl hend DEP
        go_upto_region 11 with (first
          | (refine wpList_load_mid rfl 166 _ rfl g (k * 2) rfl (pvl pp) _ rg TPu rfl iPt2 ?_)
          | (refine wpList_store_all rfl 166 _ _ rfl wr.heap.size 2 _ 166 (pvl pp) rfl rfl N1 rfl rfl iPt2 rfl ?_; intro w2 N2 b2; have B2 := below_tok b2; have W2 := WA.next B2 lowB; have P2 := PA.next B2; have J2 := HJ.out _ _ _ HJr (Itr.below B2 WA.from_); have d13 := C13.out _ W2.box; have d0 : w2.cell? ⟨wr.heap.size, 0, none⟩ = some (.slice pp.a pp.env.length pp.cap) := (by rw [heap_cell N2]; rfl)))
        refine (wpIn_wide (n := 0)).1 ?_
        obtain ⟨fn, tmps, assign, body, hy, hR⟩ := HY.out ys pp.env (.slice pp.a pp.env.length pp.cap) w2 J2 ⟨pp.a, pp.cap, rfl, PT.out.1.safe (Safe.below B2), PT.out.2.1, by have := PT.out.2.2.1.len; have := HEND.out; omega⟩ (by
          have := P2.wk
          rw [List.map_append] at this
          exact (this.told (by rw [List.length_map]; have := HK.out; have := HEND.out; show x.cx.n ≤ _; unfold Ml.Cx.n; simp [Rv.r]; omega)).2) (by
          have := P2.wk
          rw [List.map_append] at this
          exact (this.told (by rw [List.length_map]; have := HK.out; have := HEND.out; show x.cx.n ≤ _; unfold Ml.Cx.n; simp [Rv.r]; omega)).1)
        gi_wp2
        refine ⟨rfl, hR.mono ?_⟩
        have no : Hid (∀ k, B ≤ k → ¬ X k) := fun k hk hx => by have := (HX.out k hx).2; omega
        rintro e W3 (⟨rfl, J3, r3⟩ | ⟨rfl, Jx3⟩)
        · have WA3 := W2.round HI.out r3 HX.out HS
          have PA3 := P2.round HI.out r3 HX.out
          have O3 := ownsRow_rnd (ownsRow_keep O (Safe.below B2)) r3 (by decide) no.out
          clear hR hy r3 HY
          have hcap : k + 1 ≤ cap := by
            rcases own_blk (D := pK) O3 with ⟨h, _⟩ | ⟨g', cap', h, _, h2, _⟩
            · cases h
            · cases h; rw [LL.out] at h2; exact h2
          have qc : (k : Int) ≤ (cap : Int) := by omega
          have O4 := own_prefix O3
          have TL := hideP (by
            have := PA3.wk
            rw [List.map_append] at this
            exact this.tell (by rw [List.length_map]; have := HK.out; have := HEND.out; show x.cx.n ≤ _; unfold Ml.Cx.n; simp [Rv.r]; omega))
          have TC := hideP (by
            have := PA3.wc
            rw [List.map_append] at this
            exact this.drop)
          have PA4 : WkP x B e0 (ys ++ [pp.env]) L' met W3 := ⟨fun j p hp => PA3.pts j p (by rw [List.getElem?_append_left (List.getElem?_eq_some_iff.1 hp).1]; exact hp), PA3.metA, TL.out, TC.out, by have := PA3.dep; rw [List.length_append] at this; omega⟩
          rw [HK.out] at O4
          gi_wp2
          go_wp2_with fail
          go_roundg (x.cx.lefts 0 (L'.map Pv.pt))
          case measure => rw [List.map_append]; exact x.cx.lefts_drop pp.env pp.t _
          case rel => exact ⟨L', ys ++ [pp.env], met, g, cap, by rw [HK.out], rfl, by rw [HK.out]; exact O4, WA3, PA4, J3⟩
        · clear hR hy HY
          gi_wp2
          go_wp2_with fail
          refine bodyPost_ret (results_none rfl _ _ _) rfl ?_
          exact ⟨⟨_, rfl⟩, .inr ⟨_, Jx3⟩⟩
      · have q2 : ((k : Int) == (x.nvs.length : Int)) = false := by rw [beq_eq_false_iff_ne]; omega
        have kw : wrap64 (k : Int) = (k : Int) := by simp only [wrap64]; omega
        have hkb : k < x.r.body.length := by omega
        have hkn : k < x.nvs.length := by omega
        obtain ⟨b, o, hna⟩ := WA.nums.row.row.addr (by omega)
        have qn : (k : Int) < (x.nvs.length : Int) := by omega
        obtain ⟨nv, hnv⟩ : ∃ nv, x.nvs[k]? = some nv := ⟨_, List.getElem?_eq_getElem hkn⟩
        have NVm : nv ∈ x.nvs := List.mem_of_getElem? hnv
        have gn : ∀ W : World, NumsAt W x.na x.nc x.nvs → W.cell? ⟨b, o + k, none⟩ = some (.slice nv.a nv.ns.length nv.cap) := fun W h => by
          have h1 := h.row.row
          rw [hna] at h1
          have h2 := h1.range k hkn 0
          have e1 : x.nvs[k] = nv := (List.getElem?_eq_some_iff.1 hnv).2
          rw [e1] at h2
          have := h2 _ rfl
          simpa [nK] using this
        have GN := hideP gn
        have HNA := hideP hna
        have HNV := hideP hnv
        have NS : Hid (x.cx.ns k = nv.ns) := by
          show (x.nvs.map Nv.ns).getD k [] = nv.ns
          rw [List.getD_eq_getElem?_getD, List.getElem?_map, hnv]; rfl
        clear gn nvl hend DEP hkn hnv
        have hc13 : ∀ W : World, W.heap[S]? = some (.cells x.cells 136) → W.cell? ⟨S, 13, none⟩ = some (.slice (some ⟨b, o, none⟩) x.nvs.length x.nc) := fun W h => by rw [C13.out W h, hna]
        have HC13 := hideP hc13
        clear hc13 hna
        go_upto_region 13 with (first
          | (refine wpList_load_mid rfl 166 _ rfl g (k * 2) rfl (pvl pp) _ rg TPu rfl iPt2 ?_)
          | (refine wpList_store_all rfl 166 _ _ rfl wr.heap.size 2 _ 166 (pvl pp) rfl rfl N1 rfl rfl iPt2 rfl ?_; intro w2 N2 b2; have B2 := below_tok b2; have W2 := WA.next B2 lowB; have P2 := PA.next B2; have J2 := HJ.out _ _ _ HJr (Itr.below B2 WA.from_); have d13 := HC13.out _ W2.box; have d0 : w2.cell? ⟨wr.heap.size, 0, none⟩ = some (.slice pp.a pp.env.length pp.cap) := (by rw [heap_cell N2]; rfl); have d1 : w2.cell? ⟨wr.heap.size, 1, none⟩ = some (.int .i64 (pp.t : Int)) := (by rw [heap_cell N2]; rfl); have dn := GN.out _ W2.nums; have O2 := ownsRow_keep O (Safe.below B2)))
        have D13 := d13; have DN := dn; have D1 := d1
        go_quiet (fail)
        have gD : Below w2.heap.size w2 (w2.drewN nq) := below_drewN (Below.refl _ _) _
        have W3 := W2.next gD lowB
        have P3 := P2.next gD
        have J3 := HJ.out _ _ _ J2 (Itr.below gD W2.from_)
        have O3 := ownsRow_keep O2 (Safe.below gD)
        have N3 := below_heap gD N2
        clear d0 d1 dn d13 D13 DN D1 J2 P2 W2 O2 gD
        generalize w2.drewN nq = w3 at *
        by_cases hpop : pp.t = nv.ns.length
        · have hcap : k + 1 ≤ cap := by
            rcases own_blk (D := pK) O3 with ⟨h, _⟩ | ⟨g', cap', h, _, h2, _⟩
            · cases h
            · cases h; rw [LL.out] at h2; exact h2
          have qc : (k : Int) ≤ (cap : Int) := by omega
          have qt : ((pp.t : Int) == (nv.ns.length : Int)) = true := by simp; omega
          have O4 := own_prefix O3
          have TL := hideP (by
            have := P3.wk
            rw [List.map_append] at this
            exact this.pop (by rw [List.length_map]; have := HK.out; show _ < x.cx.n; unfold Ml.Cx.n; simp [Rv.r]; omega) (by rw [List.length_map, HK.out, NS.out, hpop]; exact Nat.le_refl _))
          have TC := hideP (by
            have := P3.wc
            rw [List.map_append] at this
            exact this.drop)
          have PA4 : WkP x B e0 ys L' met w3 := ⟨fun j p hp => P3.pts j p (by rw [List.getElem?_append_left (List.getElem?_eq_some_iff.1 hp).1]; exact hp), P3.metA, TL.out, TC.out, by have := P3.dep; rw [List.length_append] at this; omega⟩
          rw [HK.out] at O4
          clear hpop TL TC
          go_wp2_with fail
          go_roundg (x.cx.lefts 0 (L'.map Pv.pt))
          case measure => rw [List.map_append]; exact x.cx.lefts_drop pp.env pp.t _
          case rel => exact ⟨L', ys, met, g, cap, by rw [HK.out], rfl, by rw [HK.out]; exact O4, W3, PA4, J3⟩
        · have qt : ((pp.t : Int) == (nv.ns.length : Int)) = false := by rw [beq_eq_false_iff_ne]; omega
          have ht : pp.t < nv.ns.length := by
            have := PT.out.2.2.2
            rw [NS.out] at this
            omega
          obtain ⟨cur, hcur, hg0, hcs, hBg⟩ : ∃ cur : Array Value, w3.heap[g]? = some (.cells cur 166) ∧ (k + 1) * 2 ≤ cur.size ∧ k + 1 ≤ cap ∧ B ≤ g := by
            rcases O3.2 with ⟨h, _⟩ | ⟨g', cap', cur, h, h1, h2, h3, _, h5, _⟩
            · cases h
            · cases h
              rw [LL.out] at h3
              exact ⟨cur, h2, by rw [h5]; exact Nat.mul_le_mul_right _ h3, h3, h1⟩
          have BLK3 : w3.cell? ⟨g, k * 2 + 1, none⟩ = some (.int .i64 (pp.t : Int)) := by
            rcases own_blk (D := pK) O3 with ⟨h, _⟩ | ⟨g', cap', h, _, _, _, hB'⟩
            · cases h
            · cases h
              have h1 := hB'.range L'.length (by simp)
              have e1 : (L' ++ [pp])[L'.length]'(by simp) = pp := by simp
              rw [e1, HK.out] at h1
              exact h1 1 _ rfl
          have qk : (k : Int) < ((k : Int) + 1) := by omega
          have iI : (Tryz.prog.info? 3).map (·.size) = some 1 := by kernel_rfl
          have tb : pp.t ≤ 4398046510976 := by
            have := (W3.nums.each nv NVm).row.few
            omega
          clear hpop
          go_upto_region 6 with (first
            | (refine wpList_store_cel rfl 3 _ _ rfl g (k * 2 + 1) cur.size 166 (.int .i64 ((pp.t : Int) + 1)) (cur.setIfInBounds (k * 2 + 1) (.int .i64 ((pp.t : Int) + 1))) rfl rfl (by with_reducible exact hcur) rfl (by omega) iI rfl rfl ?_; intro w4 H4 b4))
          have hgl : g < wr.heap.size := BLK.lt
          have W4 := W3.pt b4 hcur hBg lowB
          have P4 := P3.pt b4 hcur
          have J4 := HJ.out _ _ _ J3 (Itr.but b4 hcur hBg)
          have N4 := b4.heap (by omega) N3
          obtain ⟨p1, hp1⟩ : ∃ p1 : Pv, p1 = ⟨pp.a, pp.cap, pp.env, pp.t + 1⟩ := ⟨_, rfl⟩
          have O4 : w4.ownsRow B 166 pK.k (.slice (some ⟨g, 0, none⟩) (L' ++ [p1]).length cap) (L' ++ [p1]).length ((L' ++ [p1]).flatMap pK.enc) := by
            have e1 : (L' ++ [pp])[k]'(by rw [LL.out]; omega) = pp := by
              have := get_last L' pp
              rw [HK.out] at this
              exact (List.getElem?_eq_some_iff.1 this).2
            have e2 : (L' ++ [pp]).set k p1 = L' ++ [p1] := by
              rw [List.set_append_right _ _ (by rw [HK.out]; exact Nat.le_refl _), HK.out, Nat.sub_self]; rfl
            have := own_cell O3 k 1 (by rw [LL.out]; omega) (by decide) p1 (.int .i64 ((pp.t : Int) + 1)) (by rw [e1, hp1]; show [_, _] = _; simp [pK, pvl]) (w' := w4) (fun c hc => by rw [hcur] at hc; cases hc; exact H4)
            rw [e2] at this
            exact this
          have HP1 := hideP hp1
          clear H4 b4 W3 P3 J3 O3 N3 BLK3 hcur hp1 BLK rg O PA WA HJr
          obtain ⟨bi, oi, hna2⟩ := (W4.nums.each nv NVm).row.addr (by omega)
          obtain ⟨i, hi'⟩ : ∃ i, nv.ns[pp.t]? = some i := ⟨_, List.getElem?_eq_getElem ht⟩
          obtain ⟨yl, hyl⟩ : ∃ yl, x.r.body[k]? = some yl := ⟨_, List.getElem?_eq_getElem hkb⟩
          have hCh := HI.out.chs.get (j := k) (l := yl.l) (ns := nv.ns) (by show (x.r.body.map Lv.l)[k]? = _; rw [List.getElem?_map, hyl]; rfl) (by rw [List.getElem?_map, HNV.out]; rfl)
          have hil : i < x.zs.length := by have := hCh.lt i (List.mem_of_getElem? hi'); simpa using this
          obtain ⟨z, hz⟩ : ∃ z, x.zs[i]? = some z := ⟨_, List.getElem?_eq_getElem hil⟩
          have FT := HI.out.facts
          obtain ⟨bf, ofs, hfa⟩ := FT.row.addr (by omega)
          have gi : ∀ W : World, NumsAt W x.na x.nc x.nvs → W.cell? ⟨bi, oi + pp.t, none⟩ = some (.int .i64 (i : Int)) := fun W h => by
            have h1 := (h.each nv NVm).row
            rw [hna2] at h1
            have h2 := h1.range pp.t ht 0
            rw [(List.getElem?_eq_some_iff.1 hi').2] at h2
            have := h2 _ rfl
            simpa [iK] using this
          have gf : ∀ W : World, Below w0.heap.size w0 W → W.rangeAt bf (ofs + i * 4) (fv z) := fun W h => by
            have h1 := FT.row.below h (Nat.le_refl _)
            rw [hfa] at h1
            have h2 := h1.range i hil
            rw [(List.getElem?_eq_some_iff.1 hz).2] at h2
            exact h2
          have hc11 : ∀ W : World, W.heap[S]? = some (.cells x.cells 136) → W.cell? ⟨S, 11, none⟩ = some (.slice (some ⟨bf, ofs, none⟩) x.zs.length x.fc) := fun W h => by rw [C11.out W h, hfa]
          have gn2 : ∀ W : World, NumsAt W x.na x.nc x.nvs → W.cell? ⟨b, o + k, none⟩ = some (.slice (some ⟨bi, oi, none⟩) nv.ns.length nv.cap) := fun W h => by rw [GN.out W h, hna2]
          have CELLS : ∀ W : World, WkW x w0 B S n W → W.heap[wr.heap.size]? = some (.cells (pvl pp).toArray 166) → (W.cell? ⟨S, 11, none⟩ = some (.slice (some ⟨bf, ofs, none⟩) x.zs.length x.fc) ∧ W.cell? ⟨S, 13, none⟩ = some (.slice (some ⟨b, o, none⟩) x.nvs.length x.nc) ∧ W.cell? ⟨b, o + k, none⟩ = some (.slice (some ⟨bi, oi, none⟩) nv.ns.length nv.cap) ∧ W.cell? ⟨wr.heap.size, 1, none⟩ = some (.int .i64 (pp.t : Int)) ∧ W.cell? ⟨bi, oi + pp.t, none⟩ = some (.int .i64 (i : Int)) ∧
              W.cell? ⟨bf, ofs + i * 4, none⟩ = some (str z.at_) ∧ W.cell? ⟨bf, ofs + i * 4 + 1, none⟩ = some (str z.by_) ∧ W.cell? ⟨bf, ofs + i * 4 + 2, none⟩ = some (str z.pred) ∧ W.cell? ⟨bf, ofs + i * 4 + 3, none⟩ = some (.slice z.a z.ks.length z.cap)) := fun W h1 h2 => by
            have f := gf W h1.below
            exact ⟨hc11 W h1.box, HC13.out W h1.box, gn2 W h1.nums, by rw [heap_cell h2]; rfl, gi W h1.nums, f 0 _ rfl, f 1 _ rfl, f 2 _ rfl, f 3 _ rfl⟩
          have HCELLS := hideP CELLS
          have HCH := hideP hCh
          have HIl := hideP hi'
          have HZ := hideP hz
          have HYL := hideP hyl
          have qi : (i : Int) < (x.zs.length : Int) := by omega
          have qt2 : (pp.t : Int) < (nv.ns.length : Int) := by omega
          have zf := FT.row.few
          clear CELLS gi gf hc11 gn2 hna2 hfa hCh hi' hz hyl FT
          have gDr := (Below.refl w4.heap.size w4).drew
          have W4d := W4.next gDr lowB
          have N4d := below_heap gDr N4
          have A5d : Below w4.heap.size w4 (w4.alloc (.cells #[.string { data := #[] }, .string { data := #[] }, .string { data := #[] }, .slice none 0 0] 36)).drew := (below_alloc w4 (.cells #[.string { data := #[] }, .string { data := #[] }, .string { data := #[] }, .slice none 0 0] 36)).drew
          have W5d := W4.next A5d lowB
          have N5d := below_heap A5d N4
          have A6 : Below w4.heap.size w4 (w4.alloc (.cells #[str z.at_, str z.by_, str z.pred, .slice z.a z.ks.length z.cap] 36)).drew := (below_alloc w4 (.cells #[str z.at_, str z.by_, str z.pred, .slice z.a z.ks.length z.cap] 36)).drew
          have W6 := W4.next A6 lowB
          have N6 := below_heap A6 N4
          have F6 : (w4.alloc (.cells #[str z.at_, str z.by_, str z.pred, .slice z.a z.ks.length z.cap] 36)).drew.heap[w4.heap.size]? = some (.cells (fv z).toArray 36) := heap_alloc_new w4 (.cells #[str z.at_, str z.by_, str z.pred, .slice z.a z.ks.length z.cap] 36)
          have P6 := P4.next A6
          have J6 := HJ.out _ _ _ J4 (Itr.below A6 W4.from_)
          have O6 := ownsRow_keep O4 (Safe.below A6)
          generalize hR : wr.heap.size = R at *
          go_region_held3 (fun W => W.cell? ⟨S, 11, none⟩ = some (.slice (some ⟨bf, ofs, none⟩) x.zs.length x.fc) ∧ W.cell? ⟨S, 13, none⟩ = some (.slice (some ⟨b, o, none⟩) x.nvs.length x.nc) ∧ W.cell? ⟨b, o + k, none⟩ = some (.slice (some ⟨bi, oi, none⟩) nv.ns.length nv.cap) ∧ W.cell? ⟨R, 1, none⟩ = some (.int .i64 (pp.t : Int)) ∧ W.cell? ⟨bi, oi + pp.t, none⟩ = some (.int .i64 (i : Int)) ∧
              W.cell? ⟨bf, ofs + i * 4, none⟩ = some (str z.at_) ∧ W.cell? ⟨bf, ofs + i * 4 + 1, none⟩ = some (str z.by_) ∧ W.cell? ⟨bf, ofs + i * 4 + 2, none⟩ = some (str z.pred) ∧ W.cell? ⟨bf, ofs + i * 4 + 3, none⟩ = some (.slice z.a z.ks.length z.cap)) (first | with_reducible exact HCELLS.out _ W6 N6 | with_reducible exact HCELLS.out _ W5d N5d | exact HCELLS.out _ W4d N4d) (fail)
          clear W4 W4d N4 N4d P4 J4 O4 HCELLS gDr A5d W5d N5d
          generalize hw6 : (w4.alloc (.cells #[str z.at_, str z.by_, str z.pred, .slice z.a z.ks.length z.cap] 36)).drew = w6 at *
          have c60 : w6.cell? ⟨R, 0, none⟩ = some (.slice pp.a pp.env.length pp.cap) := by rw [heap_cell N6]; rfl
          have TWu := Tryz.underlying136
          have TFu := Tryz.underlying36
          have BX6 : w6.heap[S]? = some (.cells x.list.toArray 136) := W6.box
          have zm := List.mem_of_getElem? HZ.out
          have ym := List.mem_of_getElem? HYL.out
          have ENV := (P6.pts k pp (by have := get_last L' pp; rw [HK.out] at this; exact this))
          have mf := met_few P6 HI.out.few
          have TS := hideP (step_at x k yl z pp.a pp.cap pp.env n _ w6 (HI.out.rule.below W6.below (Nat.le_refl _)) HYL.out (Fv.At.below (HI.out.facts.each z zm) W6.below (Nat.le_refl _)) ENV.1.row W6.sp P6.metA (by omega) (fun b hb => (ENV.2.2.1.each b hb).1)
            (fun q hq b hb => by
              have o := ENV.2.2.1.lit (HI.out.small z zm) (HI.out.sm.head _ (List.mem_cons_self ..)) (HI.out.sm.lits yl ym) (HI.out.sm.each yl ym) hq
              exact ⟨(o.each b hb).1, okB_of (o.each b hb).2⟩)
            (by have := ENV.2.2.1.len; have := HI.out.sm.each yl ym; omega) (by rw [List.length_map]; omega) (HI.out.tab.now W6.below (Nat.le_trans lowB W6.from_)))
          have OKQ : Hid (∀ q, Ml.stp x.r.home (Ml.laOf (Ml.spans x.r.r)) k yl.l z.f pp.env = some q → OkE (k + 1) q) := fun q hq => ENV.2.2.1.stp (HI.out.small z zm) (HI.out.sm.head _ (List.mem_cons_self ..)) (HI.out.sm.lits yl ym) (HI.out.sm.each yl ym) hq
          have EV := hideP ENV
          clear hw6 A6 ENV
          go_wp2_with (first
            | (refine wpList_load_all rfl 136 _ rfl S 15 136 x.list _ rfl (by with_reducible exact BX6) rfl TWu rfl iW15 ?_)
            | (refine wpList_load_all rfl 36 _ rfl w4.heap.size 4 36 (fv z) _ rfl (by with_reducible exact F6) rfl TFu rfl iF4 ?_))
          refine TS.out.mono ?_
          rintro e w7 ⟨ANS, b7⟩
          obtain ⟨es6, ck6, hm6⟩ := P6.metA.map
          have HIo := HI.out
          have W7 := W6.met b7 hm6 HIo.ne HIo.bt lowB
          have J7 := HJ.out _ _ _ J6 (Itr.butO b7 hm6 rfl HIo.bt)
          have sf : ∀ ty : TypeId, Safe ty w6 w7 := fun ty k' cur' hk' => b7.heap (fun e => by subst e; rw [hm6] at hk'; cases hk') hk'
          have O7 := ownsRow_keep O6 (sf _)
          have HN : Hid (k < x.cx.n) := by show k < x.r.r.body.length; simpa [Rv.r] using hkb
          have HIX : Hid ((x.cx.ns k)[pp.t]? = some i) := by show _ = _; rw [NS.out]; exact HIl.out
          have HPT : Hid (p1.pt = (pp.env, pp.t + 1)) := by show _ = _; rw [HP1.out]
          have HSE := hideP (st_eq (p := pp.env) HYL.out HZ.out)
          have VP : Hid (x.cx.V e0 k (pp.env.map (·.1))) := by
            have := P6.wk
            rw [List.map_append, List.map_cons, List.map_nil] at this
            have := this.top
            rwa [List.length_map, HK.out] at this
          have LL1 : (L' ++ [p1]).length = k + 1 := by rw [List.length_append, HK.out]; rfl
          have PTS : Hid (∀ (j : Nat) (p : Pv), (L' ++ [p1])[j]? = some p → RowT bK 99 w7 p.a p.cap p.env ∧ From B p.a ∧ OkE j p.env ∧ p.t ≤ (x.cx.ns j).length) := fun j p hp => by
            rcases Ml.get_snoc hp with hp | ⟨rfl, hb⟩
            · have h := P6.pts j p (by rw [List.getElem?_append_left (List.getElem?_eq_some_iff.1 hp).1]; exact hp)
              exact ⟨h.1.safe (sf _), h.2⟩
            · have h := EV.out
              rw [HK.out, hb, HP1.out]
              refine ⟨h.1.safe (sf _), h.2.1, h.2.2.1, ?_⟩
              show pp.t + 1 ≤ _
              rw [NS.out]; omega
          have DEPh := hideP P6.dep
          clear TS c60 BX6 F6 N6 O6 J6 hm6 HIo
          rcases ANS with ⟨rfl, M7, HNO⟩ | ⟨q, a7, c7, met7, HYES, rfl, R7, F7, M7, HM⟩
          · have SK := hideP (wk_skip (p1 := p1) P6.wk P6.wc HK.out HN.out HIX.out HPT.out (fun q hq => met_mem P6 VP.out hq (HNO q (by rw [← HSE.out]; exact hq))))
            have P7 : WkP x B e0 ys (L' ++ [p1]) met w7 := ⟨PTS.out, M7, SK.out.1, SK.out.2.1, by have := DEPh.out; rw [LL.out] at this; rw [LL1]; exact this⟩
            have HLL1 := hideP LL1
            clear HNO LL1 b7 P6
            rw [HLL1.out] at O7
            go_wp2_with fail
            go_roundg (x.cx.lefts 0 ((L' ++ [p1]).map Pv.pt))
            case measure => exact SK.out.2.2
            case rel => exact ⟨L' ++ [p1], ys, met, g, cap, by rw [HLL1.out], rfl, by rw [HLL1.out]; exact O7, W7, P7, J7⟩
          · obtain ⟨met', HM1, HM2⟩ : ∃ met' : List (Nat × Mt.Env), (met' = met ∨ met' = met ++ [(k, q)]) ∧ met7 = met'.map fun a => Ml.keyT Lib.itoa a.1 a.2 := by
              rcases HM with h | h
              · exact ⟨met, .inl rfl, h⟩
              · exact ⟨met ++ [(k, q)], .inr rfl, by rw [h, List.map_append]; rfl⟩
            obtain ⟨p2, hp2⟩ : ∃ p2 : Pv, p2 = ⟨a7, c7, q, 0⟩ := ⟨_, rfl⟩
            have HV2 : Hid ((.agg #[.slice a7 q.length c7, .int .i64 0] : Value) = .agg (pvl p2).toArray) := by show _ = _; rw [hp2]; rfl
            have HP2 := hideP hp2
            have PS := hideP (wk_push HNL.out (p1 := p1) (p2 := p2) P6.wk P6.wc HK.out HN.out HIX.out HPT.out (by rw [hp2]) (by rw [HSE.out]; exact HYES) HM1)
            have OQ := hideP (OKQ.out q HYES)
            have FQ : Hid (From B a7) := From.mono F7 W6.from_
            rw [HM2] at M7
            have HLL1 := hideP LL1
            rw [HLL1.out] at O7
            have A8 := below_alloc w7 (.cells (pvl p2).toArray 166)
            have O8 := ownsRow_keep O7 (Safe.below A8)
            have R8 : Row pK (w7.alloc (.cells (pvl p2).toArray 166)) (some ⟨w7.heap.size, 0, none⟩) 1 [p2] := row_new pK w7 _ _ p2 rfl
            have W8 := W7.next A8 lowB
            have M8 := M7.next A8
            have J8 := HJ.out _ _ _ J7 (Itr.below A8 W7.from_)
            have B8 := W8.from_
            have O8' : (w7.alloc (.cells (pvl p2).toArray 166)).ownsRow B 166 pK.k (.slice (some ⟨g, 0, none⟩) (k + 1) cap) (L' ++ [p1]).length ((L' ++ [p1]).flatMap pK.enc) := by rw [HLL1.out]; exact O8
            have few1 : (L' ++ [p1]).length ≤ 1000 := by rw [HLL1.out]; omega
            have FW1 := hideP few1
            clear HM HM1 HM2 hp2 LL1 HYES OKQ few1 b7 P6 W7 M7 J7 O7 O8
            go_wp2_with (first
              | (refine wpList_build_one rfl 167 166 _ rfl (pvl p2) _ 2 32 HV2.out rfl (by decide) (by decide) Tryz.underlying167 Tryz.iPt ?_)
              | (at_builtin; refine wpList_append_rec pK _ rfl _ _ 167 166 rfl _ 32 Tryz.underlying167 Tryz.iPt rfl (by decide) B (.slice (some ⟨g, 0, none⟩) (k + 1) cap) (L' ++ [p1]) [p2] (some ⟨w7.heap.size, 0, none⟩) 1 1 rfl O8' rfl rfl R8 B8 (by have := FW1.out; simp only [List.length_cons, List.length_nil]; omega) ?_; intro v9 w9 o9 g9))
            have W9 := W8.grown O8' g9 lowB
            have M9 := M8.grown O8' g9
            have I9 := Itr.grown O8' g9 (Nat.le_refl _) B8
            have J9 := HJ.out _ _ _ J8 I9
            have s9 : Safe 99 w7 w9 := (Safe.below A8).trans (I9.safe (by decide))
            obtain ⟨g9', cap9, rfl⟩ : ∃ g9' cap9, v9 = .slice (some ⟨g9', 0, none⟩) (L' ++ [p1] ++ [p2]).length cap9 := by
              rcases own_blk (D := pK) o9 with ⟨_, h⟩ | ⟨g', c', h, _⟩
              · simp at h
              · exact ⟨g', c', h⟩
            have P9 : WkP x B e0 ys (L' ++ [p1] ++ [p2]) met' w9 := by
              refine ⟨fun j p hp => ?_, M9, PS.out.1, PS.out.2.1, ?_⟩
              · rcases Ml.get_snoc hp with hp | ⟨rfl, hb⟩
                · have h := PTS.out j p hp
                  exact ⟨h.1.safe s9, h.2⟩
                · rw [HLL1.out, hb, HP2.out]
                  exact ⟨R7.safe s9, FQ.out, OQ.out, Nat.zero_le _⟩
              · rw [List.length_append, HLL1.out]
                show k + 1 + 1 ≤ _
                omega
            go_roundg (x.cx.lefts 0 ((L' ++ [p1] ++ [p2]).map Pv.pt))
            case measure => exact PS.out.2.2
            case rel => exact ⟨L' ++ [p1] ++ [p2], ys, met', g9', cap9, rfl, rfl, o9, W9, P9, J9⟩
end Go.Proofs.YtdehimbfcilhpaaGreatDoor
