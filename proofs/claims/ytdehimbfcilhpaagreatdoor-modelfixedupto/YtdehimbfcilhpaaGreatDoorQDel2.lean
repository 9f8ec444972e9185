/-
  slices.DeleteFunc, walked; Minus.
-/
import Derived.Test.YtdehimbfcilhpaaGreatDoorQDel
namespace Go.Proofs.YtdehimbfcilhpaaGreatDoor
open Go.RowKit Go.Sort

abbrev stays (ys : List Fv) (z : Fv) : Bool := !hasF (ys.map Fv.f) z.f

set_option maxHeartbeats 4000000 in
theorem delete_at (wh w : World) (g c : Nat) (zs : List Fv) (B : Nat) (a' : Option Addr) (c' : Nat) (ys : List Fv) (hc : Cap wh B a' c' ys) (hB : Below wh.heap.size wh w) (hg0 : wh.heap.size ≤ g) (hg1 : g < w.heap.size) (hrow : RowF w g zs) (hz : ∀ z ∈ zs, Fv.At w z ∧ Fv.Apart g z) (hcap : zs.length ≤ c) (hlen : zs.length ≤ 1954687338211) :
    Calls Tryz.prog 39 #[.slice (some ⟨g, 0, none⟩) zs.length c, .func (.func 40) #[] #[.pointer (some ⟨B, 0, none⟩)]] w
      fun e w' => e = .returned (.slice (some ⟨g, 0, none⟩) (zs.filter (stays ys)).length c) ∧ RowF w' g (zs.filter (stays ys)) ∧ But g w w' := by
  have eg : ∀ args w, (callFunc 40 args).run Tryz.prog w = .ok (.enter 40 args) w := enters_of Tryz.func40 (by kernel_rfl) rfl
  have hM := fun (x : Fv) (W : World) (hW : Below wh.heap.size wh W) (h : Fv.At W x) => minus1_at x B a' c' ys W (hc.below hW) h
  have hI := indexF_at g c zs B a' c' ys w hrow hg1 (fun z h => (hz z h).1) (hc.below hB) hlen
  go_enter Tryz.func39, Tryz.ntmps39
  go_wp2_with fail
  refine hI.mono ?_
  rintro e w1 ⟨hcase, hb1⟩
  rcases hcase with ⟨rfl, hall⟩ | ⟨i, hi, rfl, hyes, hbefore⟩
  · have hf : Hid (zs.filter (stays ys) = zs) := List.filter_eq_self.2 fun z h => by rw [stays, hall z h]; rfl
    have Hall := hideP hall; clear hall
    go_wp2_with fail
    go_ret
    rw [hf.out]
    exact ⟨rfl, hrow.below hb1 hg1, (But.refl _ _).below hb1⟩
  · have hst : Hid ((zs.take (i + 1)).filter (stays ys) = zs.take i) := by
      show _ = _
      rw [List.take_succ_eq_append_getElem hi, List.filter_append, List.filter_eq_self.2 fun z h => by
        obtain ⟨j, hj, rfl⟩ := List.mem_take_iff_getElem.1 h
        rw [stays, hbefore j (by omega) (by omega)]; rfl]
      simp [stays, hyes]
    have Hy := hideP hyes; have Hb := hideP hbefore; clear hyes hbefore
    have hne : ((i : Int) == -1) = false := by rw [beq_eq_false_iff_ne]; omega
    go_wp2_with fail
    have hli : (zs.take i).length = i := by rw [List.length_take]; omega
    go_loopw [5, 6, 7] (fun v5 v6 _ wr => ∃ (t : Nat) (L : List Fv), i < t ∧ t ≤ zs.length ∧ v6 = .int .i64 (t : Int) ∧ v5 = .int .i64 (L.length : Int) ∧ Hid (L = (zs.take t).filter (stays ys)) ∧ L.length < t ∧ RowF wr g (L ++ zs.drop L.length) ∧ But g w wr) (fun _ v6 _ _ => zs.length - (intOf v6).toNat)
    case atStart => exact ⟨i + 1, zs.take i, by omega, by omega, by simp, by rw [hli], hst.out.symm, by omega, by rw [hli, List.take_append_drop]; exact hrow.below hb1 hg1, (But.refl _ _).below hb1⟩
    case round =>
      obtain ⟨t, L, hit, ht, rfl, rfl, hL, hLl, hR, hbut⟩ := hrel
      by_cases hlt : t < zs.length
      · have q1 : (t : Int) < (zs.length : Int) := by omega
        have hRl : (L ++ zs.drop L.length).length = zs.length := by simp; omega
        have gi := mid_get zs L t hlt (by omega)
        obtain ⟨a1, a2, a3, a4⟩ := hR.get t (by omega)
        rw [gi] at a1 a2 a3 a4
        have hzz := hz _ (List.getElem_mem hlt)
        have hA := hzz.1.but hzz.2 hbut
        have hBr : Below wh.heap.size wh wr := hB.trans (hbut.lower hg0 hB.size)
        have hfil : Hid ((zs.take (t + 1)).filter (stays ys) = (zs.take t).filter (stays ys) ++ [zs[t]'hlt].filter (stays ys)) := by
          show _ = _
          rw [List.take_succ_eq_append_getElem hlt, List.filter_append]
        generalize (zs[t]'hlt) = p at *
        have hn := fun o : Obj => hM p (wr.alloc o) (hBr.trans ((below_alloc wr o).mono hBr.size)) (hA.below (below_alloc wr o) (Nat.le_refl _))
        have hgr : g < wr.heap.size := Nat.lt_of_lt_of_le hg1 hbut.size
        have HRl := hideP hRl; clear hRl gi hM
        cases hr : hasF (ys.map Fv.f) p.f
        · simp only [hr] at hn
          have hL2 : Hid (L ++ [p] = (zs.take (t + 1)).filter (stays ys)) := by
            show _ = _
            rw [hfil.out, hL.out]; simp [stays, hr]
          clear hr
          go_wp2_with fail
          refine (hn _).mono ?_; rintro e w2 ⟨rfl, hg2⟩
          have hb2 : Below wr.heap.size wr w2 := Below.then (below_alloc _ _) hg2.below
          have hbut2 := hbut.below hb2
          have hR2 := hR.below hb2 hgr
          have H2 : w2.heap[wr.heap.size]? = some (.cells #[str p.at_, str p.by_, str p.pred, .slice p.a p.ks.length p.cap] 36) := (hg2.below.block _ (by simp)).trans (heap_alloc_new _ _)
          have e0 := heap_cell H2 0; have e1 := heap_cell H2 1; have e2 := heap_cell H2 2; have e3 := heap_cell H2 3
          simp at e0 e1 e2 e3
          have hl : L.length < (L ++ zs.drop L.length).length := by rw [HRl.out]; omega
          obtain ⟨c1, c2, c3, c4⟩ := hR2.get L.length hl
          obtain ⟨f1, f2, f3, f4⟩ := hR2.thaw L.length hl
          have qc : (L.length : Int) < (zs.length : Int) := by omega
          have hstr := hR2.store L.length hl p
          rw [mid_set zs L p (by omega)] at hstr
          generalize (L ++ zs.drop L.length)[L.length]'hl = old at *
          clear a1 a2 a3 a4 H2
          go_wp2_with fail
          refine ⟨⟨t + 1, L ++ [p], by omega, by omega, by simp, by simp, hL2, by simp; omega, hstr, ?_⟩, by simp [intOf]; omega⟩
          exact (((hbut2.set _ _).set _ _).set _ _).set _ _
        · simp only [hr] at hn
          have hL2 : Hid (L = (zs.take (t + 1)).filter (stays ys)) := by
            show _ = _
            rw [hfil.out, ← hL.out]; simp [stays, hr]
          clear hr
          go_wp2_with fail
          refine (hn _).mono ?_; rintro e w2 ⟨rfl, hg2⟩
          have hb2 : Below wr.heap.size wr w2 := Below.then (below_alloc _ _) hg2.below
          clear a1 a2 a3 a4
          go_wp2_with fail
          exact ⟨⟨t + 1, L, by omega, by omega, by simp, rfl, hL2, by omega, hR.below hb2 hgr, hbut.below hb2⟩, by simp [intOf]; omega⟩
      · have q1 : ¬ (t : Int) < (zs.length : Int) := by omega
        have hRl : (L ++ zs.drop L.length).length = zs.length := by simp; omega
        have qd : L.length < zs.length := by omega
        obtain ⟨Z, hZ, hcl⟩ := run_clear_facts wr g (L.length * 4) (zs.length - L.length) (c - L.length) (by omega)
          (fun j hj => (hR.some (L.length * 4 + j) (by rw [hRl]; omega)).1) (fun j hj => (hR.some (L.length * 4 + j) (by rw [hRl]; omega)).2)
        have qe : (L.length : Int) ≤ (zs.length : Int) := by omega
        have qf : ¬ c = L.length := by omega
        have qg : (L.length : Int) ≤ (c : Int) := by omega
        have HL : Hid (zs.filter (stays ys) = L) := by show _ = _; rw [hL.out, List.take_of_length_le (by omega)]
        clear hL
        go_wp2_with fail
        go_ret
        rw [HL.out]
        exact ⟨rfl, hR.head Z, hbut.cells Z _ _⟩

theorem delete_none (a : Option Addr) (c : Nat) (f : Value) (w : World) : Calls Tryz.prog 39 #[.slice a 0 c, f] w fun e w' => e = .returned (.slice a 0 c) ∧ w = w' := by
  have hI := fun W => indexF_none a c f W
  go_enter Tryz.func39, Tryz.ntmps39
  go_wp2_with fail
  refine (hI _).mono ?_; rintro e w1 ⟨rfl, rfl⟩
  go_wp2_with fail
  go_ret
  exact ⟨rfl, rfl⟩

end Go.Proofs.YtdehimbfcilhpaaGreatDoor
