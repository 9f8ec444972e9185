/-
  Sorted: a list in order, each once, in memory of its own, the Args too.
-/
import Derived.Test.YtdlhleblolcjpaaOdr
namespace Go.Proofs.Ytdlhleblolcjpaa
open Go.RowKit Go.Sort

/-- a fact's Args lie in another block than g -/
def Fv.Apart (g : Nat) (x : Fv) : Prop := ∀ ad, x.a = some ad → ad.block ≠ g
theorem Fv.At.but {w w' : World} {x : Fv} {g : Nat} (h : Fv.At w x) (ho : Fv.Apart g x) (hb : But g w w') : Fv.At w' x :=
  ⟨h.room, h.few, h.void, fun ad ha j u hu => by
    have hc := h.cells ad ha j u hu
    rw [hb.cell (by rw [addr_add_block]; exact ho ad ha) (cell_block hc)]
    exact hc⟩
/-- .. in memory that is no older than base -/
def Fv.New (base : Nat) (x : Fv) : Prop := ∀ ad, x.a = some ad → base ≤ ad.block

theorem TagK.but {w w' : World} {a : Option Addr} {g : Nat} (h : TagK w a) (ho : ∀ ad, a = some ad → ad.block ≠ g) (hb : But g w w') : TagK w' a := fun ad ha => by
  obtain ⟨cur, hc⟩ := h ad ha
  exact ⟨cur, (hb.block _ (heap_lt hc) (ho ad ha)).trans hc⟩

set_option maxHeartbeats 2000000 in
theorem sorted_at (a : Option Addr) (cap : Nat) (xs : List Fv) (w : World) (hl : Lies w a cap xs) (hx : ∀ x ∈ xs, Fv.At w x) : Calls Try.prog 20 #[.slice a xs.length cap] w
    fun e w' => ∃ a' c' zs, e = .returned (.slice a' zs.length c') ∧ OwnF w' w.heap.size a' c' zs ∧ (∀ z ∈ zs, Fv.At w' z ∧ Fv.New w.heap.size z ∧ (∀ ad, a' = some ad → Fv.Apart ad.block z) ∧ TagK w' z.a) ∧ zs.map Fv.f = sortF (xs.map Fv.f) ∧ Below w.heap.size w w' := by
  have hO := ordered_at a cap xs w hl hx
  have hC := fun (x : Fv) (W : World) (h : Fv.At W x) => clone_at x W h
  go_enter Try.func20, Try.ntmps20
  go_wp2_with fail
  refine hO.mono ?_; rintro e w1 ⟨a1, c1, ys, rfl, hO1, hin, hsort, hb1⟩
  have Hsort := hideP hsort; clear hsort
  have few := hO1.few
  by_cases h0 : ys.length = 0
  · obtain rfl : ys = [] := List.eq_nil_of_length_eq_zero h0
    go_wp2_with fail
    go_loopw [4, 9] (fun _ v wr => v = .int .i64 0 ∧ w1 = wr) (fun _ _ _ => 0)
    case atStart => exact ⟨rfl, rfl⟩
    case round =>
      obtain ⟨rfl, rfl⟩ := hrel
      go_wp2_with fail
      go_ret
      exact ⟨a1, c1, [], rfl, hO1, fun _ h => by simp at h, Hsort.out, hb1⟩
  · cases a1 with
    | none => exfalso; have := (hO1.void rfl).1; subst this; simp at h0
    | some ad =>
      obtain ⟨g, rfl, hg0, hg1, hrow⟩ := hO1.row ad rfl
      go_wp2_with fail
      go_loopw [4, 9] (fun _ v wr => ∃ (i : Nat) (Z : List Fv), v = .int .i64 (i : Int) ∧ i ≤ ys.length ∧ Hid (Z.length = i) ∧ Hid (Z.map Fv.f = (ys.take i).map Fv.f) ∧ RowF wr g (Z ++ ys.drop i) ∧ (∀ z ∈ Z, Fv.At wr z ∧ Fv.New w.heap.size z ∧ Fv.Apart g z ∧ TagK wr z.a) ∧ But g w1 wr) (fun _ v _ => ys.length - (intOf v).toNat)
      case atStart => exact ⟨0, [], rfl, by omega, rfl, rfl, by simpa using hrow, fun _ h => by simp at h, But.refl _ _⟩
      case round =>
        obtain ⟨i, Z, rfl, hi, hZ, hZf, hR, hat, hbut⟩ := hrel
        by_cases hlt : i < ys.length
        · have q1 : (i : Int) < (ys.length : Int) := by omega
          have hz := hZ.out
          have hRl : (Z ++ ys.drop i).length = ys.length := by simp; omega
          have hil : i < (Z ++ ys.drop i).length := by omega
          have gi : (Z ++ ys.drop i)[i]'hil = ys[i]'hlt := by
            rw [List.getElem_append_right (by omega), List.getElem_drop]; congr 1; omega
          obtain ⟨a1, a2, a3, a4⟩ := hR.get i hil
          rw [gi] at a1 a2 a3 a4
          have hBw : Below w.heap.size w wr := hb1.trans (hbut.lower hg0 hb1.size)
          have hcl := hC (ys[i]'hlt) wr ((hx _ (hin _ (List.getElem_mem hlt))).below hBw (Nat.le_refl _))
          have hset : ∀ x : Fv, (Z ++ ys.drop i).set i x = (Z ++ [x]) ++ ys.drop (i + 1) := fun x => by
            rw [List.set_append_right _ _ (by omega), List.drop_eq_getElem_cons hlt, show i - Z.length = 0 by omega, List.set_cons_zero, List.append_assoc]
            rfl
          have hyf : Hid ((ys.take (i + 1)).map Fv.f = (ys.take i).map Fv.f ++ [(ys[i]'hlt).f]) := by
            show _ = _
            rw [List.take_succ_eq_append_getElem hlt, List.map_append]; rfl
          generalize (ys[i]'hlt) = p at *
          have Hz := hideP hz; have HRl := hideP hRl; have Hset := hideP hset; clear hz hRl hset gi
          go_wp2_with fail
          refine hcl.mono ?_
          rintro e w2 ⟨a', c', rfl, hA, hF, hB2, hT2⟩
          have hgr : g < wr.heap.size := Nat.lt_of_lt_of_le hg1 hbut.size
          have hR2 := hR.below hB2 hgr
          obtain ⟨c1', c2', c3', c4'⟩ := hR2.get i hil
          obtain ⟨f1, f2, f3, f4⟩ := hR2.thaw i hil
          have hst := hR2.store i hil { p with a := a', cap := c' }
          rw [Hset.out] at hst
          generalize (Z ++ ys.drop i)[i]'hil = old at *
          clear a1 a2 a3 a4 hcl hil
          go_wp2_with fail
          have hbut2 : But g w2 ((((w2.setCell ⟨g, i * 4, none⟩ (str p.at_)).setCell ⟨g, i * 4 + 1, none⟩ (str p.by_)).setCell ⟨g, i * 4 + 2, none⟩ (str p.pred)).setCell ⟨g, i * 4 + 3, none⟩ (.slice a' p.ks.length c')) := ((((But.refl g w2).set _ _).set _ _).set _ _).set _ _
          have hw2 : w1.heap.size ≤ wr.heap.size := hbut.size
          refine ⟨⟨i + 1, Z ++ [{ p with a := a', cap := c' }], by simp, by omega, ?_, ?_, hst, ?_, (hbut.below hB2).trans hbut2⟩, by simp [intOf]; omega⟩
          · show _ = _; rw [List.length_append, Hz.out]; rfl
          · show _ = _
            rw [hyf.out, List.map_append, hZf.out]; rfl
          · intro z hz'
            rcases List.mem_append.1 hz' with hz' | hz'
            · obtain ⟨h1, h2, h3, h4⟩ := hat z hz'
              exact ⟨(h1.below hB2 (Nat.le_refl _)).but h3 hbut2, h2, h3, (h4.below hB2).but h3 hbut2⟩
            · rw [List.mem_singleton] at hz'
              subst hz'
              have hap : Fv.Apart g { p with a := a', cap := c' } := fun ad ha => by have := hF ad ha; omega
              refine ⟨Fv.At.but (x := { p with a := a', cap := c' }) hA hap hbut2, fun ad ha => ?_, hap, TagK.but hT2 hap hbut2⟩
              have := hF ad ha
              have := hb1.size
              omega
        · have q1 : ¬ (i : Int) < (ys.length : Int) := by omega
          have e1 : i = ys.length := by omega
          subst e1
          have hz := hZ.out
          have hR' : RowF wr g Z := hR.take
          have Hf : Hid (Z.map Fv.f = sortF (xs.map Fv.f)) := by show _ = _; rw [hZf.out, List.take_length, Hsort.out]
          have Hz := hideP hz; clear hz
          rw [show ys.length = Z.length from Hz.out.symm]
          go_wp2_with fail
          go_ret
          have hroom := hO1.room
          refine ⟨some ⟨g, 0, none⟩, c1, Z, rfl, ⟨by rw [Hz.out]; exact hroom, hO1.most, by rw [Hz.out]; exact few, (fun h => by cases h), fun ad ha => ?_⟩, fun z hz' => ?_, Hf.out, hb1.trans (hbut.lower hg0 hb1.size)⟩
          · cases ha
            exact ⟨g, rfl, hg0, Nat.lt_of_lt_of_le hg1 hbut.size, hR'⟩
          · obtain ⟨h1, h2, h3, h4⟩ := hat z hz'
            exact ⟨h1, h2, (fun ad ha => by cases ha; exact h3), h4⟩

end Go.Proofs.Ytdlhleblolcjpaa
