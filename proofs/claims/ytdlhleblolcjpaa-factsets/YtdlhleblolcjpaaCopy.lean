/-
  The reference's Copy and Spoil.
-/
import Derived.Test.YtdlhleblolcjpaaWith
import Derived.Deep.AppendLies
namespace Go.Proofs.Ytdlhleblolcjpaa
open Go.RowKit Go.Sort

theorem ownsArgs_empty (w : World) : (w.alloc (.cells #[] 23)).ownsRow w.heap.size 23 3 (.slice (some ⟨w.heap.size, 0, none⟩) 0 0) 0 (kcells []) :=
  ⟨rfl, .inr ⟨w.heap.size, 0, #[], rfl, Nat.le_refl _, heap_alloc_new w _, Nat.le_refl _, Nat.zero_le _, rfl, rfl⟩⟩

/-- a fact's Args lie in a block of constants -/
def Fv.Tag (w : World) (z : Fv) : Prop := TagK w z.a
theorem Fv.Tag.below {w w' : World} {z : Fv} (h : Fv.Tag w z) (hb : Below w.heap.size w w') : Fv.Tag w' z := fun ad ha => by
  obtain ⟨cur, hc⟩ := h ad ha
  exact ⟨cur, (hb.block _ (heap_lt hc)).trans hc⟩
/-- a row of facts grew: what stands in blocks of constants is kept -/
theorem keep_grown {w w' : World} {base : Nat} {v : Value} {n : Nat} {xs : List Fv} {z : Fv} (hown : w.ownsRow base 30 4 v n (fcells xs)) (hg : w.grownBy w' v.ownBlock) (h : Fv.At w z) (hT : Fv.Tag w z) : Fv.At w' z ∧ Fv.Tag w' z := by
  have hne : ∀ ad, z.a = some ad → some ad.block ≠ v.ownBlock := fun ad ha he => by
    obtain ⟨cur, hc⟩ := hT ad ha
    rcases hown.2 with ⟨h0, _⟩ | ⟨g, cap, cur', hv, _, hh, _⟩
    · rw [h0] at he; cases he
    · rw [hv] at he
      have e : ad.block = g := by cases he; rfl
      rw [e, hh] at hc
      cases hc
  refine ⟨⟨h.room, h.few, h.void, fun ad ha j u hu => ?_⟩, fun ad ha => ?_⟩
  · have hc := h.cells ad ha j u hu
    rw [hg.cell_far (ad.add j) (cell_block hc) (by rw [addr_add_block]; exact hne ad ha)]
    exact hc
  · obtain ⟨cur, hc⟩ := hT ad ha
    exact ⟨cur, (hg.block _ (heap_lt hc) (hne ad ha)).trans hc⟩
/-- append([]Const{}, args...) -/
theorem wpList_append_ks0 (w : World) {ops : Array Oper} {rest : List Oper} {o : Oper} {a : Act} {Q : Exit → Act → World → Prop} (hgd : o.guard = none) (s x : Operand)
    (ho : o.op = .call { callee := .builtin .append, args := #[s, x], argTypes := #[28, 28] })
    (base : Nat) (v : Value) (ks : List K) (ao : Option Addr) (c : Nat) (hs : a.eval s = v) (hown : w.ownsRow base 23 3 v 0 (kcells [])) (hx : a.eval x = .slice ao ks.length c) (hl : ArgsAt w ao c ks) (hbase : base ≤ w.heap.size)
    (h : ∀ a' c' w', ArgsAt w' a' c' ks → (∀ ad, a' = some ad → base ≤ ad.block) → (∀ ad, a' = some ad → ∃ cur : Array Value, w'.heap[ad.block]? = some (.cells cur 23)) → Below base w w' → wpList Try.prog ops Q rest (a.put o.dst (.slice a' ks.length c')) w') : wpList Try.prog ops Q (o :: rest) a w := by
  obtain ⟨i0, hi, hz0, hz1, hz2⟩ := info_parts Try.infoK
  cases ao with
  | none =>
    obtain ⟨rfl, rfl⟩ := hl.void rfl
    obtain ⟨a', c', rfl, hA, hF⟩ := own_args (ks := []) hown (by simp)
    exact wpList_append_own_none hgd s x 28 ho base 23 i0 3 Try.underlying28 hi _ 0 (kcells []) hs hown hx (by rw [hs] at *; exact h a' c' w hA hF (own_args_tag hown) (Below.refl _ _))
  | some ad =>
    have hf := hl.few
    refine wpList_append_own w hgd s x 28 ho base 23 i0 _ 3 32 Try.underlying28 hi hz0 hz1 hz2 rfl (by decide) _ 0 (kcells []) hs hown ad ks.length c (kcells ks) hx (kcells_len ks) (hl.cells ad rfl) (kcells_one ks) (by unfold maxLen; omega) (by omega) hbase ?_
    intro v' w' ho' hg' hn'
    have hbel : Below base w w' := (Below.refl _ _).grown hg' hbase (fun k hk => by
      rcases hown.2 with ⟨h0, _⟩ | ⟨g', c', cur, hv, hgg, _⟩
      · rw [h0] at hk; cases hk
      · rw [hv] at hk; cases hk; exact hgg)
    have ho2 : w'.ownsRow base 23 3 v' (0 + ks.length) (kcells ks) := by simpa [kcells] using ho'
    obtain ⟨a', c', rfl, hA, hF⟩ := own_args (ks := ks) ho2 hf
    exact h a' c' w' hA hF (own_args_tag ho2) hbel

set_option maxHeartbeats 4000000 in
theorem copy_at (a : Option Addr) (cap : Nat) (xs : List Fv) (w : World) (hl : Lies w a cap xs) (hx : ∀ x ∈ xs, Fv.At w x) : Calls Try.prog 19 #[.slice a xs.length cap] w
    fun e w' => ∃ a' c' zs, e = .returned (.slice a' zs.length c') ∧ OwnF w' w.heap.size a' c' zs ∧ (∀ z ∈ zs, Fv.At w' z) ∧ zs.map Fv.f = xs.map Fv.f ∧ Below w.heap.size w w' := by
  have few := hl.few
  go_enter Try.func19, Try.ntmps19
  go_wp2_with fail
  go_loopw [3, 4, 5] (fun v3 v4 _ wr => ∃ (k : Nat) (Z : List Fv), v4 = .int .i64 (k : Int) ∧ k ≤ xs.length ∧ Hid (Z.length = k) ∧ wr.ownsRow w.heap.size 30 4 v3 Z.length (fcells Z) ∧ (∀ z ∈ Z, Fv.At wr z ∧ Fv.Tag wr z) ∧ Hid (Z.map Fv.f = (xs.take k).map Fv.f) ∧ Below w.heap.size w wr) (fun _ v4 _ _ => xs.length - (intOf v4).toNat)
  case atStart => exact ⟨0, [], rfl, by omega, rfl, ⟨rfl, .inl ⟨rfl, rfl⟩⟩, fun _ h => by simp at h, rfl, Below.refl _ _⟩
  case round =>
    obtain ⟨k, Z, rfl, hk, hZ, hown, hat, hf, hb⟩ := hrel
    by_cases hlt : k < xs.length
    · have q2 : (k : Int) < (xs.length : Int) := by omega
      obtain ⟨P1, O1, rfl⟩ := hl.addr (Nat.lt_of_le_of_lt (Nat.zero_le _) hlt)
      obtain ⟨a1, a2, a3, a4⟩ := (hl.below hb (Nat.le_refl _)).get k hlt
      have hA := (hx _ (List.getElem_mem hlt)).below hb (Nat.le_refl _)
      have hst : Hid ((xs.take (k + 1)).map Fv.f = (xs.take k).map Fv.f ++ [(xs[k]'hlt).f]) := by
        show _ = _
        rw [List.take_succ_eq_append_getElem hlt, List.map_append]; rfl
      generalize (xs[k]'hlt) = p at *
      obtain ⟨x1, x2, x3, xa, xc, xk⟩ := p
      simp only at a1 a2 a3 a4
      have hA1 : ∀ o o' : Obj, ArgsAt ((wr.alloc o).alloc o') xa xc xk := fun o o' => ArgsAt.below hA (Below.then (below_alloc _ _) (below_alloc _ _)) (Nat.le_refl _)
      have ho1 := ownsArgs_empty (wr.alloc (.cells #[str x1, str x2, str x3, .slice xa xk.length xc] 30))
      have S1 : (wr.alloc (.cells #[str x1, str x2, str x3, .slice xa xk.length xc] 30)).heap.size = wr.heap.size + 1 := by simp
      rw [S1] at ho1
      have hb1 : wr.heap.size + 1 ≤ ((wr.alloc (.cells #[str x1, str x2, str x3, .slice xa xk.length xc] 30)).alloc (.cells #[] 23)).heap.size := by simp
      have H1 := (heap_alloc2 wr (.cells #[str x1, str x2, str x3, .slice xa xk.length xc] 30) (.cells #[] 23)).1
      have hown1 := ownsRow_below hown (Below.then (below_alloc wr (.cells #[str x1, str x2, str x3, .slice xa xk.length xc] 30)) (below_alloc _ (.cells #[] 23)))
      have hb2 : Below wr.heap.size wr ((wr.alloc (.cells #[str x1, str x2, str x3, .slice xa xk.length xc] 30)).alloc (.cells #[] 23)) := Below.then (below_alloc _ _) (below_alloc _ _)
      clear S1
      go_wp2_with (at_builtin; refine wpList_append_ks0 _ rfl _ _ rfl (wr.heap.size + 1) (.slice (some ⟨wr.heap.size + 1, 0, none⟩) 0 0) xk xa xc rfl ho1 rfl (hA1 _ _) hb1 ?ap)
      case ap =>
        intro a' c' w3 hA3 hF3 hT3 hB3
        have H3 := (hB3.block wr.heap.size (by omega)).trans H1
        have hb3 : Below wr.heap.size wr w3 := hb2.trans (hB3.mono (by omega))
        have b0 := heap_cell H3 0; have b1 := heap_cell H3 1; have b2 := heap_cell H3 2; have b3 := heap_cell H3 3; have b4 := heap_frozen H3 3
        simp at b0 b1 b2 b3
        have hb4 : Below wr.heap.size wr (w3.setCell ⟨wr.heap.size, 3, none⟩ (.slice a' xk.length c')) := hb3.setCell (p := ⟨wr.heap.size, 3, none⟩) (Nat.le_refl _) _
        have hA4 : ArgsAt (w3.setCell ⟨wr.heap.size, 3, none⟩ (.slice a' xk.length c')) a' c' xk := hA3.setCell _ _ (fun ad ha => by have := hF3 ad ha; simp only; omega)
        have hb5 := Below.then hb4 (below_alloc (w3.setCell ⟨wr.heap.size, 3, none⟩ (.slice a' xk.length c')) (.cells #[str x1, str x2, str x3, .slice a' xk.length c'] 30))
        have hA5 := hA4.below (below_alloc (w3.setCell ⟨wr.heap.size, 3, none⟩ (.slice a' xk.length c')) (.cells #[str x1, str x2, str x3, .slice a' xk.length c'] 30)) (Nat.le_refl _)
        have hown5 := ownsRow_below hown hb5
        have hL5 := lies_new (w3.setCell ⟨wr.heap.size, 3, none⟩ (.slice a' xk.length c')) #[str x1, str x2, str x3, .slice a' xk.length c'] 30 [(⟨x1, x2, x3, a', c', xk⟩ : Fv)] rfl (by simp)
        have S5 : (w3.setCell ⟨wr.heap.size, 3, none⟩ (.slice a' xk.length c')).heap.size = w3.heap.size := by simp
        rw [S5] at hL5
        have hbase5 : w.heap.size ≤ ((w3.setCell ⟨wr.heap.size, 3, none⟩ (.slice a' xk.length c')).alloc (.cells #[str x1, str x2, str x3, .slice a' xk.length c'] 30)).heap.size := Nat.le_trans hb.size hb5.size
        have hf5 : Z.length + [(⟨x1, x2, x3, a', c', xk⟩ : Fv)].length ≤ 1954687338211 := by have := hZ.out; simp; omega
        have hat5 := fun z hz => (⟨(hat z hz).1.below hb5 (Nat.le_refl _), (hat z hz).2.below hb5⟩ : Fv.At _ z ∧ Fv.Tag _ z)
        have hT5 : Fv.Tag ((w3.setCell ⟨wr.heap.size, 3, none⟩ (.slice a' xk.length c')).alloc (.cells #[str x1, str x2, str x3, .slice a' xk.length c'] 30)) ⟨x1, x2, x3, a', c', xk⟩ := fun ad ha => by
          obtain ⟨cur, hc⟩ := hT3 ad ha
          have := hF3 ad ha
          exact ⟨cur, (Below.heap_alloc _ _ _ (by simpa using heap_lt hc)).trans ((Below.heap_setCell _ _ _ _ (by simp only; omega)).trans hc)⟩
        clear hA3 H3 hb3 hb4 hA4 H1 ho1 hown1 hb1 hb2 hA1 S5 hB3
        go_wp2_with (at_builtin; refine wpList_append_fs _ rfl _ _ rfl w.heap.size u3 Z [(⟨x1, x2, x3, a', c', xk⟩ : Fv)] (some ⟨w3.heap.size, 0, none⟩) 1 rfl hown5 rfl hL5 hbase5 hf5 ?ap2)
        case ap2 =>
          intro v6 w6 ho6 hg6
          have hown6 : w6.ownsRow w.heap.size 30 4 v6 (Z ++ [(⟨x1, x2, x3, a', c', xk⟩ : Fv)]).length (fcells (Z ++ [(⟨x1, x2, x3, a', c', xk⟩ : Fv)])) := by simpa using ho6
          have hat6 : ∀ z ∈ Z ++ [(⟨x1, x2, x3, a', c', xk⟩ : Fv)], Fv.At w6 z ∧ Fv.Tag w6 z := fun z hz => by
            rcases List.mem_append.1 hz with hz | hz
            · exact keep_grown hown5 hg6 (hat5 z hz).1 (hat5 z hz).2
            · rw [List.mem_singleton] at hz; subst hz
              exact keep_grown hown5 hg6 hA5 hT5
          have B6 : Below w.heap.size w w6 := (hb.trans (hb5.mono hb.size)).trans ((Below.refl _ _).grown hg6 hbase5 (fun j hj => by
            rcases hown5.2 with ⟨h0, _⟩ | ⟨g', c', cur, hv, hgg, _⟩
            · rw [h0] at hj; cases hj
            · rw [hv] at hj; cases hj; exact hgg))
          clear hat5 hown5 hg6 ho6
          go_wp2_with fail
          refine ⟨⟨k + 1, Z ++ [(⟨x1, x2, x3, a', c', xk⟩ : Fv)], by simp, by omega, ?_, ?_, hat6, ?_, B6⟩, by simp [intOf]; omega⟩
          · show _ = _; rw [List.length_append, hZ.out]; rfl
          · exact hown6
          · show _ = _; rw [List.map_append, hf.out, hst.out]; rfl
    · have q2 : ¬ (k : Int) < (xs.length : Int) := by omega
      obtain ⟨a', c', rfl, hO⟩ := own_facts hown (by have := hZ.out; omega)
      have Hf : Hid (Z.map Fv.f = xs.map Fv.f) := by
        show _ = _
        rw [hf.out, List.take_of_length_le (by omega)]
      go_wp2_with fail
      go_ret
      exact ⟨a', c', Z, rfl, hO, fun z hz => (hat z hz).1, Hf.out, hb⟩

end Go.Proofs.Ytdlhleblolcjpaa
