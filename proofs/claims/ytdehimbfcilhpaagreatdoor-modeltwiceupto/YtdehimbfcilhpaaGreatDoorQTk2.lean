/-
  What a literal took: sorted, each once.
-/
import Derived.Test.YtdehimbfcilhpaaGreatDoorQTk1
namespace Go.Proofs.YtdehimbfcilhpaaGreatDoor
open Go.RowKit Go.Sort

theorem Tk.At.below {w w' : World} {x : Tk} {B : Nat} (h : Tk.At w x) (hb : Below B w w') (hB : w.heap.size ≤ B) : Tk.At w' x := Row.below h hb hB
/-- A ROW OF FACTS from the head of block b on, that may be written -/
def RowK2 (w : World) (b : Nat) (xs : List Tk) : Prop := ∀ i (hi : i < xs.length) c, c < 2 → w.cell? ⟨b, i * 2 + c, none⟩ = (tkv xs[i])[c]? ∧ w.frozen? ⟨b, i * 2 + c, none⟩ = false
theorem RowK2.below {w w' : World} {b : Nat} {xs : List Tk} {B : Nat} (h : RowK2 w b xs) (hb : Below B w w') (hB : b < B) : RowK2 w' b xs := fun i hi c hc => by
  rw [hb.cell (p := ⟨b, i * 2 + c, none⟩) hB, hb.frozen (p := ⟨b, i * 2 + c, none⟩) hB]; exact h i hi c hc
theorem RowK2.get {w : World} {b : Nat} {xs : List Tk} (h : RowK2 w b xs) (i : Nat) (hi : i < xs.length) :
    w.cell? ⟨b, i * 2, none⟩ = some (.int .i64 (xs[i].i : Int)) ∧ w.cell? ⟨b, i * 2 + 1, none⟩ = some (.slice xs[i].a xs[i].ks.length xs[i].cap) :=
  ⟨(h i hi 0 (by omega)).1, (h i hi 1 (by omega)).1⟩
theorem RowK2.thaw {w : World} {b : Nat} {xs : List Tk} (h : RowK2 w b xs) (i : Nat) (hi : i < xs.length) : w.frozen? ⟨b, i * 2, none⟩ = false ∧ w.frozen? ⟨b, i * 2 + 1, none⟩ = false := ⟨(h i hi 0 (by omega)).2, (h i hi 1 (by omega)).2⟩
theorem RowK2.store {w : World} {b : Nat} {ys : List Tk} (h : RowK2 w b ys) (k : Nat) (hk : k < ys.length) (x : Tk) :
    RowK2 ((w.setCell ⟨b, k * 2, none⟩ (.int .i64 (x.i : Int))).setCell ⟨b, k * 2 + 1, none⟩ (.slice x.a x.ks.length x.cap)) b (ys.set k x) := by
  obtain ⟨c0, c1⟩ := h.get k hk
  intro i hi c hc
  rw [List.length_set] at hi
  obtain ⟨h1, h2⟩ := h i hi c hc
  refine ⟨?_, by simpa using h2⟩
  by_cases e : k = i
  · subst e
    rw [List.getElem_set_self]
    match c, hc with
    | 0, _ => simp [World.cell?_setCell_other, World.cell?_setCell_same', c0, tkv]
    | 1, _ => simp [World.cell?_setCell_other, World.cell?_setCell_same', c1, tkv]
  · rw [List.getElem_set_ne e, ← h1]
    rw [World.cell?_setCell_other, World.cell?_setCell_other]
    all_goals (simp only [ne_eq, Addr.mk.injEq, not_and]; intros; omega)
/-! the sort -/
/-- a fact whose Args lie in w0 -/
abbrev InT (P : Tk → Prop) : Type := { x : Tk // P x }
abbrev encInT (P : Tk → Prop) (x : InT P) : List Value := tkv x.1
def allInT (P : Tk → Prop) (xs : List Tk) (h : ∀ x ∈ xs, P x) : List (InT P) := xs.pmap Subtype.mk h
theorem allInT_val (P : Tk → Prop) (xs : List Tk) (h : ∀ x ∈ xs, P x) : (allInT P xs h).map (·.1) = xs := by
  unfold allInT; rw [List.map_pmap]; simp
theorem rowT_holdsK (P : Tk → Prop) (w : World) [Inhabited (InT P)] (b : Nat) (d : List (InT P)) : RowK2 w b (d.map (·.1)) ↔ HoldsK (encInT P) 2 w b 0 d.toArray := by
  constructor
  · intro h t ht
    rw [size_flatK] at ht
    have ht' : t < d.length * 2 := by simpa using ht
    have hi : t / 2 < d.length := by omega
    have h1 := h (t / 2) (by simpa using hi) (t % 2) (Nat.mod_lt _ (by decide))
    rw [show 0 + t = t / 2 * 2 + t % 2 by omega]
    refine ⟨?_, h1.2⟩
    rw [h1.1, get_flatK _ _ _ _ ht, getElem!_pos d.toArray (t / 2) (by simpa using hi)]
    have hc : t % 2 < (tkv d[t / 2].1).length := by rw [tkv_len]; omega
    simp only [List.getElem_map, List.getElem_toArray, encInT, id]
    rw [List.getElem?_eq_getElem hc, getElem!_pos (tkv d[t / 2].1) _ hc]
  · intro h i hi c hc
    have hi' : i < d.length := by simpa using hi
    have := h.cell (i := i) (c := c) (by simpa using hi') hc
    rw [Nat.zero_add] at this
    refine ⟨?_, this.2⟩
    rw [this.1, getElem!_pos d.toArray i (by simpa using hi')]
    have hc' : c < (tkv d[i].1).length := by rw [tkv_len]; omega
    simp only [List.getElem_map, List.getElem_toArray, encInT]
    rw [List.getElem?_eq_getElem hc', getElem!_pos (tkv d[i].1) _ hc']

def SortedT (ys : List Tk) : Prop := ∀ i j (hi : i < ys.length) (hj : j < ys.length), i < j → cTk ys[i] ys[j] ≤ 0

/-- what a literal took is known in every world in which but block blk nothing turned -/
def KeptT (blk : Nat) (w : World) (x : Tk) : Prop := ∀ W, But blk w W → Tk.At W x
theorem sortT_at (w : World) (blk cap : Nat) (xs : List Tk) (hxs : ∀ x ∈ xs, KeptT blk w x) (hrow : RowK2 w blk xs) (hblk : blk < w.heap.size) (hlen : xs.length < 4611686018427387904) :
    Calls Tryz.prog 144 #[.slice (some ⟨blk, 0, none⟩) xs.length cap, .func (.func 145) #[] #[]] w fun e w' => e = .returned (.tuple #[]) ∧ ∃ ys : List Tk, ys.Perm xs ∧ SortedT ys ∧ RowK2 w' blk ys ∧ But blk w w' := by
  have eg : ∀ args w, (callFunc 145 args).run Tryz.prog w = .ok (.enter 145 args) w := enters_of Tryz.func145 (by kernel_rfl) rfl
  haveI : Inhabited (InT (KeptT blk w)) := ⟨⟨⟨0, none, 0, []⟩, fun W _ => Row.nil bK W⟩⟩
  have hd : (allInT (KeptT blk w) xs hxs).length = xs.length := by rw [← List.length_map (f := fun x : InT (KeptT blk w) => x.1), allInT_val]
  have hH : HoldsK (encInT (KeptT blk w)) 2 w blk 0 (allInT (KeptT blk w) xs hxs).toArray := (rowT_holdsK (KeptT blk w) w blk _).1 (by rw [allInT_val]; exact hrow)
  have hpre := pre_cTk.on (fun x : InT (KeptT blk w) => x.1)
  have hcmp : CmpLays Tryz.prog 145 #[] (encInT (KeptT blk w)) 2 (fun x y => cTk x.1 y.1) blk 0 (allInT (KeptT blk w) xs hxs).toArray.size w := fun m os dk _ x y => by
    have hbw : But blk w (sortWorldK (encInT (KeptT blk w)) 2 w blk 0 m dk os) := but_sortWorldK _ _ _ _ _ _ _ _
    exact order1_at x.1 y.1 _ (x.2 _ hbw) (y.2 _ hbw)
  have hO : SWO (ltOf fun x y : InT (KeptT blk w) => cTk x.1 y.1) := by
    refine ⟨fun x => ?_, fun x y z h1 h2 => ?_, fun x y z h1 h2 => ?_⟩
    · show decide (cTk x.1 x.1 < 0) = false; rw [hpre.refl x]; rfl
    · simp only [ltOf, decide_eq_true_eq] at *; exact hpre.lt_of_lt_of_le h1 (Int.le_of_lt h2)
    · simp only [ltOf, decide_eq_false_iff_not, Int.not_lt] at *
      have a1 := hpre.anti x y; have a2 := hpre.anti y z; have a3 := hpre.anti x z
      have := hpre.trans z y x (by omega) (by omega)
      omega
  have := AnyQ.slices_SortFunc Tryz.sortT 2 Tryz.isAgg193 Tryz.sizeOf193 (encInT (KeptT blk w)) (fun x => tkv_len x.1) (fun x v hv => tkv_one x.1 v hv) (fun x y => cTk x.1 y.1) hO 145 #[] blk 0 cap (allInT (KeptT blk w) xs hxs).toArray w eg hcmp hH hblk (by simpa [hd] using hlen)
  rw [List.size_toArray, hd] at this
  refine this.mono fun e w' ⟨h1, d', n, os, hp, hs, hw⟩ => ⟨h1, d'.toList.map (·.1), ?_, ?_, ?_, ?_⟩
  · have hsz : d'.size = xs.length := by rw [hp.1, List.size_toArray, hd]
    have h3 := hp.2.2
    have e1 : d'.extract 0 xs.length = d' := by rw [← hsz]; exact Array.extract_size
    have e2 : (allInT (KeptT blk w) xs hxs).toArray.extract 0 xs.length = (allInT (KeptT blk w) xs hxs).toArray := by
      have := Array.extract_size (xs := (allInT (KeptT blk w) xs hxs).toArray)
      rwa [List.size_toArray, hd] at this
    rw [e1, e2] at h3
    have := h3.map (fun x : InT (KeptT blk w) => x.1)
    rwa [List.toList_toArray, allInT_val] at this
  · have hsz : d'.size = xs.length := by rw [hp.1, List.size_toArray, hd]
    intro i j hi hj hij
    rw [List.length_map, Array.length_toList] at hi hj
    have h3 := hs i j (Nat.zero_le _) hij (by omega)
    rw [getElem!_pos d' i hi, getElem!_pos d' j hj] at h3
    simp only [ltOf, decide_eq_false_iff_not, Int.not_lt] at h3
    simp only [List.getElem_map, Array.getElem_toList]
    have := pre_cTk.anti d'[i].1 d'[j].1
    omega
  · rw [rowT_holdsK (KeptT blk w), Array.toArray_toList, hw]
    exact holdsK_sortWorldK_c (encInT (KeptT blk w)) 2 w blk 0 (allInT (KeptT blk w) xs hxs).toArray d' n os hH hblk hp.1
  · rw [hw]; exact but_sortWorldK _ _ _ _ _ _ _ _

theorem sortT_none (p : Option Addr) (cap : Nat) (f : Value) (w : World) : Calls Tryz.prog 144 #[.slice p 0 cap, f] w fun e w' => e = .returned (.tuple #[]) ∧ w = w' :=
  (AnyF.slices_SortFunc_none Tryz.sortT p cap f w).mono fun _ _ ⟨h1, h2⟩ => ⟨h1, h2.symm⟩

theorem clear_tk (w : World) (b o n c : Nat) (hn : 0 < n) (hc : ∀ j, j < n * 2 → (w.cell? ⟨b, o + j, none⟩).isSome = true) (hf : ∀ j, j < n * 2 → w.frozen? ⟨b, o + j, none⟩ = false) :
    ∃ Z : List Value, Z.length = n * 2 ∧ ∀ ty, (Builtin.clear_ #[190] ty #[.slice (some ⟨b, o, none⟩) n c]).run Tryz.prog w = .ok (.tuple #[]) (w.setCells b o Z) :=
  run_clear_any 190 193 #[.int .i64 0, .slice none 0 0] 2 Tryz.underlying190 rfl (by decide) (fun i hi => by
    match i, hi with
    | 0, _ => rfl
    | 1, _ => rfl) Tryz.zeroValue193 w b o n c hn fun j hj => ⟨hc j hj, hf j hj⟩
/-- what stands ahead of what is cleared -/
theorem RowK2.head {w : World} {b : Nat} {xs ys : List Tk} (h : RowK2 w b (xs ++ ys)) (Z : List Value) : RowK2 (w.setCells b (xs.length * 2) Z) b xs := fun i hi c hc => by
  obtain ⟨h1, h2⟩ := h i (by rw [List.length_append]; omega) c hc
  rw [List.getElem_append_left hi] at h1
  refine ⟨?_, by rw [frozen_setCells]; exact h2⟩
  rw [World.cell?_setCells_out, h1]
  intro _ _
  left
  show i * 2 + c < xs.length * 2
  omega
theorem RowK2.take {w : World} {b : Nat} {xs ys : List Tk} (h : RowK2 w b (xs ++ ys)) : RowK2 w b xs := fun i hi c hc => by
  have := h i (by rw [List.length_append]; omega) c hc
  rwa [List.getElem_append_left hi] at this
theorem RowK2.some {w : World} {b : Nat} {xs : List Tk} (h : RowK2 w b xs) (j : Nat) (hj : j < xs.length * 2) : (w.cell? ⟨b, j, none⟩).isSome = true ∧ w.frozen? ⟨b, j, none⟩ = false := by
  have := h (j / 2) (by omega) (j % 2) (Nat.mod_lt _ (by decide))
  rw [show j / 2 * 2 + j % 2 = j by omega] at this
  refine ⟨?_, this.2⟩
  rw [this.1, List.getElem?_eq_getElem (by rw [tkv_len]; omega)]; rfl

/-- the row while the second round is on -/
theorem midT_get (xs L : List Tk) (i : Nat) (hi : i < xs.length) (hL : L.length ≤ i) : (L ++ xs.drop L.length)[i]'(by simp; omega) = xs[i] := by
  rw [List.getElem_append_right hL, List.getElem_drop]
  congr 1; omega
theorem midT_set (xs L : List Tk) (x : Tk) (hL : L.length < xs.length) : (L ++ xs.drop L.length).set L.length x = (L ++ [x]) ++ xs.drop (L ++ [x]).length := by
  rw [List.set_append_right _ _ (Nat.le_refl _), Nat.sub_self, List.drop_eq_getElem_cons hL, List.set_cons_zero, List.append_assoc, List.length_append]
  rfl

set_option maxHeartbeats 8000000 in
theorem compactT_at (w : World) (blk cap : Nat) (xs : List Tk) (hxs : ∀ x ∈ xs, KeptT blk w x) (hrow : RowK2 w blk xs) (hblk : blk < w.heap.size) (hcap : xs.length ≤ cap) (hlen : xs.length < 4611686018427387904) :
    Calls Tryz.prog 147 #[.slice (some ⟨blk, 0, none⟩) xs.length cap, .func (.func 148) #[] #[]] w
      fun e w' => e = .returned (.slice (some ⟨blk, 0, none⟩) (kept cTk xs xs.length).length cap) ∧ RowK2 w' blk (kept cTk xs xs.length) ∧ But blk w w' := by
  have mixed : Tryz.prog.follows .mixedOrders = true := by kernel_rfl
  have eg : ∀ args w, (callFunc 148 args).run Tryz.prog w = .ok (.enter 148 args) w := enters_of Tryz.func148 (by kernel_rfl) rfl
  have hC := fun (x y : Tk) (W : World) (hx : Tk.At W x) (hy : Tk.At W y) => same1_at x y W hx hy
  by_cases h2 : xs.length < 2
  · have q1 : (xs.length : Int) < 2 := by omega
    have hk : kept cTk xs xs.length = xs := by
      rw [kept_all cTk xs xs.length (Nat.le_refl _) (fun j h h0 hk => by omega), List.take_length]
    rw [hk]
    go_enter Tryz.func147, Tryz.ntmps147
    go_wp2_with fail
    go_ret
    exact ⟨rfl, hrow, But.refl _ _⟩
  · have q1 : ¬ (xs.length : Int) < 2 := by omega
    go_enter Tryz.func147, Tryz.ntmps147
    go_wp2_with fail
    go_loopw [5, 6, 7] (fun v _ _ wr => ∃ k : Nat, v = .int .i64 (k : Int) ∧ 1 ≤ k ∧ k ≤ xs.length ∧ Hid (∀ j (h : j < xs.length), 0 < j → j < k → cTk xs[j] (xs[j - 1]'(by omega)) ≠ 0) ∧ Grew w wr) (fun v _ _ _ => xs.length - (intOf v).toNat)
    case atStart => exact ⟨1, rfl, by omega, by omega, fun j _ h0 h => absurd h (by omega), Grew.refl _⟩
    case round =>
      obtain ⟨k, rfl, hk1, hk, hev, hg⟩ := hrel
      by_cases hlt : k < xs.length
      · have q2 : (k : Int) < (xs.length : Int) := by omega
        obtain ⟨m, hm⟩ : ∃ m, k = m + 1 := ⟨k - 1, by omega⟩
        have q3 : IntKind.i64.wrap ((k : Int) - 1) = (m : Int) := by simp [IntKind.wrap, IntKind.bits, IntKind.signed]; omega
        have q4 : (m : Int) < (xs.length : Int) := by omega
        have hml : m < xs.length := by omega
        have em : k - 1 = m := by omega
        have hrow' := hrow.below hg.below hblk
        obtain ⟨a1, a2⟩ := hrow'.get k hlt
        obtain ⟨d1, d2⟩ := hrow'.get m hml
        have hBr : But blk w wr := But.of_below hg.below
        have hxk : Tk.At wr (xs[k]'hlt) := hxs _ (List.getElem_mem _) _ hBr
        have hxj : Tk.At wr (xs[m]'hml) := hxs _ (List.getElem_mem _) _ hBr
        have hn : ∀ n os, Calls Tryz.prog 148 #[Tk.val (xs[k]'hlt), Tk.val (xs[m]'hml)] (grow (wr.drewN n) os) _ := fun n os => hC (xs[k]'hlt) (xs[m]'hml) _ (hxk.grew (Grew.grow _ _ _)) (hxj.grew (Grew.grow _ _ _))
        have A1 := fun n os => cell_grown (cell_block a1) a1 n os
        have A2 := fun n os => cell_grown (cell_block a2) a2 n os
        have D1 := fun n os => cell_grown (cell_block d1) d1 n os
        have D2 := fun n os => cell_grown (cell_block d2) d2 n os
        generalize hp : (xs[k]'hlt) = p at *
        generalize hq : (xs[m]'hml) = q at *
        have Hp := hideP hp; have Hq := hideP hq; have Hm := hideP hm; have Em := hideP em; have HX := hideP hxs; have HC := hideP hC; clear hm em hp hq hC hxk hxj hxs a1 a2 d1 d2
        by_cases hr : cTk p q = 0
        · simp only [hr, decide_true] at hn
          go_wp2_with fail
          go_quiet_grown (first | (go_at_fn 148; refine Calls.grown_of (hn _ _)))
          have G1 : Grew w (grow (wr.drewN nq) osq) := hg.trans (Grew.grow _ _ _)
          generalize grow (wr.drewN nq) osq = w1 at *
          have q5 : ¬ cap = k := by omega
          have q6 : k ≤ cap := by omega
          have q7 : (k : Int) ≤ (cap : Int) := by omega
          have q8 : (k : Int) ≤ (xs.length : Int) := by omega
          go_wp2_with fail
          have hdup : Hid (kept cTk xs (k + 1) = xs.take k) := by
            show _ = _
            rw [kept_dup cTk xs k (by omega) hlt (by simp only [Em.out, Hp.out, Hq.out]; exact hr)]
            exact kept_all cTk xs k (by omega) hev.out
          obtain ⟨n2, hn2⟩ : ∃ n2, xs.length - k = n2 := ⟨_, rfl⟩
          have Hn2 := hideP hn2
          rw [hn2]
          clear hn2 hn A1 A2 D1 D2 hr hev hrow' hBr hg
          go_loopw [5, 7] (fun v5 v7 wi => ∃ (t : Nat) (L : List Tk), 1 ≤ t ∧ t ≤ n2 ∧ v7 = .int .i64 (t : Int) ∧ v5 = .int .i64 (L.length : Int) ∧ Hid (L = kept cTk xs (k + t)) ∧ L.length < k + t ∧ RowK2 wi blk (L ++ xs.drop L.length) ∧ But blk w wi) (fun _ v7 _ => n2 - (intOf v7).toNat)
          case atStart =>
            have := Hn2.out
            have hl : (xs.take k).length = k := by rw [List.length_take]; omega
            exact ⟨1, xs.take k, by omega, by omega, rfl, by rw [hl], hdup.out.symm, by omega, by rw [hl, List.take_append_drop]; exact hrow.below G1.below hblk, (But.refl _ _).below G1.below⟩
          case round =>
            obtain ⟨t, L, ht1, ht, rfl, rfl, hL, hLl, hR, hbut⟩ := hrel
            have hnn := Hn2.out
            by_cases hlt2 : t < n2
            · have q9 : (t : Int) < (n2 : Int) := by omega
              obtain ⟨m2, hm2⟩ : ∃ m2, t = m2 + 1 := ⟨t - 1, by omega⟩
              have qa : IntKind.i64.wrap ((t : Int) - 1) = (m2 : Int) := by simp [IntKind.wrap, IntKind.bits, IntKind.signed]; omega
              have qb : (m2 : Int) < (n2 : Int) := by omega
              have hi : k + t < xs.length := by omega
              have hj : k + m2 < xs.length := by omega
              have hRl : (L ++ xs.drop L.length).length = xs.length := by simp; omega
              have gi := midT_get xs L (k + t) hi (by omega)
              have gj := midT_get xs L (k + m2) hj (by omega)
              have getI : ∀ W, RowK2 W blk (L ++ xs.drop L.length) → W.cell? ⟨blk, k * 2 + t * 2, none⟩ = some (.int .i64 ((xs[k + t]'hi).i : Int)) ∧ W.cell? ⟨blk, k * 2 + t * 2 + 1, none⟩ = some (.slice (xs[k + t]'hi).a (xs[k + t]'hi).ks.length (xs[k + t]'hi).cap) := fun W h => by
                have := h.get (k + t) (by omega)
                rwa [gi, Nat.add_mul] at this
              have getJ : ∀ W, RowK2 W blk (L ++ xs.drop L.length) → W.cell? ⟨blk, k * 2 + m2 * 2, none⟩ = some (.int .i64 ((xs[k + m2]'hj).i : Int)) ∧ W.cell? ⟨blk, k * 2 + m2 * 2 + 1, none⟩ = some (.slice (xs[k + m2]'hj).a (xs[k + m2]'hj).ks.length (xs[k + m2]'hj).cap) := fun W h => by
                have := h.get (k + m2) (by omega)
                rwa [gj, Nat.add_mul] at this
              obtain ⟨a1, a2⟩ := getI _ hR
              obtain ⟨d1, d2⟩ := getJ _ hR
              have hn : ∀ n os, Calls Tryz.prog 148 #[Tk.val (xs[k + t]'hi), Tk.val (xs[k + m2]'hj)] (grow (wr.drewN n) os) _ := fun n os => HC.out (xs[k + t]'hi) (xs[k + m2]'hj) _ ((HX.out _ (List.getElem_mem hi) _ hbut).grew (Grew.grow _ _ _)) ((HX.out _ (List.getElem_mem hj) _ hbut).grew (Grew.grow _ _ _))
              have A1 := fun n os => cell_grown (cell_block a1) a1 n os
              have A2 := fun n os => cell_grown (cell_block a2) a2 n os
              have D1 := fun n os => cell_grown (cell_block d1) d1 n os
              have D2 := fun n os => cell_grown (cell_block d2) d2 n os
              have hdup' := kept_dup cTk xs (k + t) (by omega) hi
              have hnew' := kept_new cTk xs (k + t) (by omega) hi
              have ej : k + t - 1 = k + m2 := by omega
              simp only [ej] at hdup' hnew'
              have Hdup := hideP hdup'; have Hnew := hideP hnew'
              have GetI := hideP getI
              have hblkR : blk < wr.heap.size := cell_block a1
              clear hdup' hnew' a1 a2 d1 d2 getI getJ gi gj
              generalize (xs[k + t]'hi) = p2 at *
              generalize (xs[k + m2]'hj) = r2 at *
              have Hm2 := hideP hm2; have Hej := hideP ej; have HRl := hideP hRl; have Hnn := hideP hnn; clear hm2 ej hRl hnn
              by_cases hr : cTk p2 r2 = 0
              · simp only [hr, decide_true] at hn
                go_wp2_with fail
                go_quiet_grown (first | (go_at_fn 148; refine Calls.grown_of (hn _ _)))
                go_wp2_with fail
                refine ⟨⟨t + 1, L, by omega, by omega, by simp, rfl, ?_, by omega, ?_, ?_⟩, by simp [intOf]; omega⟩
                · show L = _; rw [hL.out]; exact (Hdup.out hr).symm
                · exact hR.below (Grew.grow wr _ _).below hblkR
                · exact hbut.below (Grew.grow wr _ _).below
              · simp only [hr, decide_false] at hn
                go_wp2_with fail
                go_quiet_grown (first | (go_at_fn 148; refine Calls.grown_of (hn _ _)))
                have hbut2 := hbut.below (Grew.grow wr nq osq).below
                have hR2 := hR.below (Grew.grow wr nq osq).below hblkR
                clear A1 A2 D1 D2 hn
                generalize grow (wr.drewN nq) osq = w2 at *
                obtain ⟨a1, a2⟩ := GetI.out _ hR2
                have hl : L.length < (L ++ xs.drop L.length).length := by rw [HRl.out]; omega
                obtain ⟨c1, c2⟩ := hR2.get L.length hl
                obtain ⟨f1, f2⟩ := hR2.thaw L.length hl
                have qc : (L.length : Int) < (xs.length : Int) := by omega
                have hst := hR2.store L.length hl p2
                rw [midT_set xs L p2 (by omega)] at hst
                generalize (L ++ xs.drop L.length)[L.length]'hl = old at *
                go_wp2_with fail
                refine ⟨⟨t + 1, L ++ [p2], by omega, by omega, by simp, by simp, ?_, by simp; omega, ?_, ?_⟩, by simp [intOf]; omega⟩
                · show L ++ [p2] = _; rw [hL.out]; exact (Hnew.out hr).symm
                · exact hst
                · exact (hbut2.set _ _).set _ _
            · have q9 : ¬ (t : Int) < (n2 : Int) := by omega
              have hkt : k + t = xs.length := by omega
              have hRl : (L ++ xs.drop L.length).length = xs.length := by simp; omega
              have qd : L.length < xs.length := by omega
              obtain ⟨Z, hZ, hcl⟩ := clear_tk wr blk (L.length * 2) (xs.length - L.length) (cap - L.length) (by omega)
                (fun j hj => (hR.some (L.length * 2 + j) (by rw [hRl]; omega)).1) (fun j hj => (hR.some (L.length * 2 + j) (by rw [hRl]; omega)).2)
              have qe : (L.length : Int) ≤ (xs.length : Int) := by omega
              have qf : ¬ cap = L.length := by omega
              have qg : (L.length : Int) ≤ (cap : Int) := by omega
              have qh : L.length ≤ cap := by omega
              have HL : Hid (kept cTk xs xs.length = L) := by show _ = _; rw [hL.out, hkt]
              clear hL
              go_wp2_with fail
              go_ret
              rw [HL.out]
              exact ⟨rfl, hR.head Z, hbut.cells Z _ _⟩
        · simp only [hr, decide_false] at hn
          go_wp2_with fail
          go_quiet_grown (first | (go_at_fn 148; refine Calls.grown_of (hn _ _)))
          go_wp2_with fail
          refine ⟨⟨k + 1, by simp, by omega, by omega, fun j h h0 hj => ?_, hg.trans (Grew.grow _ _ _)⟩, by simp [intOf]; omega⟩
          by_cases e : j = k
          · subst e; have e2 := Em.out; simp only [e2, Hp.out, Hq.out]; exact hr
          · exact hev.out j h h0 (by omega)
      · have q2 : ¬ (k : Int) < (xs.length : Int) := by omega
        have hk : kept cTk xs xs.length = xs := by
          rw [kept_all cTk xs xs.length (Nat.le_refl _) (fun j h h0 hk => hev.out j h h0 (by omega)), List.take_length]
        have Hk := hideP hk; clear hk
        go_wp2_with fail
        go_ret
        rw [Hk.out]
        exact ⟨rfl, hrow.below hg.below hblk, (But.refl _ _).below hg.below⟩

end Go.Proofs.YtdehimbfcilhpaaGreatDoor
