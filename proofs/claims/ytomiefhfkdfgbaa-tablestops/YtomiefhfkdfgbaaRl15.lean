/-
  In a round, as everywhere: a region that draws its order. The reference's Spoil of one fact. begin.
-/
import Derived.Test.YtomiefhfkdfgbaaCy15
import Derived.Test.YtomiefhfkdfgbaaSw15
namespace Go.Proofs.Ytomiefhfkdfgbaa
open Go.RowKit Go.Shelf Go.Sort

theorem op_round {P : Program} {ops : Array Oper} {Q : Exit → Act → World → Prop} {l i : Nat} {K K' : Act → World → Prop} {a : Act} {w : World} (hQ : ¬ LetsOut Q) (hnd : Rh.noDefer ops = true) (hK : ∀ a w, K a w → K' a w) (h : wpOp P ops Q i K a w) : wpOpIn (Rh.FF l) 0 P ops Q i K' a w := by
  unfold wpOp at h
  cases hi : ops[i]? with
  | none =>
    rw [hi] at h
    unfold wpOpIn
    rw [hi]
    exact hK _ _ h
  | some o =>
    rw [hi] at h
    simp only at h
    split at h
    · rename_i hw
      refine Rh.op_in hnd hi hw ?_
      rcases h with h | ⟨_, h⟩
      · unfold Oper.wp at h
        generalize (execOp a.eval o).run P w = r at h
        cases r with
        | ok nx w' =>
          cases nx with
          | value v => exact hK _ _ h
          | skip => exact hK _ _ h
          | defer d => exact hK _ _ h
          | enter f args =>
            refine ⟨(fun q => by cases q), CallsIn.inRound l ((callsIn_wide.2 (show Calls P f args w' _ from h)).mono fun e w2 he => ?_)⟩
            cases e with
            | returned v => exact hK _ _ he
            | panicked ch => exact he
            | outgrown => exact he
          | row rw_ args =>
            refine ⟨(fun q => by cases q), fun c cs _ => ?_⟩
            obtain ⟨v, w2, hr, hs⟩ := (show Rows P rw_ args w' _ from h) c cs
            exact ⟨v, w2, hK _ _ hr, stepsIn_wide.2 hs⟩
          | round => exact h.elim
          | _ => exact h.elim
        | halt st w' =>
          cases st with
          | panic v => exact h
          | _ => exact h.elim
      · exact absurd h hQ
    · rename_i hw
      unfold wpOpIn
      rw [hi]
      simp only [hw]
      exact ⟨fun _ _ => trivial, hK _ _ h⟩
theorem any_round {P : Program} {ops : Array Oper} {Q : Exit → Act → World → Prop} {l : Nat} {md : Region.Mode} (hQ : ¬ LetsOut Q) (hnd : Rh.noDefer ops = true) : ∀ (fuel : Nat) (listed : Array Bool) (a : Act) (w : World), wpAny P md ops Q fuel listed a w → wpAnyIn (Rh.FF l) 0 P md ops Q fuel listed a w
  | 0, _, _, _, h => h
  | fuel + 1, _, _, _, h => ⟨h.1, fun i hi => op_round hQ hnd (fun a w => any_round hQ hnd fuel _ a w) (h.2 i hi)⟩
/-- a region that draws its order, walked as everywhere -/
theorem round_drawn {P : Program} {id l : Nat} {ops : Array Oper} {Q : Exit → Act → World → Prop} {S : World → Prop} {a : Act} {w : World} (hm : P.follows .mixedOrders = true) (hQ : ¬ LetsOut Q) (hnd : Rh.noDefer ops = true)
    (h : wpAnyH P .any ops Q S ops.size (Array.replicate ops.size false) a w.drew) : (Code.region id ops true).wpIn (Fence.wide.inRound l) 0 P Q a w :=
  wpIn_region_any hm (any_round hQ hnd _ _ _ _ (wpAny_of_held _ _ _ _ h))

/-- the cells of a row may be written -/
def There (w : World) (ad : Addr) (n : Nat) : Prop := ∀ j, j < n → (w.cell? (ad.add j)).isSome = true ∧ w.frozen? (ad.add j) = false
theorem There.of {w : World} {ad : Addr} {c : Nat} {ks : List K} (h : RowT kK 50 w (some ad) c ks) : There w ad (ks.length * 3) := fun j hj => by
  obtain ⟨cur, hc⟩ := h.tag ad rfl
  obtain ⟨u, hu⟩ : ∃ u, (ks.flatMap kK.enc)[j]? = some u := ⟨_, List.getElem?_eq_getElem (by rw [flat_len kK.enc kK.k kK.len]; exact hj)⟩
  have h1 := h.row.cells ad rfl j u hu
  refine ⟨by rw [h1]; rfl, ?_⟩
  unfold World.frozen?
  rw [addr_add_block, hc]
  simp
theorem There.setCell {w : World} {ad : Addr} {n : Nat} (h : There w ad n) (p : Addr) (u : Value) : There (w.setCell p u) ad n := fun j hj => by
  obtain ⟨h1, h2⟩ := h j hj
  obtain ⟨v, hv⟩ := Option.isSome_iff_exists.1 h1
  obtain ⟨v', hv'⟩ := cell?_setCell_some (p := p) (x := u) hv
  exact ⟨by rw [hv']; rfl, by simpa using h2⟩

set_option maxRecDepth 100000 in
set_option maxHeartbeats 4000000 in
theorem spoil1_at (k : Nat) (z : Fv) (w : World) (H : w.heap[k]? = some (.cells (fv z).toArray 34)) (R : RowT kK 50 w z.a z.cap z.ks) :
    Calls Try.prog 31 #[.slice (some ⟨k, 0, none⟩) 1 1] w fun e w' => e = .returned (.tuple #[]) ∧ (w = w' ∨ ∃ ad, z.a = some ad ∧ But ad.block w w') := by
  have kf := R.row.few
  have hdone : ∀ W', But k W' W' := fun W' => But.refl _ _
  cases ha : z.a with
  | none =>
    rw [ha] at R
    obtain ⟨hk0, _⟩ := R.row.void rfl
    obtain ⟨c0, c1, c2, c3⟩ := fv_cells H
    rw [ha, hk0] at c3
    go_enter Try.func31, Try.ntmps31
    go_wp2_with fail
    go_loopw [2, 3] (fun v _ wr => ∃ i : Nat, v = .int .i64 (i : Int) ∧ i ≤ 1 ∧ w = wr) (fun v _ _ => 1 - (intOf v).toNat)
    case atStart => exact ⟨0, rfl, by omega, rfl⟩
    case round =>
      obtain ⟨i, rfl, hi, rfl⟩ := hrel
      rcases (show i = 0 ∨ i = 1 by omega) with rfl | rfl
      · go_wp2_with fail
        go_loopw [3] (fun v wi => v = .int .i64 0 ∧ w = wi) (fun _ _ => 0)
        case atStart => exact ⟨rfl, rfl⟩
        case round =>
          obtain ⟨rfl, rfl⟩ := hrel
          go_wp2_with fail
          exact ⟨⟨1, rfl, by omega, by first | rfl | trivial⟩, by simp [intOf]⟩
      · go_wp2_with fail
        go_end0
        exact ⟨rfl, .inl rfl⟩
  | some ad =>
    rw [ha] at R
    have hth := There.of R
    have hne : k ≠ ad.block := fun e => by
      obtain ⟨cur, hc⟩ := R.tag ad rfl
      rw [← e, H] at hc
      cases hc
    have hblk := R.row
    clear R
    go_enter Try.func31, Try.ntmps31
    go_wp2_with fail
    go_loopw [2, 3] (fun v _ wr => ∃ i : Nat, v = .int .i64 (i : Int) ∧ i ≤ 1 ∧ There wr ad (z.ks.length * 3) ∧ But ad.block w wr) (fun v _ _ => 1 - (intOf v).toNat)
    case atStart => exact ⟨0, rfl, by omega, hth, But.refl _ _⟩
    case round =>
      obtain ⟨i, rfl, hi, hT, hb⟩ := hrel
      rcases (show i = 0 ∨ i = 1 by omega) with rfl | rfl
      · go_wp2_with fail
        go_loopw [3] (fun v wi => ∃ j : Nat, v = .int .i64 (j : Int) ∧ j ≤ z.ks.length ∧ There wi ad (z.ks.length * 3) ∧ But ad.block w wi) (fun v _ => z.ks.length - (intOf v).toNat)
        case atStart => exact ⟨0, rfl, by omega, hT, hb⟩
        case round =>
          obtain ⟨j, rfl, hj, hT2, hb2⟩ := hrel
          obtain ⟨c0, c1, c2, c3⟩ := fv_cells ((hb2.block k (heap_lt H) hne).trans H)
          rw [ha] at c3
          by_cases hj2 : j < z.ks.length
          · have q3 : (j : Int) < (z.ks.length : Int) := by omega
            obtain ⟨B, O, hpa⟩ := ArgsAt.addr (row_args hblk) (Nat.lt_of_le_of_lt (Nat.zero_le _) hj2)
            obtain rfl := Option.some.inj hpa
            have t0 := hT2 (j * 3) (by omega)
            have t1 := hT2 (j * 3 + 1) (by omega)
            have t2 := hT2 (j * 3 + 2) (by omega)
            rw [Addr.add_lit] at t0 t1 t2
            rw [← Nat.add_assoc] at t1 t2
            obtain ⟨u0, s0⟩ := Option.isSome_iff_exists.1 t0.1
            obtain ⟨u1, s1⟩ := Option.isSome_iff_exists.1 t1.1
            obtain ⟨u2, s2⟩ := Option.isSome_iff_exists.1 t2.1
            have f0 := t0.2; have f1 := t1.2; have f2 := t2.2
            clear t0 t1 t2
            go_wp2_with fail
            refine ⟨⟨j + 1, by simp, by omega, ?_, ?_⟩, by simp [intOf]; omega⟩
            · exact ((hT2.setCell _ _).setCell _ _).setCell _ _
            · exact ((hb2.set _ _).set _ _).set _ _
          · have q3 : ¬ (j : Int) < (z.ks.length : Int) := by omega
            go_wp2_with fail
            exact ⟨⟨1, rfl, by omega, hT2, hb2⟩, by simp [intOf]⟩
      · go_wp2_with fail
        go_end0
        exact ⟨rfl, .inr ⟨_, rfl, hb⟩⟩

set_option maxRecDepth 100000 in
theorem begin_at (a : Option Addr) (n c : Nat) (stop : Int) (w : World) (hc : n ≤ c) :
    Calls Try.prog 22 #[.slice a n c, .int .i64 stop] w fun e w' => e = .returned (.slice a (if 0 ≤ stop ∧ stop < (n : Int) then stop.toNat else n) c) ∧ w = w' := by
  go_enter Try.func22, Try.ntmps22
  by_cases h1 : stop < 0
  · rw [if_neg (by omega)]
    go_wp2_with fail
    go_ret
    exact ⟨rfl, rfl⟩
  · by_cases h2 : (n : Int) < stop
    · rw [if_neg (by omega)]
      go_wp2_with fail
      go_ret
      exact ⟨rfl, rfl⟩
    · obtain ⟨m, rfl⟩ : ∃ m : Nat, stop = (m : Int) := ⟨stop.toNat, by omega⟩
      have hm : (if 0 ≤ (m : Int) ∧ (m : Int) < (n : Int) then (m : Int).toNat else n) = m := by
        split
        · simp
        · omega
      rw [hm]
      have hmn : m ≤ c := by omega
      go_wp2_with fail
      go_ret
      exact ⟨rfl, rfl⟩
end Go.Proofs.Ytomiefhfkdfgbaa
