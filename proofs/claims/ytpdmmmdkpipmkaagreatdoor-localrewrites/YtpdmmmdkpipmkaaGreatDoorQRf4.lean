/-
  The reference's maybe and atom: what they answer.
-/
import Derived.Test.YtpdmmmdkpipmkaaGreatDoorQRf3
namespace Go.Proofs.YtpdmmmdkpipmkaaGreatDoor
open Go.RowKit Go.Lib Go.Shelf

theorem cat (a b : List UInt8) : ∃ c : List UInt8, Hid (c = a ++ b) ∧ (⟨a.toArray⟩ : ByteArray) ++ ⟨b.toArray⟩ = ⟨c.toArray⟩ ∧ (⟨c.toArray⟩ : ByteArray).size = c.length ∧ c.length = a.length + b.length :=
  ⟨a ++ b, rfl, str_add a b, str_size _, List.length_append⟩
theorem term_row {w : World} {b o c : Nat} {ys : List Tm} (h : Row tK w (some ⟨b, o, none⟩) c ys) (k : Nat) (hk : k < ys.length) :
    w.cell? ⟨b, o + k * 4, none⟩ = some (str ys[k].v) ∧ w.cell? ⟨b, o + k * 4 + 1, none⟩ = some (.bool ys[k].k.num) ∧ w.cell? ⟨b, o + k * 4 + 2, none⟩ = some (.int .i64 ys[k].k.n) ∧ w.cell? ⟨b, o + k * 4 + 3, none⟩ = some (str ys[k].k.s) := by
  have hr := h.range k hk
  exact ⟨hr 0 _ rfl, hr 1 _ rfl, hr 2 _ rfl, hr 3 _ rfl⟩

/-- what maybe answers: a text, which counts where the term can be shown or is none -/
def MayAns (x : List UInt8) (t : Tm) (y : List UInt8) (w : World) (e : Ending) (w' : World) : Prop :=
  (∃ u : List UInt8, e = .returned (.tuple #[str u, .bool (Sh.canM t)]) ∧ u.length ≤ 60 ∧ ∀ s, Sh.maybeS x t y = some s → u = s) ∧ Below w.heap.size w w'
set_option maxRecDepth 100000 in
set_option maxHeartbeats 2000000 in
theorem rmaybe_at (x : List UInt8) (t : Tm) (y : List UInt8) (w : World) (hi : Sh.KIn t) (hx : x.length ≤ 10) (hy : y.length ≤ 10) :
    Calls Tryz.prog 82 #[str x, tval t, str y] w (MayAns x t y w) := by
  have N := hideP (fun W => rnone_at t W)
  have T := hideP (fun W => rterm_at t W hi)
  have HC : Hid (Sh.canM t = (Sh.noneT t || (Sh.termS t).isSome)) := rfl
  have HM : Hid (∀ s, Sh.maybeS x t y = some s → (Sh.noneT t = true ∧ s = []) ∨ (Sh.noneT t = false ∧ ∃ m, Sh.termS t = some m ∧ s = x ++ (m ++ y))) := fun s hs => by
    unfold Sh.maybeS at hs
    split at hs
    · rename_i h0; cases hs; exact .inl ⟨h0, rfl⟩
    · rename_i h0
      obtain ⟨m, hm, rfl⟩ := Option.map_eq_some_iff.1 hs
      exact .inr ⟨by simpa using h0, m, hm, rfl⟩
  have A0 := below_alloc w (.cells (tv t).toArray 44)
  have H0 := heap_alloc_new w (.cells (tv t).toArray 44)
  have zx := str_size x
  have zy := str_size y
  cases hn : Sh.noneT t with
  | true =>
    rw [hn] at N HC
    rw [Bool.true_or] at HC
    have HM2 : Hid (∀ s, Sh.maybeS x t y = some s → s = []) := fun s hs => by
      rcases HM.out s hs with h | h
      · exact h.2
      · rw [hn] at h; cases h.1
    clear HM hn
    go_enter Tryz.func82, Tryz.ntmps82
    go_wp2_with fail
    refine (N.out _).mono ?_
    rintro e w1 ⟨rfl, b1⟩
    go_wp2_with fail
    go_ret2
    exact ⟨⟨[], by rw [HC.out]; rfl, by simp, fun s hs => (HM2.out s hs).symm⟩, Below.then A0 b1⟩
  | false =>
    rw [hn] at N HC
    rw [Bool.false_or] at HC
    have HM2 : Hid (∀ s, Sh.maybeS x t y = some s → ∃ m, Sh.termS t = some m ∧ s = x ++ (m ++ y)) := fun s hs => by
      rcases HM.out s hs with h | h
      · rw [hn] at h; cases h.1
      · exact h.2
    clear HM hn
    go_enter Tryz.func82, Tryz.ntmps82
    go_wp2_with fail
    refine (N.out _).mono ?_
    rintro e w1 ⟨rfl, b1⟩
    have H1 := below_heap b1 H0
    go_wp2_with (refine wpList_load_all rfl 44 _ rfl w.heap.size 4 44 (tv t) _ rfl H1 rfl Tryz.underlying44 rfl Tryz.iT4 ?_)
    refine (T.out w1).mono ?_
    rintro e w2 ⟨rfl, b2⟩
    have B2 := Below.then (Below.then A0 b1) b2
    cases hs : Sh.termS t with
    | none =>
      rw [hs] at HC
      obtain ⟨c1, h1, e1, z1, n1⟩ := cat x []
      obtain ⟨c2, h2, e2, z2, n2⟩ := cat c1 y
      simp only [List.length_nil] at n1
      simp only [sv]
      go_wp2_with fail
      go_ret2
      exact ⟨⟨c2, by rw [HC.out]; rfl, by omega, fun s hs' => by
        obtain ⟨m, hm, _⟩ := HM2.out s hs'
        rw [hs] at hm; cases hm⟩, B2⟩
    | some m =>
      rw [hs] at HC
      have hml := Sh.term_len hi hs
      have zm := str_size m
      obtain ⟨c1, h1, e1, z1, n1⟩ := cat x m
      obtain ⟨c2, h2, e2, z2, n2⟩ := cat c1 y
      simp only [sv]
      have HM3 : Hid (∀ s, Sh.maybeS x t y = some s → c2 = s) := fun s hs' => by
        obtain ⟨m', hm, rfl⟩ := HM2.out s hs'
        rw [hs] at hm; cases hm
        rw [h2.out, h1.out, List.append_assoc]
      clear hs HM2
      go_wp2_with fail
      go_ret2
      exact ⟨⟨c2, by rw [HC.out]; rfl, by omega, HM3.out⟩, B2⟩

def av (r : Option (List UInt8)) : Value := match r with | some s => .tuple #[str s, .bool true] | none => .tuple #[str [], .bool false]
set_option maxRecDepth 100000 in
set_option maxHeartbeats 4000000 in
theorem ratom_at (p : List UInt8) (a : Option Addr) (c : Nat) (ts : List Tm) (w : World) (hr : Row tK w a c ts) (hi : ∀ t ∈ ts, Sh.KIn t) :
    Calls Tryz.prog 81 #[str p, .slice a ts.length c] w fun e w' => e = .returned (av (Sh.atomS p ts)) ∧ Below w.heap.size w w' := by
  have W0 := hideP (fun W => rword_at p W)
  have few := hr.few
  have HA : Hid (Sh.atomS p ts = if Sh.wordB p = true ∧ ts.length ≤ 4 then (Sh.argsS ts).map fun s => p ++ (40 :: (s ++ [41])) else none) := rfl
  cases hw : Sh.wordB p with
  | false =>
    rw [hw] at W0
    have HA2 : Hid (Sh.atomS p ts = none) := by show _ = _; rw [HA.out]; simp [hw]
    clear HA hw
    go_enter Tryz.func81, Tryz.ntmps81
    go_wp2_with (first
      | (go_at_call 135; refine (W0.out _).mono ?_; rintro e w1 ⟨rfl, rfl⟩))
    go_ret2
    exact ⟨by rw [HA2.out]; rfl, Below.refl _ _⟩
  | true =>
  by_cases h4 : ts.length ≤ 4
  rotate_left
  · rw [hw] at W0
    have q : (ts.length : Int) > 4 := by omega
    have HA2 : Hid (Sh.atomS p ts = none) := by show _ = _; rw [HA.out]; simp [h4]
    clear HA hw
    go_enter Tryz.func81, Tryz.ntmps81
    go_wp2_with (first
      | (go_at_call 135; refine (W0.out _).mono ?_; rintro e w1 ⟨rfl, rfl⟩))
    go_ret2
    exact ⟨by rw [HA2.out]; rfl, Below.refl _ _⟩
  have hpl := Sh.word_len hw
  have q : ¬ (ts.length : Int) > 4 := by omega
  have HA2 : Hid (Sh.atomS p ts = (Sh.argsS ts).map fun s => p ++ (40 :: (s ++ [41]))) := by show _ = _; rw [HA.out, if_pos ⟨hw, h4⟩]
  rw [hw] at W0
  clear HA hw
  have zp := str_size p
  obtain ⟨c0, h0, e0, z0, n0⟩ := cat p [40]
  simp only [List.length_cons, List.length_nil] at n0
  go_enter Tryz.func81, Tryz.ntmps81
  go_wp2_with (first
    | (go_at_call 135; refine (W0.out _).mono ?_; rintro e w1 ⟨rfl, rfl⟩))
  go_loopw [6, 7] (fun v6 v7 wr => ∃ (k : Nat) (T x : List UInt8), v6 = str T ∧ v7 = .int .i64 (k : Int) ∧ k ≤ ts.length ∧ Hid (T = c0 ++ x) ∧ Hid (Sh.argsS (ts.take k) = some x) ∧ Below w.heap.size w wr) (fun _ v _ => ts.length - (Lib.intOf v).toNat)
  case atStart => exact ⟨0, c0, [], rfl, rfl, Nat.zero_le _, (by show _ = _; rw [List.append_nil]), rfl, Below.refl _ _⟩
  case round =>
    obtain ⟨k, T, x, rfl, rfl, hk, HT, HX, hb⟩ := hrel
    have zT := str_size T
    have hTl : T.length ≤ 180 := by
      have := Sh.args_len (fun t ht => hi t (List.mem_of_mem_take ht)) HX.out
      rw [HT.out]
      simp only [List.length_append, List.length_take] at *; omega
    by_cases hlt : k < ts.length
    · have q2 : (k : Int) < (ts.length : Int) := by omega
      obtain ⟨P1, O1, rfl⟩ := hr.addr (Nat.lt_of_le_of_lt (Nat.zero_le _) hlt)
      obtain ⟨a1, a2, a3, a4⟩ := term_row (hr.below hb (Nat.le_refl _)) k hlt
      have hti := hi _ (List.getElem_mem hlt)
      have TT := hideP (fun W => rterm_at (ts[k]'hlt) W hti)
      have hno : Hid (Sh.termS (ts[k]'hlt) = none → Sh.atomS p ts = none) := fun h => by
        have h1 : (Sh.argsS ts).isSome = false := by
          rw [Sh.args_some, List.all_eq_false]
          exact ⟨_, List.getElem_mem hlt, by unfold Sh.canT; rw [h]; decide⟩
        rw [HA2.out]
        cases h2 : Sh.argsS ts with
        | none => rfl
        | some _ => rw [h2] at h1; cases h1
      have HX2 : Hid (∀ y, Sh.termS (ts[k]'hlt) = some y → Sh.argsS (ts.take (k + 1)) = some (x ++ (Sh.sep k ++ y))) := fun y hy => by
        have := Sh.args_snoc HX.out hy
        rw [List.length_take, Nat.min_eq_left hk] at this
        rw [List.take_succ_eq_append_getElem hlt]; exact this
      have hyl : Hid (∀ y, Sh.termS (ts[k]'hlt) = some y → y.length ≤ 34) := fun y hy => Sh.term_len hti hy
      clear HX
      generalize (ts[k]'hlt) = t at *
      cases hs : Sh.termS t with
      | none =>
        have hno' := hideP (hno.out hs)
        rw [hs] at TT
        simp only [sv] at TT
        obtain ⟨v, ⟨b1, b2, b3⟩⟩ := t
        clear hno HX2 hyl hs
        go_wp2_with (first
          | (go_at_call 80; refine (TT.out wr).mono ?_; rintro e w2 ⟨rfl, b2⟩))
        go_ret2
        exact ⟨by rw [hno'.out]; rfl, hb.trans (b2.mono hb.size)⟩
      | some y =>
        have HX3 := hideP (HX2.out y hs)
        have ny := hyl.out y hs
        have zy := str_size y
        rw [hs] at TT
        simp only [sv] at TT
        obtain ⟨v, ⟨b1, b2, b3⟩⟩ := t
        clear hno HX2 hyl hs
        by_cases hk0 : k = 0
        · subst hk0
          simp only [Nat.zero_mul, Nat.add_zero] at a1 a2 a3 a4
          obtain ⟨c2, h2, e2, z2, n2⟩ := cat T y
          go_wp2_with (first
            | (go_at_call 80; refine (TT.out wr).mono ?_; rintro e w2 ⟨rfl, b2⟩))
          refine ⟨⟨1, c2, _, rfl, by go_num, by omega, ?_, HX3, hb.trans (b2.mono hb.size)⟩, by simp [Lib.intOf]; omega⟩
          show _ = _
          rw [h2.out, HT.out]; simp [Sh.sep]
        · have q3 : (k : Int) > 0 := by omega
          obtain ⟨c1, h1, e1, z1, n1⟩ := cat T [44, 32]
          obtain ⟨c2, h2, e2, z2, n2⟩ := cat c1 y
          simp only [List.length_cons, List.length_nil] at n1
          go_wp2_with (first
            | (go_at_call 80; refine (TT.out wr).mono ?_; rintro e w2 ⟨rfl, b2⟩))
          refine ⟨⟨k + 1, c2, _, rfl, by go_num, by omega, ?_, HX3, hb.trans (b2.mono hb.size)⟩, by simp [Lib.intOf]; omega⟩
          show _ = _
          rw [h2.out, h1.out, HT.out]; simp [Sh.sep, hk0]
    · have q2 : ¬ (k : Int) < (ts.length : Int) := by omega
      obtain ⟨c2, h2, e2, z2, n2⟩ := cat T [41]
      have HF : Hid (Sh.atomS p ts = some c2) := by
        have := HX.out
        rw [List.take_of_length_le (by omega)] at this
        show _ = _
        rw [HA2.out, this, h2.out, HT.out, h0.out]
        simp
      go_wp2_with fail
      go_ret2
      exact ⟨by rw [HF.out]; rfl, hb⟩
end Go.Proofs.YtpdmmmdkpipmkaaGreatDoor
