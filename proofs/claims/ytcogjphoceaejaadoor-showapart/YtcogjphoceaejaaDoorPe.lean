/-
  The program's parser: arguments, an atom.
-/
import Derived.Deep.LoopGhost
import Derived.OwnWalk
import Derived.Test.YtcogjphoceaejaaDoorPd
namespace Go.Proofs.YtcogjphoceaejaaDoor
open Go.RowKit Go.Lib Go.Shelf

theorem But.low {p : Nat} {a b c : World} (x : But p a b) (y : Below a.heap.size b c) : But p a c :=
  ⟨y.os.trans x.os, y.tape.trans x.tape, y.output.trans x.output, Nat.le_trans x.size y.size, fun k hk hn => (y.block k hk).trans (x.block k hk hn)⟩
theorem grown_low {w w' : World} {base : Nat} {e : TypeId} {k n : Nat} {v : Value} {xs : List Value} (h : w.ownsRow base e k v n xs) (g : w.grownBy w' v.ownBlock) (hb : base ≤ w.heap.size) : Below base w w' := by
  refine (Below.refl _ _).grown g hb fun j hj => ?_
  rcases h.2 with ⟨h0, _⟩ | ⟨gg, cap, cur, hv, hb, _⟩
  · rw [h0] at hj; cases hj
  · rw [hv] at hj; cases hj; exact hb
def lenOf : Value → Nat
  | .slice _ n _ => n
  | _ => 0
theorem Tryd.iTerm : (Tryd.prog.info? 25).map (fun i => (i.zero, i.size, i.bytes)) = some (some (.agg #[.string .empty, .bool false, .int .i64 0, .string .empty]), 4, 48) := by kernel_rfl

/-! lists that are read one by one -/
def aprep {α : Type} (ys : List α) : Ps.Rz (List α) → Ps.Rz (List α)
  | .ok (ts, L) => .ok (ys ++ ts, L)
  | .error x => .error x
theorem aprep_nil {α : Type} (r : Ps.Rz (List α)) : aprep [] r = r := by
  rcases r with x | ⟨ts, L⟩ <;> rfl
theorem args_zero {E : Nat} {L : List Lx.Tok} (ys : List Tm) : aprep ys (Ps.args E 0 L) = .error (Ps.many E L) := rfl
theorem args_err {E n : Nat} {L : List Lx.Tok} (ys : List Tm) {x : Nat × Int} (h : Ps.term E L = .error x) : aprep ys (Ps.args E (n + 1) L) = .error x := by
  rw [Ps.args, h]; rfl
theorem args_more {E n : Nat} {L L1 : List Lx.Tok} (ys : List Tm) {t : Tm} (h : Ps.term E L = .ok (t, L1)) (hc : Ps.isT 5 [44] (Ps.hd L1) = true) : aprep ys (Ps.args E (n + 1) L) = aprep (ys ++ [t]) (Ps.args E n L1.tail) := by
  rw [Ps.args, h, Ps.bnd_ok, if_pos hc]
  rcases Ps.args E n L1.tail with x | ⟨ts, L2⟩
  · rfl
  · simp [Ps.bnd, aprep]
theorem args_end {E n : Nat} {L L1 : List Lx.Tok} (ys : List Tm) {t : Tm} (h : Ps.term E L = .ok (t, L1)) (hc : ¬ Ps.isT 5 [44] (Ps.hd L1) = true) : aprep ys (Ps.args E (n + 1) L) = .ok (ys ++ [t], L1) := by
  rw [Ps.args, h, Ps.bnd_ok, if_neg hc]; rfl
theorem bad_many {E : Nat} {L : List Lx.Tok} (h : ¬ Ps.mayT (Ps.hd L) = true) : Ps.bad E L = Ps.many E L := by unfold Ps.bad Ps.many; rw [if_neg h]
theorem term_bad {E : Nat} {L : List Lx.Tok} (h : ¬ Ps.mayT (Ps.hd L) = true) : Ps.term E L = .error (Ps.many E L) := by unfold Ps.term; rw [if_neg h, bad_many h]

def vTerms : List Tm → Value → World → Prop := fun ts u w => ∃ a c, u = .slice a ts.length c ∧ RowT tK 25 w a c ts
theorem vTerms.safe {ts : List Tm} {u : Value} {w w' : World} (h : vTerms ts u w) (s : Safe 25 w w') : vTerms ts u w' := by
  obtain ⟨a, c, h1, h2⟩ := h
  exact ⟨a, c, h1, h2.safe s⟩

set_option maxRecDepth 100000 in
set_option maxHeartbeats 2000000 in
theorem args_at (p E : Nat) (L : List Lx.Tok) (w : World) (h : PAt w p E L) :
    Calls Tryd.prog 88 #[ptr p] w (Does p E w (Ps.args E 4 L) vTerms) := by
  go_enter Tryd.func88, Tryd.ntmps88
  go_wp2_with fail
  go_loopw [2] (fun v wr => ∃ (ys : List Tm) (L' : List Lx.Tok) (n : Nat), ys.length + n = 4 ∧ wr.ownsRow w.heap.size 25 4 v ys.length (ys.flatMap tv) ∧ PAt wr p E L' ∧ But p w wr ∧ Ps.args E 4 L = aprep ys (Ps.args E n L')) (fun v _ => 4 - lenOf v)
  case atStart => exact ⟨[], L, 4, rfl, ⟨rfl, .inl ⟨rfl, rfl⟩⟩, h, But.refl _ _, (aprep_nil _).symm⟩
  case round =>
    obtain ⟨ys, L', n, hn, hown, hp, hb, hans⟩ := hrel
    have HAN := hideP hans
    clear hans
    obtain ⟨a0, c0, rfl, hrow, _⟩ := own_row (D := tK) hown (by omega)
    cases n with
    | zero =>
      have hy : ys.length = 4 := by omega
      have AL := hideP (allow_full p E 4 L' wr hp)
      by_cases hm : Ps.mayT (Ps.hd L') = true
      · have HE := hideP (HAN.out.trans (args_zero ys))
        rw [HE.out]
        simp only [if_pos hm] at AL
        clear HAN hm
        rw [hy] at hown ⊢
        go_wp2_with (first
          | (go_at_call 55; refine AL.out.mono ?_; rintro e w1 ⟨b1, rfl⟩; simp only [Pan]))
        exact ⟨rfl, does_no (hb.below b1)⟩
      · have HE := hideP (HAN.out.trans (args_zero ys))
        rw [HE.out]
        simp only [if_neg hm] at AL
        have T := hideP (fun w hp => term_at p E L' w hp)
        rw [term_bad hm] at T
        clear HAN hm
        rw [hy] at hown ⊢
        go_wp2_with (first
          | (go_at_call 55; refine AL.out.mono ?_; rintro e w1 ⟨b1, rfl⟩; have p1 := hp.below b1)
          | (go_at_call 75; refine (T.out _ p1).mono ?_; rintro e w2 ⟨b2, rfl⟩; simp only [Pan]))
        exact ⟨rfl, does_no ((hb.below b1).trans b2)⟩
    | succ n =>
      have hy : ¬ (ys.length : Int) = 4 := by omega
      have AL := hideP (fun w => allow_few p (ys.length : Int) 4 w hy)
      have T := hideP (term_at p E L' wr hp)
      rcases term_split E L' with ⟨t, R, rfl, ht, hq⟩ | ⟨ht, hq⟩
      · rw [hq] at T
        have hfew : ys.length + [Ps.tm t].length ≤ 879609302220 := by simp only [List.length_cons, List.length_nil]; omega
        have TK := hideP (fun w hp => took_at p E 5 [44] R w hp (by decide))
        by_cases hc : Ps.isT 5 [44] (Ps.hd R) = true
        · have HE := hideP (HAN.out.trans (args_more (n := n) ys hq hc))
          have hR : tookR 5 [44] R = (true, R.tail) := by unfold tookR; rw [if_pos hc]
          rw [hR] at TK
          clear HAN ht hq hc hR
          generalize Ps.tm t = x at *
          go_wp2_with (first
            | (go_at_call 55; refine (AL.out _).mono ?_; rintro e w1 ⟨rfl, rfl⟩)
            | (go_at_call 75; refine T.out.mono ?_; rintro e w2 ⟨b2, ⟨u, rfl, rfl⟩, p2⟩; have O2 := ownsRow_keep hown ((hp.safe (ty := 25) b2 (by decide)).trans (Safe.below (below_alloc w2 (.cells (tv x).toArray 25)))); have R2 := row_new tK w2 (tv x).toArray 25 x rfl; have P3 := p2.below (below_alloc w2 (.cells (tv x).toArray 25)); have b3 := (hb.trans b2).below (below_alloc w2 (.cells (tv x).toArray 25)))
            | (refine wpList_build_one rfl 38 25 _ rfl (tv x) _ 4 48 rfl rfl (by decide) (by decide) Tryd.underlying38 Tryd.iTerm ?_)
            | (at_builtin; refine wpList_append_rec tK _ rfl _ _ 38 25 rfl _ 48 Tryd.underlying38 Tryd.iTerm rfl (by decide) w.heap.size (.slice a0 ys.length c0) ys [x] (some ⟨w2.heap.size, 0, none⟩) 1 1 rfl O2 rfl rfl R2 b3.size hfew ?_; intro v4 w4 o4 g4; have p4 := P3.grown O2 g4 (by decide) (by decide); have b4 := b3.low (grown_low O2 g4 b3.size))
            | (go_at_call 78; refine (TK.out _ p4).mono ?_; rintro e w5 ⟨rfl, p5, b5⟩))
          have O5 := ownsRow_keep o4 (p4.safe (ty := 25) b5 (by decide))
          refine ⟨⟨ys ++ [x], R.tail, n, by simp only [List.length_append, List.length_cons, List.length_nil]; omega, O5, p5, b4.trans b5, HE.out⟩, ?_⟩
          obtain ⟨a5, c5, hv5, _, _⟩ := own_row (D := tK) O5 (by simp only [List.length_append, List.length_cons, List.length_nil]; omega)
          subst hv5
          simp only [lenOf, List.length_append, List.length_cons, List.length_nil]
          show 4 - (ys.length + 1) < 4 - ys.length
          omega
        · have HE := hideP (HAN.out.trans (args_end (n := n) ys hq hc))
          have hR : tookR 5 [44] R = (false, R) := by unfold tookR; rw [if_neg hc]
          rw [hR] at TK
          rw [HE.out]
          clear HAN ht hq hc hR
          generalize Ps.tm t = x at *
          go_wp2_with (first
            | (go_at_call 55; refine (AL.out _).mono ?_; rintro e w1 ⟨rfl, rfl⟩)
            | (go_at_call 75; refine T.out.mono ?_; rintro e w2 ⟨b2, ⟨u, rfl, rfl⟩, p2⟩; have O2 := ownsRow_keep hown ((hp.safe (ty := 25) b2 (by decide)).trans (Safe.below (below_alloc w2 (.cells (tv x).toArray 25)))); have R2 := row_new tK w2 (tv x).toArray 25 x rfl; have P3 := p2.below (below_alloc w2 (.cells (tv x).toArray 25)); have b3 := (hb.trans b2).below (below_alloc w2 (.cells (tv x).toArray 25)))
            | (refine wpList_build_one rfl 38 25 _ rfl (tv x) _ 4 48 rfl rfl (by decide) (by decide) Tryd.underlying38 Tryd.iTerm ?_)
            | (at_builtin; refine wpList_append_rec tK _ rfl _ _ 38 25 rfl _ 48 Tryd.underlying38 Tryd.iTerm rfl (by decide) w.heap.size (.slice a0 ys.length c0) ys [x] (some ⟨w2.heap.size, 0, none⟩) 1 1 rfl O2 rfl rfl R2 b3.size hfew ?_; intro v4 w4 o4 g4; have p4 := P3.grown O2 g4 (by decide) (by decide); have b4 := b3.low (grown_low O2 g4 b3.size))
            | (go_at_call 78; refine (TK.out _ p4).mono ?_; rintro e w5 ⟨rfl, p5, b5⟩))
          have O5 := ownsRow_keep o4 (p4.safe (ty := 25) b5 (by decide))
          obtain ⟨a5, c5, hv5, r5, _⟩ := own_row (D := tK) O5 (by simp only [List.length_append, List.length_cons, List.length_nil]; omega)
          go_ret
          exact does_ok (b4.trans b5) ⟨a5, c5, hv5, r5⟩ p5
      · rw [hq] at T
        have HE := hideP (HAN.out.trans (args_err ys hq))
        rw [HE.out]
        clear HAN ht hq
        go_wp2_with (first
          | (go_at_call 55; refine (AL.out _).mono ?_; rintro e w1 ⟨rfl, rfl⟩)
          | (go_at_call 75; refine T.out.mono ?_; rintro e w2 ⟨b2, rfl⟩; simp only [Pan]))
        exact ⟨rfl, does_no (hb.trans b2)⟩

def vAtom : List UInt8 × List Tm → Value → World → Prop := fun x u w => ∃ a c, u = .tuple #[str x.1, .slice a x.2.length c] ∧ RowT tK 25 w a c x.2
theorem fieldText (t : Lx.Tok) (w : World) : (Instr.field 94 (tg t) 1).run Tryd.prog w = .ok (str t.text) w := by kernel_rfl
set_option maxRecDepth 100000 in
set_option maxHeartbeats 2000000 in
theorem atom_at (p E : Nat) (L : List Lx.Tok) (w : World) (h : PAt w p E L) :
    Calls Tryd.prog 77 #[ptr p] w (Does p E w (Ps.atom E L) vAtom) := by
  have HN := hideP (fun s L w hp => need_at p E 5 s L w hp (by decide))
  have HA := hideP (fun L w hp => args_at p E L w hp)
  have HT := hideP (fun L w hp => took_at p E 5 [41] L w hp (by decide))
  rcases word_split E L with ⟨t, L1, rfl, ht, hq⟩ | ⟨ht, hq⟩
  rotate_left
  · have T := hideP (takeF_no 84 Ps.mayW enter_pred mayBePred_at p E L w h ht)
    rw [show Ps.atom E L = .error (Ps.bad E L) by unfold Ps.atom; rw [hq]; rfl]
    clear ht hq
    go_enter Tryd.func77, Tryd.ntmps77
    go_wp2_with (first
      | (go_at_call 85; refine T.out.mono ?_; rintro e w1 ⟨rfl, b1⟩; simp only [Pan]))
    exact ⟨rfl, does_no b1⟩
  have T := hideP (takeF_yes 84 Ps.mayW enter_pred mayBePred_at p E t L1 w h ht)
  have HE : Hid (Ps.atom E (t :: L1) = Ps.bnd (Ps.need E 5 [40] L1) fun _ L2 => if Ps.isT 5 [41] (Ps.hd L2) = true then .ok ((t.text, []), L2.tail) else Ps.bnd (Ps.args E 4 L2) fun ts L3 => Ps.bnd (Ps.need E 5 [41] L3) fun _ L4 => .ok ((t.text, ts), L4)) := by
    show _ = _
    unfold Ps.atom; rw [hq]; rfl
  rw [HE.out]
  have FT := fieldText t
  clear ht hq HE
  go_enter Tryd.func77, Tryd.ntmps77
  go_wp2_with (first
    | (go_at_call 85; refine T.out.mono ?_; rintro e w1 ⟨rfl, p1, b1⟩))
  refine (HN.out [40] L1 w1 p1).mono ?_
  generalize h2 : Ps.need E 5 [40] L1 = r2
  rintro e w2 ⟨b2, hd⟩
  have B2 := b1.trans b2
  rcases r2 with x | ⟨_, L2⟩
  · obtain rfl := hd
    have H2 := hideP h2; clear h2
    simp only [Pan]
    go_wp2_with fail
    exact ⟨rfl, by rw [H2.out]; exact does_no B2⟩
  have H2 := hideP h2; clear h2
  obtain ⟨⟨_, rfl, rfl⟩, p2⟩ := hd
  go_wp2_with fail
  have TK := HT.out L2 w2 p2
  by_cases hc : Ps.isT 5 [41] (Ps.hd L2) = true
  · have hR : tookR 5 [41] L2 = (true, L2.tail) := by unfold tookR; rw [if_pos hc]
    rw [hR] at TK
    have HC := hideP hc; clear hc
    refine TK.mono ?_
    rintro e w3 ⟨rfl, p3, b3⟩
    go_wp2_with fail
    go_ret2
    rw [H2.out, Ps.bnd_ok, if_pos HC.out]
    exact does_ok (B2.trans b3) ⟨none, 0, rfl, RowT.nil _ _ _⟩ p3
  have hR : tookR 5 [41] L2 = (false, L2) := by unfold tookR; rw [if_neg hc]
  rw [hR] at TK
  have HC := hideP hc
  refine TK.mono ?_
  rintro e w3 ⟨rfl, p3, b3⟩
  have B3 := B2.trans b3
  clear hc hR TK
  go_wp2_with fail
  refine (HA.out L2 w3 p3).mono ?_
  generalize h4 : Ps.args E 4 L2 = r4
  rintro e w4 ⟨b4, hd⟩
  have B4 := B3.trans b4
  rcases r4 with x | ⟨ts, L4⟩
  · obtain rfl := hd
    have H4 := hideP h4; clear h4
    simp only [Pan]
    go_wp2_with fail
    exact ⟨rfl, by rw [H2.out, Ps.bnd_ok, if_neg HC.out, H4.out]; exact does_no B4⟩
  have H4 := hideP h4; clear h4
  obtain ⟨⟨_, rfl, ⟨a4, c4, rfl, r4⟩⟩, p4⟩ := hd
  go_wp2_with fail
  refine (HN.out [41] L4 w4 p4).mono ?_
  generalize h5 : Ps.need E 5 [41] L4 = r5
  rintro e w5 ⟨b5, hd⟩
  have B5 := B4.trans b5
  rcases r5 with x | ⟨_, L5⟩
  · obtain rfl := hd
    have H5 := hideP h5; clear h5
    simp only [Pan]
    go_wp2_with fail
    exact ⟨rfl, by rw [H2.out, Ps.bnd_ok, if_neg HC.out, H4.out, Ps.bnd_ok, H5.out]; exact does_no B5⟩
  have H5 := hideP h5; clear h5
  obtain ⟨⟨_, rfl, rfl⟩, p5⟩ := hd
  go_wp2_with fail
  go_ret2
  rw [H2.out, Ps.bnd_ok, if_neg HC.out, H4.out, Ps.bnd_ok, H5.out, Ps.bnd_ok]
  exact does_ok B5 ⟨a4, c4, rfl, r4.safe (p4.safe b5 (by decide))⟩ p5
end Go.Proofs.YtcogjphoceaejaaDoor
