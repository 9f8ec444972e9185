/-
  The program's parser: arguments, an atom.
-/
import Derived.Deep.LoopGhost
import Derived.OwnWalk
import Derived.BigQuiet
import Derived.Deep.RegionHeld3
import Derived.Test.YtdehimbfcilhpaaGreatDoorQPd
import Derived.Test.YtdehimbfcilhpaaGreatDoorQPb
namespace Go.Proofs.YtdehimbfcilhpaaGreatDoor
open Go.RowKit Go.Lib Go.Shelf

theorem But.low {p : Nat} {a b c : World} (x : But p a b) (y : Below a.heap.size b c) : But p a c :=
  ⟨y.os.trans x.os, y.tape.trans x.tape, y.output.trans x.output, Nat.le_trans x.size y.size, fun k hk hn => (y.block k hk).trans (x.block k hk hn)⟩
theorem grown_low {w w' : World} {base : Nat} {e : TypeId} {k n : Nat} {v : Value} {xs : List Value} (h : w.ownsRow base e k v n xs) (g : w.grownBy w' v.ownBlock) (hb : base ≤ w.heap.size) : Below base w w' := by
  refine (Below.refl _ _).grown g hb fun j hj => ?_
  rcases h.2 with ⟨h0, _⟩ | ⟨gg, cap, cur, hv, hb, _⟩
  · rw [h0] at hj; cases hj
  · rw [hv] at hj; cases hj; exact hb
def lenOf : Value → Nat
  | .slice _ n _ => n
  | _ => 0
theorem Tryz.iTerm : (Tryz.prog.info? 58).map (fun i => (i.zero, i.size, i.bytes)) = some (some (.agg #[.string .empty, .bool false, .int .i64 0, .string .empty]), 4, 48) := by kernel_rfl

/-! lists that are read one by one -/
def aprep {α : Type} (ys : List α) : Ps.Rz (List α) → Ps.Rz (List α)
  | .ok (ts, L) => .ok (ys ++ ts, L)
  | .error x => .error x
theorem aprep_nil {α : Type} (r : Ps.Rz (List α)) : aprep [] r = r := by
  rcases r with x | ⟨ts, L⟩ <;> rfl
theorem args_zero {E : Nat} {L : List Lx.Tok} (ys : List Tm) : aprep ys (Ps.args E 0 L) = .error (Ps.many E L) := rfl
theorem args_err {E n : Nat} {L : List Lx.Tok} (ys : List Tm) {x : Nat × Int} (h : Ps.term E L = .error x) : aprep ys (Ps.args E (n + 1) L) = .error x := by
  rw [Ps.args, h]; rfl
theorem args_more {E n : Nat} {L L1 : List Lx.Tok} (ys : List Tm) {t : Tm} (h : Ps.term E L = .ok (t, L1)) (hc : Ps.isT 5 [44] (Ps.hd L1) = true) : aprep ys (Ps.args E (n + 1) L) = aprep (ys ++ [t]) (Ps.args E n L1.tail) := by
  rw [Ps.args, h, Ps.bnd_ok, if_pos hc]
  rcases Ps.args E n L1.tail with x | ⟨ts, L2⟩
  · rfl
  · simp [Ps.bnd, aprep]
theorem args_end {E n : Nat} {L L1 : List Lx.Tok} (ys : List Tm) {t : Tm} (h : Ps.term E L = .ok (t, L1)) (hc : ¬ Ps.isT 5 [44] (Ps.hd L1) = true) : aprep ys (Ps.args E (n + 1) L) = .ok (ys ++ [t], L1) := by
  rw [Ps.args, h, Ps.bnd_ok, if_neg hc]; rfl
theorem bad_many {E : Nat} {L : List Lx.Tok} (h : ¬ Ps.mayT (Ps.hd L) = true) : Ps.bad E L = Ps.many E L := by unfold Ps.bad Ps.many; rw [if_neg h]
theorem term_bad {E : Nat} {L : List Lx.Tok} (h : ¬ Ps.mayT (Ps.hd L) = true) : Ps.term E L = .error (Ps.many E L) := by unfold Ps.term; rw [if_neg h, bad_many h]

def vTerms : List Tm → Value → World → Prop := fun ts u w => ∃ a c, u = .slice a ts.length c ∧ RowT tK 58 w a c ts
theorem vTerms.safe {ts : List Tm} {u : Value} {w w' : World} (h : vTerms ts u w) (s : Safe 58 w w') : vTerms ts u w' := by
  obtain ⟨a, c, h1, h2⟩ := h
  exact ⟨a, c, h1, h2.safe s⟩

set_option maxRecDepth 100000 in
set_option maxHeartbeats 2000000 in
theorem args_at (p E : Nat) (L : List Lx.Tok) (w : World) (h : PAt w p E L) :
    Calls Tryz.prog 140 #[ptr p] w (Does p E w (Ps.args E 4 L) vTerms) := by
  go_enter Tryz.func140, Tryz.ntmps140
  go_wp2_with fail
  go_loopw [2] (fun v wr => ∃ (ys : List Tm) (L' : List Lx.Tok) (n : Nat), ys.length + n = 4 ∧ wr.ownsRow w.heap.size 58 4 v ys.length (ys.flatMap tv) ∧ PAt wr p E L' ∧ But p w wr ∧ Ps.args E 4 L = aprep ys (Ps.args E n L')) (fun v _ => 4 - lenOf v)
  case atStart => exact ⟨[], L, 4, rfl, ⟨rfl, .inl ⟨rfl, rfl⟩⟩, h, But.refl _ _, (aprep_nil _).symm⟩
  case round =>
    obtain ⟨ys, L', n, hn, hown, hp, hb, hans⟩ := hrel
    have HAN := hideP hans
    clear hans
    obtain ⟨a0, c0, rfl, hrow, _⟩ := own_row (D := tK) hown (by omega)
    cases n with
    | zero =>
      have hy : ys.length = 4 := by omega
      have AL := hideP (allow_full p E 4 L' wr hp)
      by_cases hm : Ps.mayT (Ps.hd L') = true
      · have HE := hideP (HAN.out.trans (args_zero ys))
        rw [HE.out]
        simp only [if_pos hm] at AL
        clear HAN hm
        rw [hy] at hown ⊢
        go_wp2_with (first
          | (go_at_call 74; refine AL.out.mono ?_; rintro e w1 ⟨b1, rfl⟩; simp only [Pan]))
        exact ⟨rfl, does_no (hb.below b1)⟩
      · have HE := hideP (HAN.out.trans (args_zero ys))
        rw [HE.out]
        simp only [if_neg hm] at AL
        have T := hideP (fun w hp => term_at p E L' w hp)
        rw [term_bad hm] at T
        clear HAN hm
        rw [hy] at hown ⊢
        go_wp2_with (first
          | (go_at_call 74; refine AL.out.mono ?_; rintro e w1 ⟨b1, rfl⟩; have p1 := hp.below b1)
          | (go_at_call 104; refine (T.out _ p1).mono ?_; rintro e w2 ⟨b2, rfl⟩; simp only [Pan]))
        exact ⟨rfl, does_no ((hb.below b1).trans b2)⟩
    | succ n =>
      have hy : ¬ (ys.length : Int) = 4 := by omega
      have AL := hideP (fun w => allow_few p (ys.length : Int) 4 w hy)
      have T := hideP (term_at p E L' wr hp)
      rcases term_split E L' with ⟨t, R, rfl, ht, hq⟩ | ⟨ht, hq⟩
      · rw [hq] at T
        have hfew : ys.length + [Ps.tm t].length ≤ 879609302220 := by simp only [List.length_cons, List.length_nil]; omega
        have TK := hideP (fun w hp => took_at p E 5 [44] R w hp (by decide))
        by_cases hc : Ps.isT 5 [44] (Ps.hd R) = true
        · have HE := hideP (HAN.out.trans (args_more (n := n) ys hq hc))
          have hR : tookR 5 [44] R = (true, R.tail) := by unfold tookR; rw [if_pos hc]
          rw [hR] at TK
          clear HAN ht hq hc hR
          generalize Ps.tm t = x at *
          go_wp2_with (first
            | (go_at_call 74; refine (AL.out _).mono ?_; rintro e w1 ⟨rfl, rfl⟩)
            | (go_at_call 104; refine T.out.mono ?_; rintro e w2 ⟨b2, ⟨u, rfl, rfl⟩, p2⟩; have O2 := ownsRow_keep hown ((hp.safe (ty := 58) b2 (by decide)).trans (Safe.below (below_alloc w2 (.cells (tv x).toArray 58)))); have R2 := row_new tK w2 (tv x).toArray 58 x rfl; have P3 := p2.below (below_alloc w2 (.cells (tv x).toArray 58)); have b3 := (hb.trans b2).below (below_alloc w2 (.cells (tv x).toArray 58)))
            | (refine wpList_build_one rfl 59 58 _ rfl (tv x) _ 4 48 rfl rfl (by decide) (by decide) Tryz.underlying59 Tryz.iTerm ?_)
            | (at_builtin; refine wpList_append_rec tK _ rfl _ _ 59 58 rfl _ 48 Tryz.underlying59 Tryz.iTerm rfl (by decide) w.heap.size (.slice a0 ys.length c0) ys [x] (some ⟨w2.heap.size, 0, none⟩) 1 1 rfl O2 rfl rfl R2 b3.size hfew ?_; intro v4 w4 o4 g4; have p4 := P3.grown O2 g4 (by decide) (by decide); have b4 := b3.low (grown_low O2 g4 b3.size))
            | (go_at_call 107; refine (TK.out _ p4).mono ?_; rintro e w5 ⟨rfl, p5, b5⟩))
          have O5 := ownsRow_keep o4 (p4.safe (ty := 58) b5 (by decide))
          refine ⟨⟨ys ++ [x], R.tail, n, by simp only [List.length_append, List.length_cons, List.length_nil]; omega, O5, p5, b4.trans b5, HE.out⟩, ?_⟩
          obtain ⟨a5, c5, hv5, _, _⟩ := own_row (D := tK) O5 (by simp only [List.length_append, List.length_cons, List.length_nil]; omega)
          subst hv5
          simp only [lenOf, List.length_append, List.length_cons, List.length_nil]
          show 4 - (ys.length + 1) < 4 - ys.length
          omega
        · have HE := hideP (HAN.out.trans (args_end (n := n) ys hq hc))
          have hR : tookR 5 [44] R = (false, R) := by unfold tookR; rw [if_neg hc]
          rw [hR] at TK
          rw [HE.out]
          clear HAN ht hq hc hR
          generalize Ps.tm t = x at *
          go_wp2_with (first
            | (go_at_call 74; refine (AL.out _).mono ?_; rintro e w1 ⟨rfl, rfl⟩)
            | (go_at_call 104; refine T.out.mono ?_; rintro e w2 ⟨b2, ⟨u, rfl, rfl⟩, p2⟩; have O2 := ownsRow_keep hown ((hp.safe (ty := 58) b2 (by decide)).trans (Safe.below (below_alloc w2 (.cells (tv x).toArray 58)))); have R2 := row_new tK w2 (tv x).toArray 58 x rfl; have P3 := p2.below (below_alloc w2 (.cells (tv x).toArray 58)); have b3 := (hb.trans b2).below (below_alloc w2 (.cells (tv x).toArray 58)))
            | (refine wpList_build_one rfl 59 58 _ rfl (tv x) _ 4 48 rfl rfl (by decide) (by decide) Tryz.underlying59 Tryz.iTerm ?_)
            | (at_builtin; refine wpList_append_rec tK _ rfl _ _ 59 58 rfl _ 48 Tryz.underlying59 Tryz.iTerm rfl (by decide) w.heap.size (.slice a0 ys.length c0) ys [x] (some ⟨w2.heap.size, 0, none⟩) 1 1 rfl O2 rfl rfl R2 b3.size hfew ?_; intro v4 w4 o4 g4; have p4 := P3.grown O2 g4 (by decide) (by decide); have b4 := b3.low (grown_low O2 g4 b3.size))
            | (go_at_call 107; refine (TK.out _ p4).mono ?_; rintro e w5 ⟨rfl, p5, b5⟩))
          have O5 := ownsRow_keep o4 (p4.safe (ty := 58) b5 (by decide))
          obtain ⟨a5, c5, hv5, r5, _⟩ := own_row (D := tK) O5 (by simp only [List.length_append, List.length_cons, List.length_nil]; omega)
          go_ret
          exact does_ok (b4.trans b5) ⟨a5, c5, hv5, r5⟩ p5
      · rw [hq] at T
        have HE := hideP (HAN.out.trans (args_err ys hq))
        rw [HE.out]
        clear HAN ht hq
        go_wp2_with (first
          | (go_at_call 74; refine (AL.out _).mono ?_; rintro e w1 ⟨rfl, rfl⟩)
          | (go_at_call 104; refine T.out.mono ?_; rintro e w2 ⟨b2, rfl⟩; simp only [Pan]))
        exact ⟨rfl, does_no (hb.trans b2)⟩

def vAtom : List UInt8 × List Tm → Value → World → Prop := fun x u w => ∃ a c, u = .tuple #[str x.1, .slice a x.2.length c] ∧ RowT tK 58 w a c x.2
theorem fieldText (t : Lx.Tok) (w : World) : (Instr.field 119 (tg t) 1).run Tryz.prog w = .ok (str t.text) w := by kernel_rfl
set_option maxRecDepth 100000 in
set_option maxHeartbeats 2000000 in
theorem atom_at (p E : Nat) (L : List Lx.Tok) (w : World) (h : PAt w p E L) :
    Calls Tryz.prog 106 #[ptr p] w (Does p E w (Ps.atom E L) vAtom) := by
  have HN := hideP (fun s L w hp => need_at p E 5 s L w hp (by decide))
  have HA := hideP (fun L w hp => args_at p E L w hp)
  have HT := hideP (fun L w hp => took_at p E 5 [41] L w hp (by decide))
  rcases word_split E L with ⟨t, L1, rfl, ht, hq⟩ | ⟨ht, hq⟩
  rotate_left
  · have T := hideP (takeF_no 136 Ps.mayW enter_pred mayBePred_at p E L w h ht)
    rw [show Ps.atom E L = .error (Ps.bad E L) by unfold Ps.atom; rw [hq]; rfl]
    clear ht hq
    go_enter Tryz.func106, Tryz.ntmps106
    go_wp2_with (first
      | (go_at_call 137; refine T.out.mono ?_; rintro e w1 ⟨rfl, b1⟩; simp only [Pan]))
    exact ⟨rfl, does_no b1⟩
  have T := hideP (takeF_yes 136 Ps.mayW enter_pred mayBePred_at p E t L1 w h ht)
  have HE : Hid (Ps.atom E (t :: L1) = Ps.bnd (Ps.need E 5 [40] L1) fun _ L2 => if Ps.isT 5 [41] (Ps.hd L2) = true then .ok ((t.text, []), L2.tail) else Ps.bnd (Ps.args E 4 L2) fun ts L3 => Ps.bnd (Ps.need E 5 [41] L3) fun _ L4 => .ok ((t.text, ts), L4)) := by
    show _ = _
    unfold Ps.atom; rw [hq]; rfl
  rw [HE.out]
  have FT := fieldText t
  clear ht hq HE
  go_enter Tryz.func106, Tryz.ntmps106
  go_wp2_with (first
    | (go_at_call 137; refine T.out.mono ?_; rintro e w1 ⟨rfl, p1, b1⟩))
  refine (HN.out [40] L1 w1 p1).mono ?_
  generalize h2 : Ps.need E 5 [40] L1 = r2
  rintro e w2 ⟨b2, hd⟩
  have B2 := b1.trans b2
  rcases r2 with x | ⟨_, L2⟩
  · obtain rfl := hd
    have H2 := hideP h2; clear h2
    simp only [Pan]
    go_wp2_with fail
    exact ⟨rfl, by rw [H2.out]; exact does_no B2⟩
  have H2 := hideP h2; clear h2
  obtain ⟨⟨_, rfl, rfl⟩, p2⟩ := hd
  go_wp2_with fail
  have TK := HT.out L2 w2 p2
  by_cases hc : Ps.isT 5 [41] (Ps.hd L2) = true
  · have hR : tookR 5 [41] L2 = (true, L2.tail) := by unfold tookR; rw [if_pos hc]
    rw [hR] at TK
    have HC := hideP hc; clear hc
    refine TK.mono ?_
    rintro e w3 ⟨rfl, p3, b3⟩
    go_wp2_with fail
    go_ret2
    rw [H2.out, Ps.bnd_ok, if_pos HC.out]
    exact does_ok (B2.trans b3) ⟨none, 0, rfl, RowT.nil _ _ _⟩ p3
  have hR : tookR 5 [41] L2 = (false, L2) := by unfold tookR; rw [if_neg hc]
  rw [hR] at TK
  have HC := hideP hc
  refine TK.mono ?_
  rintro e w3 ⟨rfl, p3, b3⟩
  have B3 := B2.trans b3
  clear hc hR TK
  go_wp2_with fail
  refine (HA.out L2 w3 p3).mono ?_
  generalize h4 : Ps.args E 4 L2 = r4
  rintro e w4 ⟨b4, hd⟩
  have B4 := B3.trans b4
  rcases r4 with x | ⟨ts, L4⟩
  · obtain rfl := hd
    have H4 := hideP h4; clear h4
    simp only [Pan]
    go_wp2_with fail
    exact ⟨rfl, by rw [H2.out, Ps.bnd_ok, if_neg HC.out, H4.out]; exact does_no B4⟩
  have H4 := hideP h4; clear h4
  obtain ⟨⟨_, rfl, ⟨a4, c4, rfl, r4⟩⟩, p4⟩ := hd
  go_wp2_with fail
  refine (HN.out [41] L4 w4 p4).mono ?_
  generalize h5 : Ps.need E 5 [41] L4 = r5
  rintro e w5 ⟨b5, hd⟩
  have B5 := B4.trans b5
  rcases r5 with x | ⟨_, L5⟩
  · obtain rfl := hd
    have H5 := hideP h5; clear h5
    simp only [Pan]
    go_wp2_with fail
    exact ⟨rfl, by rw [H2.out, Ps.bnd_ok, if_neg HC.out, H4.out, Ps.bnd_ok, H5.out]; exact does_no B5⟩
  have H5 := hideP h5; clear h5
  obtain ⟨⟨_, rfl, rfl⟩, p5⟩ := hd
  go_wp2_with fail
  go_ret2
  rw [H2.out, Ps.bnd_ok, if_neg HC.out, H4.out, Ps.bnd_ok, H5.out, Ps.bnd_ok]
  exact does_ok B5 ⟨a4, c4, rfl, r4.safe (p4.safe b5 (by decide))⟩ p5
end Go.Proofs.YtdehimbfcilhpaaGreatDoor

/-
  The program's parser: literals, bodies, rules, programs.
-/
namespace Go.Proofs.YtdehimbfcilhpaaGreatDoor
open Go.RowKit Go.Lib Go.Shelf

def lcs (b : Tm) (pr : List UInt8) (s : Value) (a : Tm) : List Value := [str b.v, .bool b.k.num, .int .i64 b.k.n, str b.k.s, str pr, s, str a.v, .bool a.k.num, .int .i64 a.k.n, str a.k.s]
def rcs (b : Tm) (pr : List UInt8) (s : Value) (a : Tm) (l : Value) : List Value := [str b.v, .bool b.k.num, .int .i64 b.k.n, str b.k.s, str pr, s, str a.v, .bool a.k.num, .int .i64 a.k.n, str a.k.s, l]
abbrev zL : Obj := .cells #[.string { data := #[] }, .bool false, .int .i64 0, .string { data := #[] }, .string { data := #[] }, .slice none 0 0, .string { data := #[] }, .bool false, .int .i64 0, .string { data := #[] }] 85
abbrev zR : Obj := .cells #[.string { data := #[] }, .bool false, .int .i64 0, .string { data := #[] }, .string { data := #[] }, .slice none 0 0, .string { data := #[] }, .bool false, .int .i64 0, .string { data := #[] }, .slice none 0 0] 62
theorem new_lit (w : World) : (w.alloc zL).heap[w.heap.size]? = some (.cells (lcs t0 [] (.slice none 0 0) t0).toArray 85) := heap_alloc_new w zL
theorem new_rule (w : World) : (w.alloc zR).heap[w.heap.size]? = some (.cells (rcs t0 [] (.slice none 0 0) t0 (.slice none 0 0)).toArray 62) := heap_alloc_new w zR
def vLit : Lt → Value → World → Prop := fun l u w => ∃ x : Lv, u = lval x ∧ x.l = l ∧ x.At w
def vLits : List Lt → Value → World → Prop := fun ls u w => ∃ a c xs, u = .slice a (List.length xs) c ∧ xs.map Lv.l = ls ∧ RowT lK 85 w a c xs ∧ ∀ x ∈ xs, x.At w
def vRule : Ru → Value → World → Prop := fun r u w => ∃ x : Rv, u = rval x ∧ x.r = r ∧ x.At w
theorem took_eq_yes {k : Int} {s : List UInt8} {L : List Lx.Tok} (h : Ps.isT k s (Ps.hd L) = true) : tookR k s L = (true, L.tail) := by unfold tookR; rw [if_pos h]
theorem took_eq_no {k : Int} {s : List UInt8} {L : List Lx.Tok} (h : ¬ Ps.isT k s (Ps.hd L) = true) : tookR k s L = (false, L) := by unfold tookR; rw [if_neg h]

set_option maxRecDepth 100000 in
set_option maxHeartbeats 4000000 in
theorem literal_at (p E : Nat) (L : List Lx.Tok) (w : World) (h : PAt w p E L) :
    Calls Tryz.prog 141 #[ptr p] w (Does p E w (Ps.lit E L) vLit) := by
  have HM := hideP (fun L w hp => term_at p E L w hp)
  have HN := hideP (fun L w hp => need_at p E 1 [115, 97, 121, 115] L w hp (by decide))
  have HAt := hideP (fun L w hp => atom_at p E L w hp)
  have HT := hideP (fun L w hp => took_at p E 1 [97, 116] L w hp (by decide))
  have HA0 := hideP (fun w h => ahead0 p E L w h)
  have HA1 := hideP (fun w h => ahead1 p E L w h)
  have HP := hideP (fun w => mayBePred_at (Ps.hd L) w)
  have HI := hideP (fun w => is_at (Ps.hd L.tail) 1 [115, 97, 121, 115] w)
  have iN : (Tryz.prog.info? 85).map (·.size) = some 10 := by kernel_rfl
  have hp := h.lt
  have B0 := below_alloc w zL
  have V0 := new_lit w
  have P0 := h.below B0
  have b0 : But p w (w.alloc zL) := But.of_below B0
  have hsaid : Hid (Ps.said L = (!Ps.mayW (Ps.hd L) || Ps.isT 1 [115, 97, 121, 115] (Ps.hd L.tail))) := rfl
  go_enter Tryz.func141, Tryz.ntmps141
  go_wp2_with fail
  refine (HA0.out _ P0).mono ?_
  rintro e z1 ⟨rfl, c1⟩
  generalize hS : w.heap.size = S at *
  have HS := hideP hS; clear hS
  have V1 := below_heap c1 V0
  have P1 := P0.below c1
  have D1 := b0.below c1
  clear V0 P0 b0 c1 B0
  generalize Ps.hd L = t at *
  generalize Ps.mayW t = m at *
  go_wp2_with fail
  refine (HP.out _).mono ?_
  rintro e z2 ⟨rfl, c2⟩
  have V2 := below_heap c2 V1
  have P2 := P1.below c2
  have D2 := D1.below c2
  clear V1 P1 D1 c2
  cases m
  · have HSD := hideP (hsaid.out.trans (show (!false || _) = true from rfl))
    clear hsaid
    go_wp2_with fail
    refine (HM.out L z2 P2).mono ?_
    generalize hx : Ps.term E L = r3
    rintro e z3 ⟨c3, hd⟩
    have D3 := D2.trans c3
    rcases r3 with x | ⟨b, L0⟩
    · obtain rfl := hd
      have HX := hideP hx; clear hx
      simp only [Pan]
      go_wp2_with fail
      exact ⟨rfl, by unfold Ps.lit Ps.by_; rw [if_pos HSD.out, HX.out]; exact does_no D3⟩
    have H3 := hideP hx; clear hx
    obtain ⟨⟨_, rfl, rfl⟩, P3⟩ := hd
    have V3 := c3.heap (show S ≠ p by omega) V2
    go_wp2_with (first
      | (refine wpList_store_rec rfl 58 _ _ rfl S 0 10 4 85 (tv b) (lcs b [] (.slice none 0 0) t0).toArray rfl rfl V3 rfl rfl (by decide) (by kernel_rfl) rfl rfl ?_; intro z4 V4 c4))
    have P4 := P3.but c4 V3 (by decide) (by decide)
    have D4 := D3.fresh c4 (Nat.le_of_eq HS.out)
    refine (HN.out L0 z4 P4).mono ?_
    generalize hx : Ps.need E 1 [115, 97, 121, 115] L0 = r5
    rintro e w1 ⟨c5, hd⟩
    have B1 := D4.trans c5
    rcases r5 with x | ⟨_, L1⟩
    · obtain rfl := hd
      have HX := hideP hx; clear hx
      simp only [Pan]
      go_wp2_with fail
      exact ⟨rfl, by unfold Ps.lit Ps.by_ Ps.says; rw [if_pos HSD.out, H3.out, Ps.bnd_ok, HX.out]; exact does_no B1⟩
    have H5 := hideP hx; clear hx
    obtain ⟨⟨_, rfl, rfl⟩, p1⟩ := hd
    have V1 := c5.heap (show S ≠ p by omega) V4
    have HB : Hid (Ps.by_ E L = .ok (b, L1)) := by show _ = _; unfold Ps.by_ Ps.says; rw [if_pos HSD.out, H3.out, Ps.bnd_ok, H5.out]; rfl
    clear V2 P2 D2 c3 P3 V3 V4 c4 P4 D4 c5 D3 H3 H5 HSD
    go_wp2_with fail
    refine (HAt.out L1 w1 p1).mono ?_
    generalize hx : Ps.atom E L1 = r2
    rintro e w2 ⟨b2, hd⟩
    have B2 := B1.trans b2
    rcases r2 with x | ⟨⟨pr, ts⟩, L2⟩
    · obtain rfl := hd
      have HX := hideP hx; clear hx
      simp only [Pan]
      go_wp2_with fail
      exact ⟨rfl, by unfold Ps.lit; rw [HB.out, Ps.bnd_ok, HX.out]; exact does_no B2⟩
    have H2 := hideP hx; clear hx
    obtain ⟨⟨_, rfl, ⟨a2, c2, rfl, r2⟩⟩, p2⟩ := hd
    have V2 := b2.heap (show S ≠ p by omega) V1
    go_wp2_with (first
      | (refine wpList_store_cel rfl 9 _ _ rfl S 4 10 85 (str pr) (lcs b pr (.slice none 0 0) t0).toArray rfl rfl V2 rfl (by decide) (by kernel_rfl) rfl rfl ?_; intro w3 V3 b3)
      | (refine wpList_store_cel rfl 59 _ _ rfl S 5 10 85 (.slice a2 ts.length c2) (lcs b pr (.slice a2 ts.length c2) t0).toArray rfl rfl V3 rfl (by decide) (by kernel_rfl) rfl rfl ?_; intro w4 V4 b4))
    have p4 := (p2.but b3 V2 (by decide) (by decide)).but b4 V3 (by decide) (by decide)
    have r4 := (r2.safe (Safe.but b3 V2 (by decide))).safe (Safe.but b4 V3 (by decide))
    have B4 := (B2.fresh b3 (Nat.le_of_eq HS.out)).fresh b4 (Nat.le_of_eq HS.out)
    clear V1 p1 B1 b2 p2 r2 B2 V2 V3 b3 b4
    have TK := HT.out L2 w4 p4
    by_cases hc : Ps.isT 1 [97, 116] (Ps.hd L2) = true
    · rw [took_eq_yes hc] at TK
      have HC := hideP hc; clear hc
      refine TK.mono ?_
      rintro e w5 ⟨rfl, p5, b5⟩
      have V5 := b5.heap (show S ≠ p by omega) V4
      have r5 := r4.safe (p4.safe b5 (by decide))
      have B5 := B4.trans b5
      clear TK V4 p4 r4 B4 b5
      go_wp2_with fail
      refine (HM.out L2.tail w5 p5).mono ?_
      generalize hx : Ps.term E L2.tail = r6
      rintro e w6 ⟨b6, hd⟩
      have B6 := B5.trans b6
      rcases r6 with x | ⟨a, L3⟩
      · obtain rfl := hd
        have HX := hideP hx; clear hx
        simp only [Pan]
        go_wp2_with fail
        exact ⟨rfl, by unfold Ps.lit; rw [HB.out, Ps.bnd_ok, H2.out, Ps.bnd_ok]; unfold Ps.opt Ps.at_; rw [if_pos HC.out, HX.out]; exact does_no B6⟩
      have H6 := hideP hx; clear hx
      obtain ⟨⟨_, rfl, rfl⟩, p6⟩ := hd
      have V6 := b6.heap (show S ≠ p by omega) V5
      have r6 := r5.safe (p5.safe b6 (by decide))
      go_wp2_with (first
        | (refine wpList_store_rec rfl 58 _ _ rfl S 6 10 4 85 (tv a) (lcs b pr (.slice a2 ts.length c2) a).toArray rfl rfl V6 rfl rfl (by decide) (by kernel_rfl) rfl rfl ?_; intro w7 V7 b7)
        | (refine wpList_load_all rfl 85 _ rfl S 10 85 (lcs b pr (.slice a2 ts.length c2) a) _ rfl V7 rfl Tryz.underlying85 rfl iN ?_)
        | (refine wpList_store_all rfl 85 _ _ rfl S 10 _ 85 (lcs b pr (.slice a2 ts.length c2) a) rfl rfl V7 rfl rfl iN rfl ?_; intro w8 V8 b8))
      have p8 := (p6.but b7 V6 (by decide) (by decide)).but b8 V7 (by decide) (by decide)
      have r8 := (r6.safe (Safe.but b7 V6 (by decide))).safe (Safe.but b8 V7 (by decide))
      have B8 := (B6.fresh b7 (Nat.le_of_eq HS.out)).fresh b8 (Nat.le_of_eq HS.out)
      refine bodyPost_ret (results_cell (b := S) rfl rfl V8 Tryz.underlying85 rfl (by kernel_rfl)) rfl ?_
      have e : Ps.lit E L = .ok (⟨b, pr, ts, a⟩, L3) := by unfold Ps.lit; rw [HB.out, Ps.bnd_ok, H2.out, Ps.bnd_ok]; unfold Ps.opt Ps.at_; rw [if_pos HC.out, H6.out]; rfl
      rw [e]
      exact does_ok B8 ⟨⟨b, pr, a2, c2, ts, a⟩, rfl, rfl, r8⟩ p8
    · rw [took_eq_no hc] at TK
      have HC := hideP hc; clear hc
      refine TK.mono ?_
      rintro e w5 ⟨rfl, p5, b5⟩
      have V5 := b5.heap (show S ≠ p by omega) V4
      have r5 := r4.safe (p4.safe b5 (by decide))
      have B5 := B4.trans b5
      clear TK V4 p4 r4 B4 b5
      go_wp2_with (first
        | (refine wpList_load_all rfl 85 _ rfl S 10 85 (lcs b pr (.slice a2 ts.length c2) t0) _ rfl V5 rfl Tryz.underlying85 rfl iN ?_)
        | (refine wpList_store_all rfl 85 _ _ rfl S 10 _ 85 (lcs b pr (.slice a2 ts.length c2) t0) rfl rfl V5 rfl rfl iN rfl ?_; intro w8 V8 b8))
      have p8 := p5.but b8 V5 (by decide) (by decide)
      have r8 := r5.safe (Safe.but b8 V5 (by decide))
      have B8 := B5.fresh b8 (Nat.le_of_eq HS.out)
      refine bodyPost_ret (results_cell (b := S) rfl rfl V8 Tryz.underlying85 rfl (by kernel_rfl)) rfl ?_
      have e : Ps.lit E L = .ok (⟨b, pr, ts, t0⟩, L2) := by unfold Ps.lit; rw [HB.out, Ps.bnd_ok, H2.out, Ps.bnd_ok]; unfold Ps.opt Ps.at_; rw [if_neg HC.out]; rfl
      rw [e]
      exact does_ok B8 ⟨⟨b, pr, a2, c2, ts, t0⟩, rfl, rfl, r8⟩ p8
  · go_wp2_with fail
    refine (HA1.out _ P2).mono ?_
    rintro e z3 ⟨rfl, c3⟩
    have V3 := below_heap c3 V2
    have P3 := P2.below c3
    have D3 := D2.below c3
    clear V2 P2 D2 c3
    generalize Ps.hd L.tail = t' at *
    generalize Ps.isT 1 [115, 97, 121, 115] t' = q at *
    go_wp2_with fail
    refine (HI.out _).mono ?_
    rintro e w1 ⟨rfl, c4⟩
    have V9 := below_heap c4 V3
    have P9 := P3.below c4
    have D9 := D3.below c4
    clear V3 P3 D3 c4
    cases q
    · obtain ⟨b, hb0⟩ : ∃ b, b = t0 := ⟨t0, rfl⟩
      obtain ⟨L1, hL1⟩ : ∃ L1, L1 = L := ⟨L, rfl⟩
      have HB : Hid (Ps.by_ E L = .ok (b, L1)) := by show _ = _; rw [hb0, hL1]; unfold Ps.by_; rw [if_neg (by rw [hsaid.out]; decide)]
      have p1 : PAt w1 p E L1 := by rw [hL1]; exact P9
      have V1 : w1.heap[S]? = some (.cells (lcs b [] (.slice none 0 0) t0).toArray 85) := by rw [hb0]; exact V9
      have B1 := D9
      clear hsaid V9 P9 D9 hb0 hL1
      go_wp2_with fail
      refine (HAt.out L1 w1 p1).mono ?_
      generalize hx : Ps.atom E L1 = r2
      rintro e w2 ⟨b2, hd⟩
      have B2 := B1.trans b2
      rcases r2 with x | ⟨⟨pr, ts⟩, L2⟩
      · obtain rfl := hd
        have HX := hideP hx; clear hx
        simp only [Pan]
        go_wp2_with fail
        exact ⟨rfl, by unfold Ps.lit; rw [HB.out, Ps.bnd_ok, HX.out]; exact does_no B2⟩
      have H2 := hideP hx; clear hx
      obtain ⟨⟨_, rfl, ⟨a2, c2, rfl, r2⟩⟩, p2⟩ := hd
      have V2 := b2.heap (show S ≠ p by omega) V1
      go_wp2_with (first
        | (refine wpList_store_cel rfl 9 _ _ rfl S 4 10 85 (str pr) (lcs b pr (.slice none 0 0) t0).toArray rfl rfl V2 rfl (by decide) (by kernel_rfl) rfl rfl ?_; intro w3 V3 b3)
        | (refine wpList_store_cel rfl 59 _ _ rfl S 5 10 85 (.slice a2 ts.length c2) (lcs b pr (.slice a2 ts.length c2) t0).toArray rfl rfl V3 rfl (by decide) (by kernel_rfl) rfl rfl ?_; intro w4 V4 b4))
      have p4 := (p2.but b3 V2 (by decide) (by decide)).but b4 V3 (by decide) (by decide)
      have r4 := (r2.safe (Safe.but b3 V2 (by decide))).safe (Safe.but b4 V3 (by decide))
      have B4 := (B2.fresh b3 (Nat.le_of_eq HS.out)).fresh b4 (Nat.le_of_eq HS.out)
      clear V1 p1 B1 b2 p2 r2 B2 V2 V3 b3 b4
      have TK := HT.out L2 w4 p4
      by_cases hc : Ps.isT 1 [97, 116] (Ps.hd L2) = true
      · rw [took_eq_yes hc] at TK
        have HC := hideP hc; clear hc
        refine TK.mono ?_
        rintro e w5 ⟨rfl, p5, b5⟩
        have V5 := b5.heap (show S ≠ p by omega) V4
        have r5 := r4.safe (p4.safe b5 (by decide))
        have B5 := B4.trans b5
        clear TK V4 p4 r4 B4 b5
        go_wp2_with fail
        refine (HM.out L2.tail w5 p5).mono ?_
        generalize hx : Ps.term E L2.tail = r6
        rintro e w6 ⟨b6, hd⟩
        have B6 := B5.trans b6
        rcases r6 with x | ⟨a, L3⟩
        · obtain rfl := hd
          have HX := hideP hx; clear hx
          simp only [Pan]
          go_wp2_with fail
          exact ⟨rfl, by unfold Ps.lit; rw [HB.out, Ps.bnd_ok, H2.out, Ps.bnd_ok]; unfold Ps.opt Ps.at_; rw [if_pos HC.out, HX.out]; exact does_no B6⟩
        have H6 := hideP hx; clear hx
        obtain ⟨⟨_, rfl, rfl⟩, p6⟩ := hd
        have V6 := b6.heap (show S ≠ p by omega) V5
        have r6 := r5.safe (p5.safe b6 (by decide))
        go_wp2_with (first
          | (refine wpList_store_rec rfl 58 _ _ rfl S 6 10 4 85 (tv a) (lcs b pr (.slice a2 ts.length c2) a).toArray rfl rfl V6 rfl rfl (by decide) (by kernel_rfl) rfl rfl ?_; intro w7 V7 b7)
          | (refine wpList_load_all rfl 85 _ rfl S 10 85 (lcs b pr (.slice a2 ts.length c2) a) _ rfl V7 rfl Tryz.underlying85 rfl iN ?_)
          | (refine wpList_store_all rfl 85 _ _ rfl S 10 _ 85 (lcs b pr (.slice a2 ts.length c2) a) rfl rfl V7 rfl rfl iN rfl ?_; intro w8 V8 b8))
        have p8 := (p6.but b7 V6 (by decide) (by decide)).but b8 V7 (by decide) (by decide)
        have r8 := (r6.safe (Safe.but b7 V6 (by decide))).safe (Safe.but b8 V7 (by decide))
        have B8 := (B6.fresh b7 (Nat.le_of_eq HS.out)).fresh b8 (Nat.le_of_eq HS.out)
        refine bodyPost_ret (results_cell (b := S) rfl rfl V8 Tryz.underlying85 rfl (by kernel_rfl)) rfl ?_
        have e : Ps.lit E L = .ok (⟨b, pr, ts, a⟩, L3) := by unfold Ps.lit; rw [HB.out, Ps.bnd_ok, H2.out, Ps.bnd_ok]; unfold Ps.opt Ps.at_; rw [if_pos HC.out, H6.out]; rfl
        rw [e]
        exact does_ok B8 ⟨⟨b, pr, a2, c2, ts, a⟩, rfl, rfl, r8⟩ p8
      · rw [took_eq_no hc] at TK
        have HC := hideP hc; clear hc
        refine TK.mono ?_
        rintro e w5 ⟨rfl, p5, b5⟩
        have V5 := b5.heap (show S ≠ p by omega) V4
        have r5 := r4.safe (p4.safe b5 (by decide))
        have B5 := B4.trans b5
        clear TK V4 p4 r4 B4 b5
        go_wp2_with (first
          | (refine wpList_load_all rfl 85 _ rfl S 10 85 (lcs b pr (.slice a2 ts.length c2) t0) _ rfl V5 rfl Tryz.underlying85 rfl iN ?_)
          | (refine wpList_store_all rfl 85 _ _ rfl S 10 _ 85 (lcs b pr (.slice a2 ts.length c2) t0) rfl rfl V5 rfl rfl iN rfl ?_; intro w8 V8 b8))
        have p8 := p5.but b8 V5 (by decide) (by decide)
        have r8 := r5.safe (Safe.but b8 V5 (by decide))
        have B8 := B5.fresh b8 (Nat.le_of_eq HS.out)
        refine bodyPost_ret (results_cell (b := S) rfl rfl V8 Tryz.underlying85 rfl (by kernel_rfl)) rfl ?_
        have e : Ps.lit E L = .ok (⟨b, pr, ts, t0⟩, L2) := by unfold Ps.lit; rw [HB.out, Ps.bnd_ok, H2.out, Ps.bnd_ok]; unfold Ps.opt Ps.at_; rw [if_neg HC.out]; rfl
        rw [e]
        exact does_ok B8 ⟨⟨b, pr, a2, c2, ts, t0⟩, rfl, rfl, r8⟩ p8
    · have HSD := hideP (hsaid.out.trans (show (!true || true) = true from rfl))
      clear hsaid
      go_wp2_with fail
      refine (HM.out L w1 P9).mono ?_
      generalize hx : Ps.term E L = r3
      rintro e y3 ⟨c3, hd⟩
      have D3 := D9.trans c3
      rcases r3 with x | ⟨b, L0⟩
      · obtain rfl := hd
        have HX := hideP hx; clear hx
        simp only [Pan]
        go_wp2_with fail
        exact ⟨rfl, by unfold Ps.lit Ps.by_; rw [if_pos HSD.out, HX.out]; exact does_no D3⟩
      have H3 := hideP hx; clear hx
      obtain ⟨⟨_, rfl, rfl⟩, P3⟩ := hd
      have V3 := c3.heap (show S ≠ p by omega) V9
      go_wp2_with (first
        | (refine wpList_store_rec rfl 58 _ _ rfl S 0 10 4 85 (tv b) (lcs b [] (.slice none 0 0) t0).toArray rfl rfl V3 rfl rfl (by decide) (by kernel_rfl) rfl rfl ?_; intro y4 V4 c4))
      have P4 := P3.but c4 V3 (by decide) (by decide)
      have D4 := D3.fresh c4 (Nat.le_of_eq HS.out)
      refine (HN.out L0 y4 P4).mono ?_
      generalize hx : Ps.need E 1 [115, 97, 121, 115] L0 = r5
      rintro e w1 ⟨c5, hd⟩
      have B1 := D4.trans c5
      rcases r5 with x | ⟨_, L1⟩
      · obtain rfl := hd
        have HX := hideP hx; clear hx
        simp only [Pan]
        go_wp2_with fail
        exact ⟨rfl, by unfold Ps.lit Ps.by_ Ps.says; rw [if_pos HSD.out, H3.out, Ps.bnd_ok, HX.out]; exact does_no B1⟩
      have H5 := hideP hx; clear hx
      obtain ⟨⟨_, rfl, rfl⟩, p1⟩ := hd
      have V1 := c5.heap (show S ≠ p by omega) V4
      have HB : Hid (Ps.by_ E L = .ok (b, L1)) := by show _ = _; unfold Ps.by_ Ps.says; rw [if_pos HSD.out, H3.out, Ps.bnd_ok, H5.out]; rfl
      clear V9 P9 D9 c3 P3 V3 V4 c4 P4 D4 c5 D3 H3 H5 HSD
      go_wp2_with fail
      refine (HAt.out L1 w1 p1).mono ?_
      generalize hx : Ps.atom E L1 = r2
      rintro e w2 ⟨b2, hd⟩
      have B2 := B1.trans b2
      rcases r2 with x | ⟨⟨pr, ts⟩, L2⟩
      · obtain rfl := hd
        have HX := hideP hx; clear hx
        simp only [Pan]
        go_wp2_with fail
        exact ⟨rfl, by unfold Ps.lit; rw [HB.out, Ps.bnd_ok, HX.out]; exact does_no B2⟩
      have H2 := hideP hx; clear hx
      obtain ⟨⟨_, rfl, ⟨a2, c2, rfl, r2⟩⟩, p2⟩ := hd
      have V2 := b2.heap (show S ≠ p by omega) V1
      go_wp2_with (first
        | (refine wpList_store_cel rfl 9 _ _ rfl S 4 10 85 (str pr) (lcs b pr (.slice none 0 0) t0).toArray rfl rfl V2 rfl (by decide) (by kernel_rfl) rfl rfl ?_; intro w3 V3 b3)
        | (refine wpList_store_cel rfl 59 _ _ rfl S 5 10 85 (.slice a2 ts.length c2) (lcs b pr (.slice a2 ts.length c2) t0).toArray rfl rfl V3 rfl (by decide) (by kernel_rfl) rfl rfl ?_; intro w4 V4 b4))
      have p4 := (p2.but b3 V2 (by decide) (by decide)).but b4 V3 (by decide) (by decide)
      have r4 := (r2.safe (Safe.but b3 V2 (by decide))).safe (Safe.but b4 V3 (by decide))
      have B4 := (B2.fresh b3 (Nat.le_of_eq HS.out)).fresh b4 (Nat.le_of_eq HS.out)
      clear V1 p1 B1 b2 p2 r2 B2 V2 V3 b3 b4
      have TK := HT.out L2 w4 p4
      by_cases hc : Ps.isT 1 [97, 116] (Ps.hd L2) = true
      · rw [took_eq_yes hc] at TK
        have HC := hideP hc; clear hc
        refine TK.mono ?_
        rintro e w5 ⟨rfl, p5, b5⟩
        have V5 := b5.heap (show S ≠ p by omega) V4
        have r5 := r4.safe (p4.safe b5 (by decide))
        have B5 := B4.trans b5
        clear TK V4 p4 r4 B4 b5
        go_wp2_with fail
        refine (HM.out L2.tail w5 p5).mono ?_
        generalize hx : Ps.term E L2.tail = r6
        rintro e w6 ⟨b6, hd⟩
        have B6 := B5.trans b6
        rcases r6 with x | ⟨a, L3⟩
        · obtain rfl := hd
          have HX := hideP hx; clear hx
          simp only [Pan]
          go_wp2_with fail
          exact ⟨rfl, by unfold Ps.lit; rw [HB.out, Ps.bnd_ok, H2.out, Ps.bnd_ok]; unfold Ps.opt Ps.at_; rw [if_pos HC.out, HX.out]; exact does_no B6⟩
        have H6 := hideP hx; clear hx
        obtain ⟨⟨_, rfl, rfl⟩, p6⟩ := hd
        have V6 := b6.heap (show S ≠ p by omega) V5
        have r6 := r5.safe (p5.safe b6 (by decide))
        go_wp2_with (first
          | (refine wpList_store_rec rfl 58 _ _ rfl S 6 10 4 85 (tv a) (lcs b pr (.slice a2 ts.length c2) a).toArray rfl rfl V6 rfl rfl (by decide) (by kernel_rfl) rfl rfl ?_; intro w7 V7 b7)
          | (refine wpList_load_all rfl 85 _ rfl S 10 85 (lcs b pr (.slice a2 ts.length c2) a) _ rfl V7 rfl Tryz.underlying85 rfl iN ?_)
          | (refine wpList_store_all rfl 85 _ _ rfl S 10 _ 85 (lcs b pr (.slice a2 ts.length c2) a) rfl rfl V7 rfl rfl iN rfl ?_; intro w8 V8 b8))
        have p8 := (p6.but b7 V6 (by decide) (by decide)).but b8 V7 (by decide) (by decide)
        have r8 := (r6.safe (Safe.but b7 V6 (by decide))).safe (Safe.but b8 V7 (by decide))
        have B8 := (B6.fresh b7 (Nat.le_of_eq HS.out)).fresh b8 (Nat.le_of_eq HS.out)
        refine bodyPost_ret (results_cell (b := S) rfl rfl V8 Tryz.underlying85 rfl (by kernel_rfl)) rfl ?_
        have e : Ps.lit E L = .ok (⟨b, pr, ts, a⟩, L3) := by unfold Ps.lit; rw [HB.out, Ps.bnd_ok, H2.out, Ps.bnd_ok]; unfold Ps.opt Ps.at_; rw [if_pos HC.out, H6.out]; rfl
        rw [e]
        exact does_ok B8 ⟨⟨b, pr, a2, c2, ts, a⟩, rfl, rfl, r8⟩ p8
      · rw [took_eq_no hc] at TK
        have HC := hideP hc; clear hc
        refine TK.mono ?_
        rintro e w5 ⟨rfl, p5, b5⟩
        have V5 := b5.heap (show S ≠ p by omega) V4
        have r5 := r4.safe (p4.safe b5 (by decide))
        have B5 := B4.trans b5
        clear TK V4 p4 r4 B4 b5
        go_wp2_with (first
          | (refine wpList_load_all rfl 85 _ rfl S 10 85 (lcs b pr (.slice a2 ts.length c2) t0) _ rfl V5 rfl Tryz.underlying85 rfl iN ?_)
          | (refine wpList_store_all rfl 85 _ _ rfl S 10 _ 85 (lcs b pr (.slice a2 ts.length c2) t0) rfl rfl V5 rfl rfl iN rfl ?_; intro w8 V8 b8))
        have p8 := p5.but b8 V5 (by decide) (by decide)
        have r8 := r5.safe (Safe.but b8 V5 (by decide))
        have B8 := B5.fresh b8 (Nat.le_of_eq HS.out)
        refine bodyPost_ret (results_cell (b := S) rfl rfl V8 Tryz.underlying85 rfl (by kernel_rfl)) rfl ?_
        have e : Ps.lit E L = .ok (⟨b, pr, ts, t0⟩, L2) := by unfold Ps.lit; rw [HB.out, Ps.bnd_ok, H2.out, Ps.bnd_ok]; unfold Ps.opt Ps.at_; rw [if_neg HC.out]; rfl
        rw [e]
        exact does_ok B8 ⟨⟨b, pr, a2, c2, ts, t0⟩, rfl, rfl, r8⟩ p8
end Go.Proofs.YtdehimbfcilhpaaGreatDoor

/-
  The program's parser: bodies, rules, programs.
-/
namespace Go.Proofs.YtdehimbfcilhpaaGreatDoor
open Go.RowKit Go.Lib Go.Shelf

theorem Tryz.iLit : (Tryz.prog.info? 85).map (fun i => (i.zero, i.size, i.bytes)) = some (some (.agg #[.string .empty, .bool false, .int .i64 0, .string .empty, .string .empty, .slice none 0 0, .string .empty, .bool false, .int .i64 0, .string .empty]), 10, 136) := by kernel_rfl
theorem Tryz.iRule : (Tryz.prog.info? 62).map (fun i => (i.zero, i.size, i.bytes)) = some (some (.agg #[.string .empty, .bool false, .int .i64 0, .string .empty, .string .empty, .slice none 0 0, .string .empty, .bool false, .int .i64 0, .string .empty, .slice none 0 0]), 11, 160) := by kernel_rfl
theorem body_zero {E : Nat} {L : List Lx.Tok} (ys : List Lt) : aprep ys (Ps.body E 0 L) = .error (Ps.many E L) := rfl
theorem body_err {E n : Nat} {L : List Lx.Tok} (ys : List Lt) {x : Nat × Int} (h : Ps.lit E L = .error x) : aprep ys (Ps.body E (n + 1) L) = .error x := by
  rw [Ps.body, h]; rfl
theorem body_more {E n : Nat} {L L1 : List Lx.Tok} (ys : List Lt) {t : Lt} (h : Ps.lit E L = .ok (t, L1)) (hc : Ps.isT 5 [44] (Ps.hd L1) = true) : aprep ys (Ps.body E (n + 1) L) = aprep (ys ++ [t]) (Ps.body E n L1.tail) := by
  rw [Ps.body, h, Ps.bnd_ok, if_pos hc]
  rcases Ps.body E n L1.tail with x | ⟨ts, L2⟩
  · rfl
  · simp [Ps.bnd, aprep]
theorem body_end {E n : Nat} {L L1 : List Lx.Tok} (ys : List Lt) {t : Lt} (h : Ps.lit E L = .ok (t, L1)) (hc : ¬ Ps.isT 5 [44] (Ps.hd L1) = true) : aprep ys (Ps.body E (n + 1) L) = .ok (ys ++ [t], L1) := by
  rw [Ps.body, h, Ps.bnd_ok, if_neg hc]; rfl
theorem lit_bad {E : Nat} {L : List Lx.Tok} (h : ¬ Ps.mayT (Ps.hd L) = true) : Ps.lit E L = .error (Ps.many E L) := by
  have hw : Ps.mayW (Ps.hd L) = false := by
    cases hm : Ps.mayW (Ps.hd L) with
    | true => exact absurd (Ps.mayW_T hm) h
    | false => rfl
  unfold Ps.lit Ps.by_ Ps.said
  rw [hw, if_pos (by rfl), term_bad h]; rfl
theorem rule_bad {E : Nat} {L : List Lx.Tok} (h : ¬ Ps.mayT (Ps.hd L) = true) : Ps.rule E L = .error (Ps.many E L) := by
  unfold Ps.rule; rw [term_bad h]; rfl

set_option maxRecDepth 100000 in
set_option maxHeartbeats 4000000 in
theorem body_at (p E : Nat) (L : List Lx.Tok) (w : World) (h : PAt w p E L) :
    Calls Tryz.prog 108 #[ptr p] w (Does p E w (Ps.body E 4 L) vLits) := by
  go_enter Tryz.func108, Tryz.ntmps108
  go_wp2_with fail
  go_loopw [2] (fun v wr => ∃ (ys : List Lv) (L' : List Lx.Tok) (n : Nat), ys.length + n = 4 ∧ wr.ownsRow w.heap.size 85 10 v ys.length (ys.flatMap lv) ∧ (∀ y ∈ ys, Lv.At wr y) ∧ PAt wr p E L' ∧ But p w wr ∧ Ps.body E 4 L = aprep (ys.map Lv.l) (Ps.body E n L')) (fun v _ => 4 - lenOf v)
  case atStart => exact ⟨[], L, 4, rfl, ⟨rfl, .inl ⟨rfl, rfl⟩⟩, (fun y hy => by simp at hy), h, But.refl _ _, (aprep_nil _).symm⟩
  case round =>
    obtain ⟨ys, L', n, hn, hown, each, hp, hb, hans⟩ := hrel
    have HAN := hideP hans
    clear hans
    obtain ⟨a0, c0, rfl, hrow, _⟩ := own_row (D := lK) hown (by omega)
    cases n with
    | zero =>
      have hy : ys.length = 4 := by omega
      have AL := hideP (allow_full p E 4 L' wr hp)
      have HE := hideP (HAN.out.trans (body_zero (ys.map Lv.l)))
      rw [HE.out]
      clear HAN
      rw [hy] at hown ⊢
      by_cases hm : Ps.mayT (Ps.hd L') = true
      · simp only [if_pos hm] at AL
        clear hm
        go_wp2_with (first
          | (go_at_call 74; refine AL.out.mono ?_; rintro e w1 ⟨b1, rfl⟩; simp only [Pan]))
        exact ⟨rfl, does_no (hb.below b1)⟩
      · simp only [if_neg hm] at AL
        have T := hideP (fun w hp => literal_at p E L' w hp)
        rw [lit_bad hm] at T
        clear hm
        go_wp2_with (first
          | (go_at_call 74; refine AL.out.mono ?_; rintro e w1 ⟨b1, rfl⟩; have p1 := hp.below b1)
          | (go_at_call 141; refine (T.out _ p1).mono ?_; rintro e w2 ⟨b2, rfl⟩; simp only [Pan]))
        exact ⟨rfl, does_no ((hb.below b1).trans b2)⟩
    | succ n =>
      have hy : ¬ (ys.length : Int) = 4 := by omega
      have AL := hideP (fun w => allow_few p (ys.length : Int) 4 w hy)
      have T := hideP (literal_at p E L' wr hp)
      rcases hq : Ps.lit E L' with z | ⟨t, R⟩
      · rw [hq] at T
        have HE := hideP (HAN.out.trans (body_err (ys.map Lv.l) hq))
        rw [HE.out]
        clear HAN hq
        go_wp2_with (first
          | (go_at_call 74; refine (AL.out _).mono ?_; rintro e w1 ⟨rfl, rfl⟩)
          | (go_at_call 141; refine T.out.mono ?_; rintro e w2 ⟨b2, rfl⟩; simp only [Pan]))
        exact ⟨rfl, does_no (hb.trans b2)⟩
      · rw [hq] at T
        have TK := hideP (fun w hp => took_at p E 5 [44] R w hp (by decide))
        by_cases hc : Ps.isT 5 [44] (Ps.hd R) = true
        · have HE := hideP (HAN.out.trans (body_more (n := n) (ys.map Lv.l) hq hc))
          rw [took_eq_yes hc] at TK
          clear HAN hq hc
          go_wp2_with (first
            | (go_at_call 74; refine (AL.out _).mono ?_; rintro e w1 ⟨rfl, rfl⟩)
            | (go_at_call 141; refine T.out.mono ?_; rintro e w2 ⟨b2, ⟨u, rfl, ⟨x, rfl, rfl, hx⟩⟩, p2⟩; have O2 := ownsRow_keep hown ((hp.safe (ty := 85) b2 (by decide)).trans (Safe.below (below_alloc w2 (.cells (lv x).toArray 85)))); have R2 := row_new lK w2 (lv x).toArray 85 x rfl; have P3 := p2.below (below_alloc w2 (.cells (lv x).toArray 85)); have b3 := (hb.trans b2).below (below_alloc w2 (.cells (lv x).toArray 85)); have hfew : ys.length + [x].length ≤ 879609302220 := (by simp only [List.length_cons, List.length_nil]; omega))
            | (refine wpList_build_one rfl 60 85 _ rfl (lv x) _ 10 136 rfl rfl (by decide) (by decide) Tryz.underlying60 Tryz.iLit ?_)
            | (at_builtin; refine wpList_append_rec lK _ rfl _ _ 60 85 rfl _ 136 Tryz.underlying60 Tryz.iLit rfl (by decide) w.heap.size (.slice a0 ys.length c0) ys [x] (some ⟨w2.heap.size, 0, none⟩) 1 1 rfl O2 rfl rfl R2 b3.size hfew ?_; intro v4 w4 o4 g4; have p4 := P3.grown O2 g4 (by decide) (by decide); have b4 := b3.low (grown_low O2 g4 b3.size); have S4 := (Safe.below (ty := 58) (below_alloc w2 (.cells (lv x).toArray 85))).trans (Safe.grown O2 g4 (by decide)))
            | (go_at_call 107; refine (TK.out _ p4).mono ?_; rintro e w5 ⟨rfl, p5, b5⟩))
          have O5 := ownsRow_keep o4 (p4.safe (ty := 85) b5 (by decide))
          have S5 := S4.trans (p4.safe (ty := 58) b5 (by decide))
          have each5 : ∀ y ∈ ys ++ [x], Lv.At w5 y := fun y hy => by
            rcases List.mem_append.1 hy with h1 | h1
            · exact (each y h1).safe ((hp.safe b2 (by decide)).trans S5)
            · obtain rfl := List.mem_singleton.1 h1
              exact hx.safe S5
          have hmap : (ys ++ [x]).map Lv.l = ys.map Lv.l ++ [x.l] := by simp
          refine ⟨⟨ys ++ [x], R.tail, n, by simp only [List.length_append, List.length_cons, List.length_nil]; omega, O5, each5, p5, b4.trans b5, by rw [hmap]; exact HE.out⟩, ?_⟩
          obtain ⟨a5, c5, hv5, _, _⟩ := own_row (D := lK) O5 (by simp only [List.length_append, List.length_cons, List.length_nil]; omega)
          subst hv5
          simp only [lenOf, List.length_append, List.length_cons, List.length_nil]
          show 4 - (ys.length + 1) < 4 - ys.length
          omega
        · have HE := hideP (HAN.out.trans (body_end (n := n) (ys.map Lv.l) hq hc))
          rw [took_eq_no hc] at TK
          clear HAN hq hc
          go_wp2_with (first
            | (go_at_call 74; refine (AL.out _).mono ?_; rintro e w1 ⟨rfl, rfl⟩)
            | (go_at_call 141; refine T.out.mono ?_; rintro e w2 ⟨b2, ⟨u, rfl, ⟨x, rfl, rfl, hx⟩⟩, p2⟩; have O2 := ownsRow_keep hown ((hp.safe (ty := 85) b2 (by decide)).trans (Safe.below (below_alloc w2 (.cells (lv x).toArray 85)))); have R2 := row_new lK w2 (lv x).toArray 85 x rfl; have P3 := p2.below (below_alloc w2 (.cells (lv x).toArray 85)); have b3 := (hb.trans b2).below (below_alloc w2 (.cells (lv x).toArray 85)); have hfew : ys.length + [x].length ≤ 879609302220 := (by simp only [List.length_cons, List.length_nil]; omega))
            | (refine wpList_build_one rfl 60 85 _ rfl (lv x) _ 10 136 rfl rfl (by decide) (by decide) Tryz.underlying60 Tryz.iLit ?_)
            | (at_builtin; refine wpList_append_rec lK _ rfl _ _ 60 85 rfl _ 136 Tryz.underlying60 Tryz.iLit rfl (by decide) w.heap.size (.slice a0 ys.length c0) ys [x] (some ⟨w2.heap.size, 0, none⟩) 1 1 rfl O2 rfl rfl R2 b3.size hfew ?_; intro v4 w4 o4 g4; have p4 := P3.grown O2 g4 (by decide) (by decide); have b4 := b3.low (grown_low O2 g4 b3.size); have S4 := (Safe.below (ty := 58) (below_alloc w2 (.cells (lv x).toArray 85))).trans (Safe.grown O2 g4 (by decide)))
            | (go_at_call 107; refine (TK.out _ p4).mono ?_; rintro e w5 ⟨rfl, p5, b5⟩))
          have O5 := ownsRow_keep o4 (p4.safe (ty := 85) b5 (by decide))
          have S5 := S4.trans (p4.safe (ty := 58) b5 (by decide))
          have each5 : ∀ y ∈ ys ++ [x], Lv.At w5 y := fun y hy => by
            rcases List.mem_append.1 hy with h1 | h1
            · exact (each y h1).safe ((hp.safe b2 (by decide)).trans S5)
            · obtain rfl := List.mem_singleton.1 h1
              exact hx.safe S5
          have hmap : (ys ++ [x]).map Lv.l = ys.map Lv.l ++ [x.l] := by simp
          obtain ⟨a5, c5, hv5, r5, _⟩ := own_row (D := lK) O5 (by simp only [List.length_append, List.length_cons, List.length_nil]; omega)
          go_ret
          rw [HE.out]
          exact does_ok (b4.trans b5) ⟨a5, c5, ys ++ [x], hv5, hmap, r5, each5⟩ p5

set_option maxRecDepth 100000 in
set_option maxHeartbeats 4000000 in
theorem rule_at (p E : Nat) (L : List Lx.Tok) (w : World) (h : PAt w p E L) :
    Calls Tryz.prog 75 #[ptr p] w (Does p E w (Ps.rule E L) vRule) := by
  have HM := hideP (fun L w hp => term_at p E L w hp)
  have HN := hideP (fun s L w hp => need_at p E 5 s L w hp (by decide))
  have HAt := hideP (fun L w hp => atom_at p E L w hp)
  have HBd := hideP (fun L w hp => body_at p E L w hp)
  have HT := hideP (fun L w hp => took_at p E 1 [116, 111] L w hp (by decide))
  have iN : (Tryz.prog.info? 62).map (·.size) = some 11 := by kernel_rfl
  have hp := h.lt
  have B0 := below_alloc w zR
  have V0 := new_rule w
  have P0 := h.below B0
  have b0 : But p w (w.alloc zR) := But.of_below B0
  go_enter Tryz.func75, Tryz.ntmps75
  go_wp2_with fail
  refine (HM.out _ _ P0).mono ?_
  generalize hx : Ps.term E L = r1
  rintro e w1 ⟨b1, hd⟩
  generalize hS : w.heap.size = S at *
  have HS := hideP hS; clear hS
  have B1 := b0.trans b1
  rcases r1 with x | ⟨h0, L1⟩
  · obtain rfl := hd
    have HX := hideP hx; clear hx
    simp only [Pan]
    go_wp2_with fail
    exact ⟨rfl, by unfold Ps.rule; rw [HX.out]; exact does_no B1⟩
  have H1 := hideP hx; clear hx
  obtain ⟨⟨_, rfl, rfl⟩, p1⟩ := hd
  have V1 := b1.heap (show S ≠ p by omega) V0
  clear V0 P0 b0 b1 B0
  go_wp2_with (first
    | (refine wpList_store_rec rfl 58 _ _ rfl S 0 11 4 62 (tv h0) (rcs h0 [] (.slice none 0 0) t0 (.slice none 0 0)).toArray rfl rfl V1 rfl rfl (by decide) (by kernel_rfl) rfl rfl ?_; intro w2 V2 b2))
  have p2 := p1.but b2 V1 (by decide) (by decide)
  have B2 := B1.fresh b2 (Nat.le_of_eq HS.out)
  clear V1 p1 B1 b2
  refine (HN.out [58] L1 w2 p2).mono ?_
  generalize hx : Ps.need E 5 [58] L1 = r3
  rintro e w3 ⟨b3, hd⟩
  have B3 := B2.trans b3
  rcases r3 with x | ⟨_, L2⟩
  · obtain rfl := hd
    have HX := hideP hx; clear hx
    simp only [Pan]
    go_wp2_with fail
    exact ⟨rfl, by unfold Ps.rule; rw [H1.out, Ps.bnd_ok, HX.out]; exact does_no B3⟩
  have H3 := hideP hx; clear hx
  obtain ⟨⟨_, rfl, rfl⟩, p3⟩ := hd
  have V3 := b3.heap (show S ≠ p by omega) V2
  clear V2 p2 B2 b3
  go_wp2_with fail
  refine (HAt.out L2 w3 p3).mono ?_
  generalize hx : Ps.atom E L2 = r4
  rintro e w4 ⟨b4, hd⟩
  have B4 := B3.trans b4
  rcases r4 with x | ⟨⟨pr, ts⟩, L3⟩
  · obtain rfl := hd
    have HX := hideP hx; clear hx
    simp only [Pan]
    go_wp2_with fail
    exact ⟨rfl, by unfold Ps.rule; rw [H1.out, Ps.bnd_ok, H3.out, Ps.bnd_ok, HX.out]; exact does_no B4⟩
  have H4 := hideP hx; clear hx
  obtain ⟨⟨_, rfl, ⟨a4, c4, rfl, r4⟩⟩, p4⟩ := hd
  have V4 := b4.heap (show S ≠ p by omega) V3
  go_wp2_with (first
    | (refine wpList_store_cel rfl 9 _ _ rfl S 4 11 62 (str pr) (rcs h0 pr (.slice none 0 0) t0 (.slice none 0 0)).toArray rfl rfl V4 rfl (by decide) (by kernel_rfl) rfl rfl ?_; intro z5 U5 d5)
    | (refine wpList_store_cel rfl 59 _ _ rfl S 5 11 62 (.slice a4 ts.length c4) (rcs h0 pr (.slice a4 ts.length c4) t0 (.slice none 0 0)).toArray rfl rfl U5 rfl (by decide) (by kernel_rfl) rfl rfl ?_; intro w5 V5 b5))
  have p5 := (p4.but d5 V4 (by decide) (by decide)).but b5 U5 (by decide) (by decide)
  have r5 := (r4.safe (Safe.but d5 V4 (by decide))).safe (Safe.but b5 U5 (by decide))
  have B5 := (B4.fresh d5 (Nat.le_of_eq HS.out)).fresh b5 (Nat.le_of_eq HS.out)
  clear V3 p3 B3 b4 p4 r4 B4 V4 U5 d5 b5
  have TK := HT.out L3 w5 p5
  by_cases hc : Ps.isT 1 [116, 111] (Ps.hd L3) = true
  · rw [took_eq_yes hc] at TK
    have HC := hideP hc; clear hc
    refine TK.mono ?_
    rintro e z6 ⟨rfl, q6, d6⟩
    have U6 := d6.heap (show S ≠ p by omega) V5
    have t6 := r5.safe (p5.safe d6 (by decide))
    have D6 := B5.trans d6
    clear TK V5 p5 r5 B5 d6
    go_wp2_with fail
    refine (HM.out L3.tail z6 q6).mono ?_
    generalize hx : Ps.term E L3.tail = r6
    rintro e z7 ⟨d7, hd⟩
    have D7 := D6.trans d7
    rcases r6 with x | ⟨to, L4⟩
    · obtain rfl := hd
      have HX := hideP hx; clear hx
      simp only [Pan]
      go_wp2_with fail
      exact ⟨rfl, by unfold Ps.rule; rw [H1.out, Ps.bnd_ok, H3.out, Ps.bnd_ok, H4.out, Ps.bnd_ok]; unfold Ps.opt Ps.to; rw [if_pos HC.out, HX.out]; exact does_no D7⟩
    have H6 := hideP hx; clear hx
    obtain ⟨⟨_, rfl, rfl⟩, q7⟩ := hd
    have U7 := d7.heap (show S ≠ p by omega) U6
    have t7 := t6.safe (q6.safe d7 (by decide))
    go_wp2_with (first
      | (refine wpList_store_rec rfl 58 _ _ rfl S 6 11 4 62 (tv to) (rcs h0 pr (.slice a4 ts.length c4) to (.slice none 0 0)).toArray rfl rfl U7 rfl rfl (by decide) (by kernel_rfl) rfl rfl ?_; intro w6 V6 d8))
    have p6 := q7.but d8 U7 (by decide) (by decide)
    have r6 := t7.safe (Safe.but d8 U7 (by decide))
    have B6 := D7.fresh d8 (Nat.le_of_eq HS.out)
    have HEQ : Hid (Ps.rule E L = Ps.bnd (Ps.need E 5 [58, 45] L4) fun _ L5 => Ps.bnd (Ps.body E 4 L5) fun b L6 => Ps.bnd (Ps.need E 5 [46] L6) fun _ L7 => .ok (⟨h0, pr, ts, to, b⟩, L7)) := by
      show _ = _
      unfold Ps.rule; rw [H1.out, Ps.bnd_ok, H3.out, Ps.bnd_ok, H4.out, Ps.bnd_ok]; unfold Ps.opt Ps.to; rw [if_pos HC.out, H6.out]; rfl
    clear U6 t6 D6 q6 d7 D7 q7 U7 t7 d8 H1 H3 H4 H6 HC
    refine (HN.out [58, 45] L4 w6 p6).mono ?_
    generalize hx : Ps.need E 5 [58, 45] L4 = r7
    rintro e w7 ⟨b7, hd⟩
    have B7 := B6.trans b7
    rcases r7 with x | ⟨_, L5⟩
    · obtain rfl := hd
      have HX := hideP hx; clear hx
      simp only [Pan]
      go_wp2_with fail
      exact ⟨rfl, by rw [HEQ.out, HX.out]; exact does_no B7⟩
    have H7 := hideP hx; clear hx
    obtain ⟨⟨_, rfl, rfl⟩, p7⟩ := hd
    have V7 := b7.heap (show S ≠ p by omega) V6
    have r7 := r6.safe (p6.safe b7 (by decide))
    clear V6 p6 r6 B6 b7
    go_wp2_with fail
    refine (HBd.out L5 w7 p7).mono ?_
    generalize hx : Ps.body E 4 L5 = r8
    rintro e w8 ⟨b8, hd⟩
    have B8 := B7.trans b8
    rcases r8 with x | ⟨ls, L6⟩
    · obtain rfl := hd
      have HX := hideP hx; clear hx
      simp only [Pan]
      go_wp2_with fail
      exact ⟨rfl, by rw [HEQ.out, H7.out, Ps.bnd_ok, HX.out]; exact does_no B8⟩
    have H8 := hideP hx; clear hx
    obtain ⟨⟨_, rfl, ⟨a8, c8, xs, rfl, hls, s8, e8⟩⟩, p8⟩ := hd
    have V8 := b8.heap (show S ≠ p by omega) V7
    have r8 := r7.safe (p7.safe b8 (by decide))
    clear V7 p7 r7 B7 b8
    have HLS := hideP hls; clear hls
    go_wp2_with (first
      | (refine wpList_store_cel rfl 60 _ _ rfl S 10 11 62 (.slice a8 xs.length c8) (rcs h0 pr (.slice a4 ts.length c4) to (.slice a8 xs.length c8)).toArray rfl rfl V8 rfl (by decide) (by kernel_rfl) rfl rfl ?_; intro w9 V9 b9))
    have p9 := p8.but b9 V8 (by decide) (by decide)
    have r9 := r8.safe (Safe.but b9 V8 (by decide))
    have s9 := s8.safe (Safe.but b9 V8 (by decide))
    have e9 : ∀ y ∈ xs, Lv.At w9 y := fun y hy => (e8 y hy).safe (Safe.but b9 V8 (by decide))
    have B9 := B8.fresh b9 (Nat.le_of_eq HS.out)
    clear V8 p8 r8 s8 e8 B8 b9
    refine (HN.out [46] L6 w9 p9).mono ?_
    generalize hx : Ps.need E 5 [46] L6 = r10
    rintro e w10 ⟨b10, hd⟩
    have B10 := B9.trans b10
    rcases r10 with x | ⟨_, L7⟩
    · obtain rfl := hd
      have HX := hideP hx; clear hx
      simp only [Pan]
      go_wp2_with fail
      exact ⟨rfl, by rw [HEQ.out, H7.out, Ps.bnd_ok, H8.out, Ps.bnd_ok, HX.out]; exact does_no B10⟩
    have H10 := hideP hx; clear hx
    obtain ⟨⟨_, rfl, rfl⟩, p10⟩ := hd
    have V10 := b10.heap (show S ≠ p by omega) V9
    have sT := p9.safe (ty := 58) b10 (by decide)
    have sL := p9.safe (ty := 85) b10 (by decide)
    go_wp2_with (first
      | (refine wpList_load_all rfl 62 _ rfl S 11 62 (rcs h0 pr (.slice a4 ts.length c4) to (.slice a8 xs.length c8)) _ rfl V10 rfl Tryz.underlying62 rfl iN ?_)
      | (refine wpList_store_all rfl 62 _ _ rfl S 11 _ 62 (rcs h0 pr (.slice a4 ts.length c4) to (.slice a8 xs.length c8)) rfl rfl V10 rfl rfl iN rfl ?_; intro w11 V11 b11))
    have p11 := p10.but b11 V10 (by decide) (by decide)
    have zT := sT.trans (Safe.but (ty := 58) b11 V10 (by decide))
    have zL := sL.trans (Safe.but (ty := 85) b11 V10 (by decide))
    have B11 := B10.fresh b11 (Nat.le_of_eq HS.out)
    refine bodyPost_ret (results_cell (b := S) rfl rfl V11 Tryz.underlying62 rfl (by kernel_rfl)) rfl ?_
    rw [HEQ.out, H7.out, Ps.bnd_ok, H8.out, Ps.bnd_ok, H10.out, Ps.bnd_ok]
    exact does_ok B11 ⟨⟨h0, pr, a4, c4, ts, to, a8, c8, xs⟩, rfl, by show Ru.mk _ _ _ _ _ = _; rw [HLS.out], ⟨r9.safe zT, s9.safe zL, fun y hy => (e9 y hy).safe zT⟩⟩ p11
  · rw [took_eq_no hc] at TK
    have HC := hideP hc; clear hc
    refine TK.mono ?_
    rintro e w6 ⟨rfl, p6', d6⟩
    obtain ⟨to, hto⟩ : ∃ to, to = t0 := ⟨t0, rfl⟩
    obtain ⟨L4, hL4⟩ : ∃ L4, L4 = L3 := ⟨L3, rfl⟩
    have p6 : PAt w6 p E L4 := by rw [hL4]; exact p6'
    have V6 : w6.heap[S]? = some (.cells (rcs h0 pr (.slice a4 ts.length c4) to (.slice none 0 0)).toArray 62) := by rw [hto]; exact d6.heap (show S ≠ p by omega) V5
    have r6 := r5.safe (p5.safe d6 (by decide))
    have B6 := B5.trans d6
    have HEQ : Hid (Ps.rule E L = Ps.bnd (Ps.need E 5 [58, 45] L4) fun _ L5 => Ps.bnd (Ps.body E 4 L5) fun b L6 => Ps.bnd (Ps.need E 5 [46] L6) fun _ L7 => .ok (⟨h0, pr, ts, to, b⟩, L7)) := by
      show _ = _
      rw [hto, hL4]
      unfold Ps.rule; rw [H1.out, Ps.bnd_ok, H3.out, Ps.bnd_ok, H4.out, Ps.bnd_ok]; unfold Ps.opt Ps.to; rw [if_neg HC.out]; rfl
    clear TK V5 p5 r5 B5 d6 p6' hto hL4 H1 H3 H4 HC
    go_wp2_with fail
    refine (HN.out [58, 45] L4 w6 p6).mono ?_
    generalize hx : Ps.need E 5 [58, 45] L4 = r7
    rintro e w7 ⟨b7, hd⟩
    have B7 := B6.trans b7
    rcases r7 with x | ⟨_, L5⟩
    · obtain rfl := hd
      have HX := hideP hx; clear hx
      simp only [Pan]
      go_wp2_with fail
      exact ⟨rfl, by rw [HEQ.out, HX.out]; exact does_no B7⟩
    have H7 := hideP hx; clear hx
    obtain ⟨⟨_, rfl, rfl⟩, p7⟩ := hd
    have V7 := b7.heap (show S ≠ p by omega) V6
    have r7 := r6.safe (p6.safe b7 (by decide))
    clear V6 p6 r6 B6 b7
    go_wp2_with fail
    refine (HBd.out L5 w7 p7).mono ?_
    generalize hx : Ps.body E 4 L5 = r8
    rintro e w8 ⟨b8, hd⟩
    have B8 := B7.trans b8
    rcases r8 with x | ⟨ls, L6⟩
    · obtain rfl := hd
      have HX := hideP hx; clear hx
      simp only [Pan]
      go_wp2_with fail
      exact ⟨rfl, by rw [HEQ.out, H7.out, Ps.bnd_ok, HX.out]; exact does_no B8⟩
    have H8 := hideP hx; clear hx
    obtain ⟨⟨_, rfl, ⟨a8, c8, xs, rfl, hls, s8, e8⟩⟩, p8⟩ := hd
    have V8 := b8.heap (show S ≠ p by omega) V7
    have r8 := r7.safe (p7.safe b8 (by decide))
    clear V7 p7 r7 B7 b8
    have HLS := hideP hls; clear hls
    go_wp2_with (first
      | (refine wpList_store_cel rfl 60 _ _ rfl S 10 11 62 (.slice a8 xs.length c8) (rcs h0 pr (.slice a4 ts.length c4) to (.slice a8 xs.length c8)).toArray rfl rfl V8 rfl (by decide) (by kernel_rfl) rfl rfl ?_; intro w9 V9 b9))
    have p9 := p8.but b9 V8 (by decide) (by decide)
    have r9 := r8.safe (Safe.but b9 V8 (by decide))
    have s9 := s8.safe (Safe.but b9 V8 (by decide))
    have e9 : ∀ y ∈ xs, Lv.At w9 y := fun y hy => (e8 y hy).safe (Safe.but b9 V8 (by decide))
    have B9 := B8.fresh b9 (Nat.le_of_eq HS.out)
    clear V8 p8 r8 s8 e8 B8 b9
    refine (HN.out [46] L6 w9 p9).mono ?_
    generalize hx : Ps.need E 5 [46] L6 = r10
    rintro e w10 ⟨b10, hd⟩
    have B10 := B9.trans b10
    rcases r10 with x | ⟨_, L7⟩
    · obtain rfl := hd
      have HX := hideP hx; clear hx
      simp only [Pan]
      go_wp2_with fail
      exact ⟨rfl, by rw [HEQ.out, H7.out, Ps.bnd_ok, H8.out, Ps.bnd_ok, HX.out]; exact does_no B10⟩
    have H10 := hideP hx; clear hx
    obtain ⟨⟨_, rfl, rfl⟩, p10⟩ := hd
    have V10 := b10.heap (show S ≠ p by omega) V9
    have sT := p9.safe (ty := 58) b10 (by decide)
    have sL := p9.safe (ty := 85) b10 (by decide)
    go_wp2_with (first
      | (refine wpList_load_all rfl 62 _ rfl S 11 62 (rcs h0 pr (.slice a4 ts.length c4) to (.slice a8 xs.length c8)) _ rfl V10 rfl Tryz.underlying62 rfl iN ?_)
      | (refine wpList_store_all rfl 62 _ _ rfl S 11 _ 62 (rcs h0 pr (.slice a4 ts.length c4) to (.slice a8 xs.length c8)) rfl rfl V10 rfl rfl iN rfl ?_; intro w11 V11 b11))
    have p11 := p10.but b11 V10 (by decide) (by decide)
    have zT := sT.trans (Safe.but (ty := 58) b11 V10 (by decide))
    have zL := sL.trans (Safe.but (ty := 85) b11 V10 (by decide))
    have B11 := B10.fresh b11 (Nat.le_of_eq HS.out)
    refine bodyPost_ret (results_cell (b := S) rfl rfl V11 Tryz.underlying62 rfl (by kernel_rfl)) rfl ?_
    rw [HEQ.out, H7.out, Ps.bnd_ok, H8.out, Ps.bnd_ok, H10.out, Ps.bnd_ok]
    exact does_ok B11 ⟨⟨h0, pr, a4, c4, ts, to, a8, c8, xs⟩, rfl, by show Ru.mk _ _ _ _ _ = _; rw [HLS.out], ⟨r9.safe zT, s9.safe zL, fun y hy => (e9 y hy).safe zT⟩⟩ p11
end Go.Proofs.YtdehimbfcilhpaaGreatDoor

/-
  The program's parser: all rules; the closure that catches.
-/
namespace Go.Proofs.YtdehimbfcilhpaaGreatDoor
open Go.RowKit Go.Lib Go.Shelf

def RowsAt (w : World) (l : List Ru) (u : Value) : Prop := ∃ a c xs, u = .slice a (List.length xs) c ∧ xs.map Rv.r = l ∧ RowT rK 62 w a c xs ∧ ∀ x ∈ xs, x.At w
theorem RowsAt.safe {w w' : World} {l : List Ru} {u : Value} (h : RowsAt w l u) (s1 : Safe 62 w w') (s2 : Safe 85 w w') (s3 : Safe 58 w w') : RowsAt w' l u := by
  obtain ⟨a, c, xs, h1, h2, h3, h4⟩ := h
  exact ⟨a, c, xs, h1, h2, h3.safe s1, fun x hx => (h4 x hx).safe s3 s2⟩
theorem RowsAt.below {w w' : World} {l : List Ru} {u : Value} (h : RowsAt w l u) (hb : Below w.heap.size w w') : RowsAt w' l u := h.safe (Safe.below hb) (Safe.below hb) (Safe.below hb)
theorem RowsAt.nil (w : World) : RowsAt w [] (.slice none 0 0) := ⟨none, 0, [], rfl, rfl, RowT.nil _ _ _, fun x hx => by simp at hx⟩
def DoesP (p : Nat) (w : World) (r : Ps.Rs) (e : Ending) (w' : World) : Prop :=
  But p w w' ∧ match r with
  | .ok l => ∃ u, e = .returned u ∧ RowsAt w' l u
  | .error x => e = Pan x
theorem rules_err {E n : Nat} {t : Lx.Tok} {L : List Lx.Tok} (ys : List Ru) {x : Nat × Int} (h : Ps.rule E (t :: L) = .error x) : Ps.rprep ys (Ps.rules E (n + 1) (t :: L)) = .error x := by
  rw [Ps.rules, h]; rfl
theorem rules_more {E n : Nat} {t : Lx.Tok} {L L1 : List Lx.Tok} (ys : List Ru) {r : Ru} (h : Ps.rule E (t :: L) = .ok (r, L1)) : Ps.rprep ys (Ps.rules E (n + 1) (t :: L)) = Ps.rprep (ys ++ [r]) (Ps.rules E n L1) := by
  rw [Ps.rules, h, Ps.rthen, Ps.rprep_snoc]

set_option maxRecDepth 100000 in
set_option maxHeartbeats 4000000 in
theorem program_at (p E : Nat) (L : List Lx.Tok) (w : World) (h : PAt w p E L) :
    Calls Tryz.prog 49 #[ptr p] w (DoesP p w (Ps.rules E 16 L)) := by
  go_enter Tryz.func49, Tryz.ntmps49
  go_wp2_with fail
  go_loopw [2] (fun v wr => ∃ (ys : List Rv) (L' : List Lx.Tok) (n : Nat), ys.length + n = 16 ∧ wr.ownsRow w.heap.size 62 11 v ys.length (ys.flatMap rv) ∧ (∀ y ∈ ys, Rv.At wr y) ∧ PAt wr p E L' ∧ But p w wr ∧ Ps.rules E 16 L = Ps.rprep (ys.map Rv.r) (Ps.rules E n L')) (fun v _ => 16 - lenOf v)
  case atStart => exact ⟨[], L, 16, rfl, ⟨rfl, .inl ⟨rfl, rfl⟩⟩, (fun y hy => by simp at hy), h, But.refl _ _, (Ps.rprep_nil _).symm⟩
  case round =>
    obtain ⟨ys, L', n, hn, hown, each, hp, hb, hans⟩ := hrel
    have HAN := hideP hans
    clear hans
    obtain ⟨a0, c0, rfl, hrow, _⟩ := own_row (D := rK) hown (by omega)
    obtain ⟨ta, tc, x0, x1, tr⟩ := hp.cells
    have few := tr.row.few
    cases L' with
    | nil =>
      simp only [List.length_nil] at x0
      go_wp2_with fail
      go_ret
      rw [HAN.out, Ps.rules_nil]
      exact ⟨hb, _, rfl, a0, c0, ys, rfl, by simp, hrow, each⟩
    | cons t R =>
      simp only [List.length_cons] at x0 few
      have q1 : ((R.length + 1 : Nat) : Int) > 0 := by omega
      cases n with
      | zero =>
        have hy : ys.length = 16 := by omega
        have AL := hideP (allow_full p E 16 (t :: R) wr hp)
        have HE := hideP (HAN.out.trans (show Ps.rprep (ys.map Rv.r) (Ps.rules E 0 (t :: R)) = .error (Ps.many E (t :: R)) from rfl))
        rw [HE.out]
        clear HAN
        rw [hy] at hown ⊢
        by_cases hm : Ps.mayT (Ps.hd (t :: R)) = true
        · simp only [if_pos hm] at AL
          clear hm
          go_wp2_with (first
            | (go_at_call 74; refine AL.out.mono ?_; rintro e w1 ⟨b1, rfl⟩; simp only [Pan]))
          exact ⟨rfl, hb.below b1, rfl⟩
        · simp only [if_neg hm] at AL
          have T := hideP (fun w hp => rule_at p E (t :: R) w hp)
          rw [rule_bad hm] at T
          clear hm
          go_wp2_with (first
            | (go_at_call 74; refine AL.out.mono ?_; rintro e w1 ⟨b1, rfl⟩; have p1 := hp.below b1)
            | (go_at_call 75; refine (T.out _ p1).mono ?_; rintro e w2 ⟨b2, rfl⟩; simp only [Pan]))
          exact ⟨rfl, (hb.below b1).trans b2, rfl⟩
      | succ n =>
        have hy : ¬ (ys.length : Int) = 16 := by omega
        have AL := hideP (fun w => allow_few p (ys.length : Int) 16 w hy)
        have T := hideP (rule_at p E (t :: R) wr hp)
        rcases hq : Ps.rule E (t :: R) with z | ⟨r, L1⟩
        · rw [hq] at T
          have HE := hideP (HAN.out.trans (rules_err (ys.map Rv.r) hq))
          rw [HE.out]
          clear HAN hq
          go_wp2_with (first
            | (go_at_call 74; refine (AL.out _).mono ?_; rintro e w1 ⟨rfl, rfl⟩)
            | (go_at_call 75; refine T.out.mono ?_; rintro e w2 ⟨b2, rfl⟩; simp only [Pan]))
          exact ⟨rfl, hb.trans b2, rfl⟩
        · rw [hq] at T
          have HE := hideP (HAN.out.trans (rules_more (n := n) (ys.map Rv.r) hq))
          clear HAN hq
          go_wp2_with (first
            | (go_at_call 74; refine (AL.out _).mono ?_; rintro e w1 ⟨rfl, rfl⟩)
            | (go_at_call 75; refine T.out.mono ?_; rintro e w2 ⟨b2, ⟨u, rfl, ⟨x, rfl, rfl, hx⟩⟩, p2⟩; have O2 := ownsRow_keep hown ((hp.safe (ty := 62) b2 (by decide)).trans (Safe.below (below_alloc w2 (.cells (rv x).toArray 62)))); have R2 := row_new rK w2 (rv x).toArray 62 x rfl; have P3 := p2.below (below_alloc w2 (.cells (rv x).toArray 62)); have b3 := (hb.trans b2).below (below_alloc w2 (.cells (rv x).toArray 62)); have hfew : ys.length + [x].length ≤ 879609302220 := (by simp only [List.length_cons, List.length_nil]; omega))
            | (refine wpList_build_one rfl 23 62 _ rfl (rv x) _ 11 160 rfl rfl (by decide) (by decide) Tryz.underlying23 Tryz.iRule ?_)
            | (at_builtin; refine wpList_append_rec rK _ rfl _ _ 23 62 rfl _ 160 Tryz.underlying23 Tryz.iRule rfl (by decide) w.heap.size (.slice a0 ys.length c0) ys [x] (some ⟨w2.heap.size, 0, none⟩) 1 1 rfl O2 rfl rfl R2 b3.size hfew ?_; intro v4 w4 o4 g4; have p4 := P3.grown O2 g4 (by decide) (by decide); have b4 := b3.low (grown_low O2 g4 b3.size); have S4 := (Safe.below (ty := 58) (below_alloc w2 (.cells (rv x).toArray 62))).trans (Safe.grown O2 g4 (by decide)); have S5 := (Safe.below (ty := 85) (below_alloc w2 (.cells (rv x).toArray 62))).trans (Safe.grown O2 g4 (by decide))))
          have each5 : ∀ y ∈ ys ++ [x], Rv.At w4 y := fun y hy => by
            rcases List.mem_append.1 hy with h1 | h1
            · exact (each y h1).safe ((hp.safe b2 (by decide)).trans S4) ((hp.safe b2 (by decide)).trans S5)
            · obtain rfl := List.mem_singleton.1 h1
              exact hx.safe S4 S5
          have hmap : (ys ++ [x]).map Rv.r = ys.map Rv.r ++ [x.r] := by simp
          refine ⟨⟨ys ++ [x], L1, n, by simp only [List.length_append, List.length_cons, List.length_nil]; omega, o4, each5, p4, b4, by rw [hmap]; exact HE.out⟩, ?_⟩
          obtain ⟨a5, c5, hv5, _, _⟩ := own_row (D := rK) o4 (by simp only [List.length_append, List.length_cons, List.length_nil]; omega)
          subst hv5
          simp only [lenOf, List.length_append, List.length_cons, List.length_nil]
          show 16 - (ys.length + 1) < 16 - ys.length
          omega

end Go.Proofs.YtdehimbfcilhpaaGreatDoor

/-
  The program's quotation and sign.
-/
namespace Go.Proofs.YtdehimbfcilhpaaGreatDoor
open Go.RowKit Go.Lib Go.Shelf

set_option maxRecDepth 100000 in
set_option maxHeartbeats 1000000 in
theorem quotation_at (l : List UInt8) (i : Nat) (w : World) (hr : l.length ≤ 281474976710656) (hi : i < l.length) :
    Calls Tryz.prog 99 #[str l, .int .i64 (i : Int)] w fun e w' => e = tokR (pres (Lx.quote l i)) ∧ Below w.heap.size w w' := by
  have hsz := str_size l
  have iN : (Tryz.prog.info? 119).map (·.size) = some 4 := by kernel_rfl
  have E := hideP (fun w => endOf_at 135 Lx.plain lplain_at l (i + 1) w enter_quot1 hr hi)
  have R1 := Lx.run_le Lx.plain (l := l) (i := i + 1) hi
  have R2 := Lx.le_run Lx.plain l (i + 1)
  have hw : Lx.quote l i = if l[Lx.run Lx.plain l (i + 1)]?.map (·.toNat) = some 34 then some (⟨4, Lx.sub l (i + 1) (Lx.run Lx.plain l (i + 1)), 0, i⟩, Lx.run Lx.plain l (i + 1) + 1) else none := rfl
  have hs := extract_sub l (i + 1) (Lx.run Lx.plain l (i + 1)) R1
  have hl := Lx.sub_length (i := i + 1) R1
  have hl2 := str_size (Lx.sub l (i + 1) (Lx.run Lx.plain l (i + 1)))
  generalize Lx.run Lx.plain l (i + 1) = j at *
  generalize Lx.sub l (i + 1) j = t at *
  have HW := hideP hw
  clear hw
  have H0 := heap_alloc_new w zTok
  rcases Nat.lt_or_ge j l.length with hj | hj
  · have hj' : ((j : Int) == (l.length : Int)) = false := by simp; omega
    have hj2 : (j : Int) < (l.length : Int) := by omega
    have hy := hideP (fun h : l[j].toNat = 34 => show Lx.quote l i = some (⟨4, t, 0, i⟩, j + 1) by rw [HW.out, if_pos (by simp [hj, h])])
    have hn := hideP (fun h : ¬ l[j].toNat = 34 => show Lx.quote l i = none by rw [HW.out, if_neg (by simp [hj, h])])
    clear HW
    have hg : ∀ h, ((⟨l.toArray⟩ : ByteArray)[j]'h).toNat = l[j].toNat := fun _ => rfl
    generalize hx : l[j].toNat = x at *
    simp only [hx] at hg
    go_enter Tryz.func99, Tryz.ntmps99
    go_wp2_with (first
      | (go_at_call 92; refine (E.out _).mono ?_; rintro e w1 ⟨rfl, rfl⟩)
      | (refine wpList_store_all rfl 119 _ _ rfl w.heap.size 4 _ 119 _ rfl rfl H0 rfl rfl iN rfl ?_; intro w4 H4 b4))
    all_goals (try simp only [beq_iff_eq] at *)
    all_goals (try simp only [beq_eq_false_iff_ne] at *)
    all_goals (try simp only [bne_iff_ne] at *)
    all_goals (try simp only [bne_eq_false_iff_eq] at *)
    all_goals refine bodyPost_ret (results_cell_two rfl rfl H4 Tryz.underlying119 rfl (by kernel_rfl)) rfl ⟨?_, below_tok b4⟩
    · rw [hn.out (by omega)]; rfl
    · rw [hy.out (by omega), pres, if_pos (by simp only [hl]; omega)]; rfl
    · rw [hy.out (by omega), pres, if_neg (by simp only [hl]; omega)]; rfl
  · have hj' : ((j : Int) == (l.length : Int)) = true := by simp; omega
    go_enter Tryz.func99, Tryz.ntmps99
    go_wp2_with (first
      | (go_at_call 92; refine (E.out _).mono ?_; rintro e w1 ⟨rfl, rfl⟩)
      | (refine wpList_store_all rfl 119 _ _ rfl w.heap.size 4 _ 119 _ rfl rfl H0 rfl rfl iN rfl ?_; intro w4 H4 b4))
    refine bodyPost_ret (results_cell_two rfl rfl H4 Tryz.underlying119 rfl (by kernel_rfl)) rfl ⟨?_, below_tok b4⟩
    rw [HW.out, List.getElem?_eq_none hj]; rfl

set_option maxRecDepth 100000 in
set_option maxHeartbeats 1000000 in
theorem sign_at (l : List UInt8) (i : Nat) (w : World) (hr : l.length ≤ 281474976710656) (hi : i < l.length) :
    Calls Tryz.prog 100 #[str l, .int .i64 (i : Int)] w fun e w' => e = tokR (pres (Lx.sign l i l[i])) ∧ Below w.heap.size w w' := by
  have hsz := str_size l
  have iN : (Tryz.prog.info? 119).map (·.size) = some 4 := by kernel_rfl
  have hi' : (i : Int) < (l.length : Int) := by omega
  have hg : ∀ h, ((⟨l.toArray⟩ : ByteArray)[i]'h).toNat = l[i].toNat := fun _ => rfl
  have s1 : (⟨l.toArray⟩ : ByteArray).extract i (i + 1) = ⟨[l[i]].toArray⟩ := by
    rw [extract_sub l i (i + 1) hi]
    congr 2
    unfold Lx.sub
    rw [show i + 1 - i = 1 by omega, List.drop_eq_getElem_cons hi, List.take_succ_cons, List.take_zero]
  have H0 := heap_alloc_new w zTok
  have w1 := hideP (fun (h : l[i].toNat = 58 ∧ l[i + 1]?.map (·.toNat) = some 45) => show Lx.sign l i l[i] = some (⟨5, [58, 45], 0, i⟩, i + 2) by unfold Lx.sign; rw [if_pos h])
  have w2 := hideP (fun (h : ¬ (l[i].toNat = 58 ∧ l[i + 1]?.map (·.toNat) = some 45)) (h' : Lx.signs l[i] = true) => show Lx.sign l i l[i] = some (⟨5, [l[i]], 0, i⟩, i + 1) by unfold Lx.sign; rw [if_neg h, if_pos h'])
  have w3 := hideP (fun (h : ¬ (l[i].toNat = 58 ∧ l[i + 1]?.map (·.toNat) = some 45)) (h' : Lx.signs l[i] = false) => show Lx.sign l i l[i] = none by unfold Lx.sign; rw [if_neg h, if_neg (by simp [h'])])
  have hsg : Lx.signs l[i] = (decide (l[i].toNat = 40) || decide (l[i].toNat = 41) || decide (l[i].toNat = 44) || decide (l[i].toNat = 46) || decide (l[i].toNat = 58)) := rfl
  have HSG := hideP hsg
  clear hsg
  rcases Nat.lt_or_ge (i + 1) l.length with hj | hj
  · have hj' : ((i : Int) + 1 < (l.length : Int)) := by omega
    have hg2 : ∀ h, ((⟨l.toArray⟩ : ByteArray)[i + 1]'h).toNat = l[i + 1].toNat := fun _ => rfl
    have hm := hideP (show (l[i + 1]?.map (·.toNat) = some 45) ↔ l[i + 1].toNat = 45 by simp [hj])
    have s2 := hideP (fun (h1 : l[i].toNat = 58) (h2 : l[i + 1].toNat = 45) => show (⟨l.toArray⟩ : ByteArray).extract i (i + 2) = ⟨[58, 45].toArray⟩ by
      rw [extract_sub l i (i + 2) hj]
      congr 2
      unfold Lx.sub
      rw [show i + 2 - i = 2 by omega, List.drop_eq_getElem_cons hi, List.drop_eq_getElem_cons hj, show l[i] = 58 from UInt8.toNat_inj.1 h1, show l[i + 1] = 45 from UInt8.toNat_inj.1 h2, List.take_succ_cons, List.take_succ_cons, List.take_zero])
    go_enter Tryz.func100, Tryz.ntmps100
    go_wp2_with (first
      | (refine wpList_store_all rfl 119 _ _ rfl w.heap.size 4 _ 119 _ rfl rfl H0 rfl rfl iN rfl ?_; intro w4 H4 b4))
    all_goals (try simp only [beq_iff_eq] at *)
    all_goals (try simp only [beq_eq_false_iff_ne] at *)
    all_goals (try simp only [bne_iff_ne] at *)
    all_goals (try simp only [bne_eq_false_iff_eq] at *)
    all_goals refine bodyPost_ret (results_cell_two rfl rfl H4 Tryz.underlying119 rfl (by kernel_rfl)) rfl ⟨?_, below_tok b4⟩
    all_goals first
      | (rw [w2.out (by rw [hm.out]; omega) (by rw [HSG.out]; simp; omega)]; rfl)
      | (rw [w3.out (by rw [hm.out]; omega) (by rw [HSG.out]; simp; omega)]; rfl)
      | (have e2 : (⟨l.toArray⟩ : ByteArray).extract i (i + 1 + 1) = ⟨[58, 45].toArray⟩ := s2.out (by omega) (by omega)
         rw [e2, w1.out ⟨by omega, hm.out.2 (by omega)⟩]; rfl)
  · have hj' : ¬ ((i : Int) + 1 < (l.length : Int)) := by omega
    have hm := hideP (show ¬ (l[i + 1]?.map (·.toNat) = some 45) by simp [hj])
    go_enter Tryz.func100, Tryz.ntmps100
    go_wp2_with (first
      | (refine wpList_store_all rfl 119 _ _ rfl w.heap.size 4 _ 119 _ rfl rfl H0 rfl rfl iN rfl ?_; intro w4 H4 b4))
    all_goals (try simp only [beq_iff_eq] at *)
    all_goals (try simp only [beq_eq_false_iff_ne] at *)
    all_goals refine bodyPost_ret (results_cell_two rfl rfl H4 Tryz.underlying119 rfl (by kernel_rfl)) rfl ⟨?_, below_tok b4⟩
    all_goals first
      | (rw [w2.out (fun h => hm.out h.2) (by rw [HSG.out]; simp; omega)]; rfl)
      | (rw [w3.out (fun h => hm.out h.2) (by rw [HSG.out]; simp; omega)]; rfl)
end Go.Proofs.YtdehimbfcilhpaaGreatDoor

/-
  The program's number, token.
-/
namespace Go.Proofs.YtdehimbfcilhpaaGreatDoor
open Go.RowKit Go.Lib Go.Shelf

set_option maxRecDepth 100000 in
set_option maxHeartbeats 1000000 in
theorem number_at (l : List UInt8) (i : Nat) (w : World) (hr : l.length ≤ 281474976710656) (hi : i < l.length) (hc : (Lx.digit l[i] || decide (l[i].toNat = 45)) = true) (hL : Laid w) :
    Calls Tryz.prog 98 #[str l, .int .i64 (i : Int)] w fun e w' => e = tokR (pres (Lx.number l i)) ∧ Below w.heap.size w w' := by
  have hsz := str_size l
  have iN : (Tryz.prog.info? 119).map (·.size) = some 4 := by kernel_rfl
  have E := hideP (fun w => endOf_at 97 Lx.digit ldigit_at l (i + 1) w enter_digit hr hi)
  have R1 := Lx.run_le Lx.digit (l := l) (i := i + 1) hi
  have R2 := Lx.le_run Lx.digit l (i + 1)
  obtain ⟨n1, n2⟩ := Lx.number_run hi hc
  have hd := Lx.run_digits l (Lx.first l i)
  have hn : Lx.number l i = (Lx.numOf (Lx.isNeg l i) (Lx.sub l (Lx.first l i) (Lx.run Lx.digit l (Lx.first l i)))).map fun v => (⟨3, [], v, i⟩, Lx.run Lx.digit l (Lx.first l i)) := rfl
  have hs := extract_sub l i (Lx.run Lx.digit l (i + 1)) R1
  have hl := Lx.sub_length (i := i) R1
  rw [n1] at n2 hd hn
  generalize Lx.sub l (Lx.first l i) (Lx.run Lx.digit l (i + 1)) = ds at *
  generalize Lx.isNeg l i = neg at *
  generalize Lx.run Lx.digit l (i + 1) = j at *
  clear n1
  generalize Lx.sub l i j = s at *
  have hls : s.length ≤ 281474976710656 := by omega
  have q0 : (0 : Int) ≤ (i : Int) := by omega
  have q1 : (i : Int) ≤ (j : Int) := by omega
  have q2 : (j : Int) ≤ (l.length : Int) := by omega
  have H0 := heap_alloc_new w zTok
  have B0 := below_alloc w zTok
  have L0 := hL.below B0
  have HN := hideP hn
  have N2 := hideP n2
  have HD := hideP hd
  clear hn n2 hd
  by_cases hok : ∃ v, Lib.atoiAll s = .ok v
  · obtain ⟨v, hv⟩ := hok
    have bd := Lib.atoiAll_bounds hv
    obtain ⟨bd1, bd2⟩ := bd
    have hy := hideP (fun h : itoa v = s => show Lx.number l i = some (⟨3, [], v, i⟩, j) by
      rw [HN.out]
      cases hk : Lx.numOf neg ds with
      | none => exact absurd (h.trans N2.out) (Lx.num_no HD.out hk (by rw [← N2.out]; exact hv))
      | some v' =>
        have := (Lx.num_yes HD.out hk).1
        rw [← N2.out, hv] at this
        cases this; rfl)
    have hn := hideP (fun h : itoa v ≠ s => show Lx.number l i = none by
      rw [HN.out]
      cases hk : Lx.numOf neg ds with
      | none => rfl
      | some v' =>
        obtain ⟨h1, h2⟩ := Lx.num_yes HD.out hk
        rw [← N2.out, hv] at h1
        cases h1
        exact absurd (h2.trans N2.out.symm) h)
    have A := hideP (fun w => atoi_ok s v w hls hv)
    have I := hideP (fun w hL => itoa_at v w bd1 bd2 hL)
    go_enter Tryz.func98, Tryz.ntmps98
    go_wp2_with (first
      | (go_at_call 92; refine (E.out _).mono ?_; rintro e w1 ⟨rfl, rfl⟩)
      | fail)
    refine (A.out _).mono ?_; rintro e w1 ⟨rfl, b1⟩
    have H1 := below_heap b1 H0
    have L1 := (L0.below b1).drew
    have D1 : Below w1.heap.size w1 w1.drew := (Below.refl _ _).drew
    go_wp2_with fail
    go_region_held3 (fun _ => True) (trivial) (first | (go_at_call 134; refine (I.out _ L1).mono ?_; rintro e w2 ⟨rfl, b2⟩))
    all_goals (have H2 := below_heap b2 (below_heap D1 H1))
    all_goals (have B2 : Below w.heap.size w w2 := (Below.then B0 b1).trans ((D1.trans b2).mono (Below.then B0 b1).size))
    all_goals (have z2 := B2.size)
    all_goals go_wp2_with (refine wpList_store_all rfl 119 _ _ rfl w.heap.size 4 _ 119 _ rfl rfl H2 rfl rfl iN rfl ?_; intro w4 H4 b4)
    all_goals refine bodyPost_ret (results_cell_two rfl rfl H4 Tryz.underlying119 rfl (by kernel_rfl)) rfl ⟨?_, B2.trans (b4.lower (Nat.le_refl _) z2)⟩
    all_goals first
      | (rw [hy.out (by simpa using ‹(!itoa v == s) = false›)]; rfl)
      | (rw [hn.out (by simpa using ‹(!itoa v == s) = true›)]; rfl)
  · have A := hideP (fun w hL => atoi_no s w hls hL hok)
    go_enter Tryz.func98, Tryz.ntmps98
    go_wp2_with (first
      | (go_at_call 92; refine (E.out _).mono ?_; rintro e w1 ⟨rfl, rfl⟩)
      | fail)
    refine (A.out _ L0).mono ?_; rintro e w1 ⟨⟨n, N, rfl⟩, b1⟩
    have H1 := below_heap b1 H0
    go_wp2_with fail
    go_quiet (fail)
    have hn := hideP (show Lx.number l i = none by
      rw [HN.out]
      cases hk : Lx.numOf neg ds with
      | none => rfl
      | some v' => exact absurd ⟨v', by rw [N2.out]; exact (Lx.num_yes HD.out hk).1⟩ hok)
    have D1 : Below w1.heap.size w1 (w1.drewN nq) := (Grew.drewN w1 nq).below
    generalize w1.drewN nq = w2 at *
    have H2 := below_heap D1 H1
    have B2 : Below w.heap.size w w2 := (Below.then B0 b1).trans (D1.mono (Below.then B0 b1).size)
    have z2 := B2.size
    go_wp2_with (refine wpList_store_all rfl 119 _ _ rfl w.heap.size 4 _ 119 _ rfl rfl H2 rfl rfl iN rfl ?_; intro w4 H4 b4)
    refine bodyPost_ret (results_cell_two rfl rfl H4 Tryz.underlying119 rfl (by kernel_rfl)) rfl ⟨?_, B2.trans (b4.lower (Nat.le_refl _) z2)⟩
    rw [hn.out]; rfl

theorem tok_open {P : Program} {f : FuncId} {args : Array Value} {w : World} {r : Lx.Tok × Nat × Int} {B : World → Prop} (h : Calls P f args w fun e w' => e = tokR r ∧ B w') :
    Calls P f args w fun e w' => e = .returned (.tuple #[.agg (tokv r.1).toArray, .int .i64 (r.2.1 : Int), .int .i64 r.2.2]) ∧ B w' := h

set_option maxRecDepth 100000 in
set_option maxHeartbeats 1000000 in
theorem token_at (l : List UInt8) (i : Nat) (w : World) (hr : l.length ≤ 281474976710656) (hi : i < l.length) (hL : Laid w) :
    Calls Tryz.prog 73 #[str l, .int .i64 (i : Int)] w fun e w' => e = tokR (pres (Lx.one l i)) ∧ Below w.heap.size w w' := by
  have hsz := str_size l
  have iN : (Tryz.prog.info? 119).map (·.size) = some 4 := by kernel_rfl
  have hi' : (i : Int) < (l.length : Int) := by omega
  have hg : ∀ h, ((⟨l.toArray⟩ : ByteArray)[i]'h).toNat = l[i].toNat := fun _ => rfl
  have H0 := heap_alloc_new w zTok
  have B0 := below_alloc w zTok
  have L0 := hL.below B0
  have ho : Lx.one l i = if Lx.small l[i] = true then Lx.word 1 l i else if Lx.great l[i] = true then Lx.word 2 l i else if (Lx.digit l[i] || decide (l[i].toNat = 45)) = true then Lx.number l i else if l[i].toNat = 34 then Lx.quote l i else Lx.sign l i l[i] := Lx.one_at hi
  have HO := hideP ho
  clear ho
  have W1 := hideP (fun w => word_at 1 l i w hr (Nat.le_of_lt hi))
  have W2 := hideP (fun w => word_at 2 l i w hr (Nat.le_of_lt hi))
  have NU := hideP (fun w hc hL => number_at l i w hr hi hc hL)
  have QU := hideP (fun w => quotation_at l i w hr hi)
  have SI := hideP (fun w => sign_at l i w hr hi)
  have C1 := hideP (lsmall_at l[i])
  have C2 := hideP (lgreat_at l[i])
  have C3 := hideP (ldigit_at l[i])
  have hnd : ∀ r, (Lx.digit l[i] || decide (l[i].toNat = 45)) = r → (Lx.digit l[i] = true ∨ l[i].toNat = 45 ↔ r = true) := fun r h => by subst h; simp
  have HND := hideP hnd
  clear hnd
  generalize Lx.small l[i] = s1 at *
  generalize Lx.great l[i] = s2 at *
  generalize Lx.digit l[i] = s3 at *
  generalize Lx.sign l i l[i] = rs at *
  generalize Lx.quote l i = rq at *
  generalize Lx.word 1 l i = r1 at *
  generalize Lx.word 2 l i = r2 at *
  generalize Lx.number l i = rn at *
  generalize hx : l[i].toNat = x at *
  simp only [hx] at hg
  go_enter Tryz.func73, Tryz.ntmps73
  go_wp2_with (first
    | (go_at_call 94; refine (C1.out _).mono ?_; rintro e w1 ⟨rfl, rfl⟩)
    | (go_at_call 96; refine (C2.out _).mono ?_; rintro e w1 ⟨rfl, rfl⟩)
    | (go_at_call 97; refine (C3.out _).mono ?_; rintro e w1 ⟨rfl, rfl⟩)
    | (go_at_call_of 95 (Value.int .i64 1); refine (tok_open (W1.out _)).mono ?_; rintro e w1 ⟨rfl, b1⟩; have H1 := below_heap b1 H0)
    | (go_at_call_of 95 (Value.int .i64 2); refine (tok_open (W2.out _)).mono ?_; rintro e w1 ⟨rfl, b1⟩; have H1 := below_heap b1 H0)
    | (go_at_call 98; refine (tok_open (NU.out _ (by rw [← (HND.out _ rfl)]; first | (left; assumption) | (right; simp_all; done) | (right; simp_all; omega)) L0)).mono ?_; rintro e w1 ⟨rfl, b1⟩; have H1 := below_heap b1 H0)
    | (go_at_call 99; refine (tok_open (QU.out _)).mono ?_; rintro e w1 ⟨rfl, b1⟩; have H1 := below_heap b1 H0)
    | (go_at_call 100; refine (tok_open (SI.out _)).mono ?_; rintro e w1 ⟨rfl, b1⟩; have H1 := below_heap b1 H0)
    | (refine wpList_store_all rfl 119 _ _ rfl w.heap.size 4 _ 119 _ rfl rfl H1 rfl rfl iN rfl ?_; intro w4 H4 b4))
  all_goals (have B1 := Below.then B0 b1)
  all_goals refine bodyPost_ret (results_cell_two rfl rfl H4 Tryz.underlying119 rfl (by kernel_rfl)) rfl ⟨?_, B1.trans (b4.lower (Nat.le_refl _) B1.size)⟩
  all_goals rw [HO.out]
  all_goals (repeat' split)
  all_goals first | rfl | (exfalso; simp_all; done) | (exfalso; simp_all; omega)
end Go.Proofs.YtdehimbfcilhpaaGreatDoor
