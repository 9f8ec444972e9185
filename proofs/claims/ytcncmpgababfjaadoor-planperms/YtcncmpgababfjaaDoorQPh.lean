/-
  The program's parser: all rules; the closure that catches.
-/
import Derived.Test.YtcncmpgababfjaaDoorQPg
namespace Go.Proofs.YtcncmpgababfjaaDoor
open Go.RowKit Go.Lib Go.Shelf

def RowsAt (w : World) (l : List Ru) (u : Value) : Prop := ∃ a c xs, u = .slice a (List.length xs) c ∧ xs.map Rv.r = l ∧ RowT rK 29 w a c xs ∧ ∀ x ∈ xs, x.At w
theorem RowsAt.safe {w w' : World} {l : List Ru} {u : Value} (h : RowsAt w l u) (s1 : Safe 29 w w') (s2 : Safe 39 w w') (s3 : Safe 25 w w') : RowsAt w' l u := by
  obtain ⟨a, c, xs, h1, h2, h3, h4⟩ := h
  exact ⟨a, c, xs, h1, h2, h3.safe s1, fun x hx => (h4 x hx).safe s3 s2⟩
theorem RowsAt.below {w w' : World} {l : List Ru} {u : Value} (h : RowsAt w l u) (hb : Below w.heap.size w w') : RowsAt w' l u := h.safe (Safe.below hb) (Safe.below hb) (Safe.below hb)
theorem RowsAt.nil (w : World) : RowsAt w [] (.slice none 0 0) := ⟨none, 0, [], rfl, rfl, RowT.nil _ _ _, fun x hx => by simp at hx⟩
def DoesP (p : Nat) (w : World) (r : Ps.Rs) (e : Ending) (w' : World) : Prop :=
  But p w w' ∧ match r with
  | .ok l => ∃ u, e = .returned u ∧ RowsAt w' l u
  | .error x => e = Pan x
theorem rules_err {E n : Nat} {t : Lx.Tok} {L : List Lx.Tok} (ys : List Ru) {x : Nat × Int} (h : Ps.rule E (t :: L) = .error x) : Ps.rprep ys (Ps.rules E (n + 1) (t :: L)) = .error x := by
  rw [Ps.rules, h]; rfl
theorem rules_more {E n : Nat} {t : Lx.Tok} {L L1 : List Lx.Tok} (ys : List Ru) {r : Ru} (h : Ps.rule E (t :: L) = .ok (r, L1)) : Ps.rprep ys (Ps.rules E (n + 1) (t :: L)) = Ps.rprep (ys ++ [r]) (Ps.rules E n L1) := by
  rw [Ps.rules, h, Ps.rthen, Ps.rprep_snoc]

set_option maxRecDepth 100000 in
set_option maxHeartbeats 4000000 in
theorem program_at (p E : Nat) (L : List Lx.Tok) (w : World) (h : PAt w p E L) :
    Calls Tryd.prog 19 #[ptr p] w (DoesP p w (Ps.rules E 16 L)) := by
  go_enter Tryd.func19, Tryd.ntmps19
  go_wp2_with fail
  go_loopw [2] (fun v wr => ∃ (ys : List Rv) (L' : List Lx.Tok) (n : Nat), ys.length + n = 16 ∧ wr.ownsRow w.heap.size 29 11 v ys.length (ys.flatMap rv) ∧ (∀ y ∈ ys, Rv.At wr y) ∧ PAt wr p E L' ∧ But p w wr ∧ Ps.rules E 16 L = Ps.rprep (ys.map Rv.r) (Ps.rules E n L')) (fun v _ => 16 - lenOf v)
  case atStart => exact ⟨[], L, 16, rfl, ⟨rfl, .inl ⟨rfl, rfl⟩⟩, (fun y hy => by simp at hy), h, But.refl _ _, (Ps.rprep_nil _).symm⟩
  case round =>
    obtain ⟨ys, L', n, hn, hown, each, hp, hb, hans⟩ := hrel
    have HAN := hideP hans
    clear hans
    obtain ⟨a0, c0, rfl, hrow, _⟩ := own_row (D := rK) hown (by omega)
    obtain ⟨ta, tc, x0, x1, tr⟩ := hp.cells
    have few := tr.row.few
    cases L' with
    | nil =>
      simp only [List.length_nil] at x0
      go_wp2_with fail
      go_ret
      rw [HAN.out, Ps.rules_nil]
      exact ⟨hb, _, rfl, a0, c0, ys, rfl, by simp, hrow, each⟩
    | cons t R =>
      simp only [List.length_cons] at x0 few
      have q1 : ((R.length + 1 : Nat) : Int) > 0 := by omega
      cases n with
      | zero =>
        have hy : ys.length = 16 := by omega
        have AL := hideP (allow_full p E 16 (t :: R) wr hp)
        have HE := hideP (HAN.out.trans (show Ps.rprep (ys.map Rv.r) (Ps.rules E 0 (t :: R)) = .error (Ps.many E (t :: R)) from rfl))
        rw [HE.out]
        clear HAN
        rw [hy] at hown ⊢
        by_cases hm : Ps.mayT (Ps.hd (t :: R)) = true
        · simp only [if_pos hm] at AL
          clear hm
          go_wp2_with (first
            | (go_at_call 25; refine AL.out.mono ?_; rintro e w1 ⟨b1, rfl⟩; simp only [Pan]))
          exact ⟨rfl, hb.below b1, rfl⟩
        · simp only [if_neg hm] at AL
          have T := hideP (fun w hp => rule_at p E (t :: R) w hp)
          rw [rule_bad hm] at T
          clear hm
          go_wp2_with (first
            | (go_at_call 25; refine AL.out.mono ?_; rintro e w1 ⟨b1, rfl⟩; have p1 := hp.below b1)
            | (go_at_call 26; refine (T.out _ p1).mono ?_; rintro e w2 ⟨b2, rfl⟩; simp only [Pan]))
          exact ⟨rfl, (hb.below b1).trans b2, rfl⟩
      | succ n =>
        have hy : ¬ (ys.length : Int) = 16 := by omega
        have AL := hideP (fun w => allow_few p (ys.length : Int) 16 w hy)
        have T := hideP (rule_at p E (t :: R) wr hp)
        rcases hq : Ps.rule E (t :: R) with z | ⟨r, L1⟩
        · rw [hq] at T
          have HE := hideP (HAN.out.trans (rules_err (ys.map Rv.r) hq))
          rw [HE.out]
          clear HAN hq
          go_wp2_with (first
            | (go_at_call 25; refine (AL.out _).mono ?_; rintro e w1 ⟨rfl, rfl⟩)
            | (go_at_call 26; refine T.out.mono ?_; rintro e w2 ⟨b2, rfl⟩; simp only [Pan]))
          exact ⟨rfl, hb.trans b2, rfl⟩
        · rw [hq] at T
          have HE := hideP (HAN.out.trans (rules_more (n := n) (ys.map Rv.r) hq))
          clear HAN hq
          go_wp2_with (first
            | (go_at_call 25; refine (AL.out _).mono ?_; rintro e w1 ⟨rfl, rfl⟩)
            | (go_at_call 26; refine T.out.mono ?_; rintro e w2 ⟨b2, ⟨u, rfl, ⟨x, rfl, rfl, hx⟩⟩, p2⟩; have O2 := ownsRow_keep hown ((hp.safe (ty := 29) b2 (by decide)).trans (Safe.below (below_alloc w2 (.cells (rv x).toArray 29)))); have R2 := row_new rK w2 (rv x).toArray 29 x rfl; have P3 := p2.below (below_alloc w2 (.cells (rv x).toArray 29)); have b3 := (hb.trans b2).below (below_alloc w2 (.cells (rv x).toArray 29)); have hfew : ys.length + [x].length ≤ 879609302220 := (by simp only [List.length_cons, List.length_nil]; omega))
            | (refine wpList_build_one rfl 31 29 _ rfl (rv x) _ 11 160 rfl rfl (by decide) (by decide) Tryd.underlying31 Tryd.iRule ?_)
            | (at_builtin; refine wpList_append_rec rK _ rfl _ _ 31 29 rfl _ 160 Tryd.underlying31 Tryd.iRule rfl (by decide) w.heap.size (.slice a0 ys.length c0) ys [x] (some ⟨w2.heap.size, 0, none⟩) 1 1 rfl O2 rfl rfl R2 b3.size hfew ?_; intro v4 w4 o4 g4; have p4 := P3.grown O2 g4 (by decide) (by decide); have b4 := b3.low (grown_low O2 g4 b3.size); have S4 := (Safe.below (ty := 25) (below_alloc w2 (.cells (rv x).toArray 29))).trans (Safe.grown O2 g4 (by decide)); have S5 := (Safe.below (ty := 39) (below_alloc w2 (.cells (rv x).toArray 29))).trans (Safe.grown O2 g4 (by decide))))
          have each5 : ∀ y ∈ ys ++ [x], Rv.At w4 y := fun y hy => by
            rcases List.mem_append.1 hy with h1 | h1
            · exact (each y h1).safe ((hp.safe b2 (by decide)).trans S4) ((hp.safe b2 (by decide)).trans S5)
            · obtain rfl := List.mem_singleton.1 h1
              exact hx.safe S4 S5
          have hmap : (ys ++ [x]).map Rv.r = ys.map Rv.r ++ [x.r] := by simp
          refine ⟨⟨ys ++ [x], L1, n, by simp only [List.length_append, List.length_cons, List.length_nil]; omega, o4, each5, p4, b4, by rw [hmap]; exact HE.out⟩, ?_⟩
          obtain ⟨a5, c5, hv5, _, _⟩ := own_row (D := rK) o4 (by simp only [List.length_append, List.length_cons, List.length_nil]; omega)
          subst hv5
          simp only [lenOf, List.length_append, List.length_cons, List.length_nil]
          show 16 - (ys.length + 1) < 16 - ys.length
          omega

end Go.Proofs.YtcncmpgababfjaaDoor
