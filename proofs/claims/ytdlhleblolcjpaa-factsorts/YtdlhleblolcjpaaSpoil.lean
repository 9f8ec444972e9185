/-
  The reference's Spoil: facts' arguments become others; all that is older stays as it was.
-/
import Derived.Test.YtdlhleblolcjpaaSorted
namespace Go.Proofs.Ytdlhleblolcjpaa
open Go.RowKit Go.Sort

/-- the cells of a fact's Args are there and may be written -/
def ArgsThere (w : World) (z : Fv) : Prop := ∀ ad, z.a = some ad → ∀ j, j < z.ks.length * 3 → (w.cell? (ad.add j)).isSome = true ∧ w.frozen? (ad.add j) = false
theorem ArgsThere.of {w : World} {z : Fv} (h : Fv.At w z) (hT : TagK w z.a) : ArgsThere w z := fun ad ha j hj => by
  obtain ⟨cur, hc⟩ := hT ad ha
  obtain ⟨u, hu⟩ : ∃ u, (kcells z.ks)[j]? = some u := ⟨_, List.getElem?_eq_getElem (by rw [kcells_len]; exact hj)⟩
  have h1 := h.cells ad ha j u hu
  refine ⟨by rw [h1]; rfl, ?_⟩
  unfold World.frozen?
  rw [addr_add_block, hc]
  simp
theorem ArgsThere.setCell {w : World} {z : Fv} (h : ArgsThere w z) (p : Addr) (u : Value) : ArgsThere (w.setCell p u) z := fun ad ha j hj => by
  obtain ⟨h1, h2⟩ := h ad ha j hj
  obtain ⟨v, hv⟩ := Option.isSome_iff_exists.1 h1
  obtain ⟨v', hv'⟩ := cell?_setCell_some (p := p) (x := u) hv
  exact ⟨by rw [hv']; rfl, by simpa using h2⟩
theorem RowF.setCell {w : World} {b : Nat} {xs : List Fv} (h : RowF w b xs) (p : Addr) (u : Value) (hp : p.block ≠ b) : RowF (w.setCell p u) b xs := fun i hi c hc => by
  obtain ⟨h1, h2⟩ := h i hi c hc
  refine ⟨?_, by simpa using h2⟩
  rw [← h1]
  exact World.cell?_of_block (w := w) (Below.heap_setCell w p u _ (fun e => hp e.symm))

set_option maxHeartbeats 4000000 in
theorem spoil_at (a : Option Addr) (c : Nat) (zs : List Fv) (w : World) (base : Nat) (hO : OwnF w base a c zs) (hz : ∀ z ∈ zs, Fv.At w z ∧ Fv.New base z ∧ (∀ ad, a = some ad → Fv.Apart ad.block z) ∧ TagK w z.a) :
    Calls Try.prog 23 #[.slice a zs.length c] w fun e w' => e = .returned (.tuple #[]) ∧ Below base w w' := by
  have few := hO.few
  by_cases h0 : zs.length = 0
  · obtain rfl : zs = [] := List.eq_nil_of_length_eq_zero h0
    go_enter Try.func23, Try.ntmps23
    go_wp2_with fail
    go_loopw [2, 3] (fun v _ wr => v = .int .i64 0 ∧ w = wr) (fun _ _ _ => 0)
    case atStart => exact ⟨rfl, rfl⟩
    case round =>
      obtain ⟨rfl, rfl⟩ := hrel
      go_wp2_with fail
      go_end0
      exact ⟨rfl, Below.refl _ _⟩
  · cases a with
    | none => exfalso; have := (hO.void rfl).1; subst this; simp at h0
    | some ad =>
      obtain ⟨g, rfl, hg0, hg1, hrow⟩ := hO.row ad rfl
      have hth : ∀ z ∈ zs, ArgsThere w z := fun z hz' => ArgsThere.of (hz z hz').1 (hz z hz').2.2.2
      go_enter Try.func23, Try.ntmps23
      go_wp2_with fail
      go_loopw [2, 3] (fun v _ wr => ∃ i : Nat, v = .int .i64 (i : Int) ∧ i ≤ zs.length ∧ RowF wr g zs ∧ (∀ z ∈ zs, ArgsThere wr z) ∧ Below base w wr) (fun v _ _ => zs.length - (intOf v).toNat)
      case atStart => exact ⟨0, rfl, by omega, hrow, hth, Below.refl _ _⟩
      case round =>
        obtain ⟨i, rfl, hi, hR, hT, hb⟩ := hrel
        by_cases hlt : i < zs.length
        · have q1 : (i : Int) < (zs.length : Int) := by omega
          have hp := hz _ (List.getElem_mem hlt)
          have hm := List.getElem_mem hlt
          have hgt := fun W (h : RowF W g zs) => h.get i hlt
          generalize (zs[i]'hlt) = p at *
          have kf := ArgsAt.few hp.1
          have hHp := hideP hp
          clear hp
          go_wp2_with fail
          go_loopw [3] (fun v wi => ∃ k : Nat, v = .int .i64 (k : Int) ∧ k ≤ p.ks.length ∧ RowF wi g zs ∧ (∀ z ∈ zs, ArgsThere wi z) ∧ Below base w wi) (fun v _ => p.ks.length - (intOf v).toNat)
          case atStart => exact ⟨0, rfl, by omega, hR, hT, hb⟩
          case round =>
            obtain ⟨k, rfl, hk, hR2, hT2, hb2⟩ := hrel
            obtain ⟨a1, a2, a3, a4⟩ := hgt wr hR2
            by_cases hk2 : k < p.ks.length
            · have q3 : (k : Int) < (p.ks.length : Int) := by omega
              obtain ⟨B, O, hpa⟩ := ArgsAt.addr hHp.out.1 (Nat.lt_of_le_of_lt (Nat.zero_le _) hk2)
              have hne : B ≠ g := hHp.out.2.2.1 _ rfl _ hpa
              have hnw : base ≤ B := hHp.out.2.1 _ hpa
              have t0 := hT2 p hm _ hpa (k * 3) (by omega)
              have t1 := hT2 p hm _ hpa (k * 3 + 1) (by omega)
              have t2 := hT2 p hm _ hpa (k * 3 + 2) (by omega)
              rw [Addr.add_lit] at t0 t1 t2
              rw [← Nat.add_assoc] at t1 t2
              obtain ⟨u0, s0⟩ := Option.isSome_iff_exists.1 t0.1
              obtain ⟨u1, s1⟩ := Option.isSome_iff_exists.1 t1.1
              obtain ⟨u2, s2⟩ := Option.isSome_iff_exists.1 t2.1
              have f0 := t0.2; have f1 := t1.2; have f2 := t2.2
              rw [hpa] at a4
              clear t0 t1 t2 hgt
              go_wp2_with fail
              refine ⟨⟨k + 1, by simp, by omega, ?_, ?_, ?_⟩, by simp [intOf]; omega⟩
              · exact ((hR2.setCell _ _ hne).setCell _ _ hne).setCell _ _ hne
              · exact fun z hz' => (((hT2 z hz').setCell _ _).setCell _ _).setCell _ _
              · exact ((hb2.setCell (p := ⟨B, O + k * 3, none⟩) hnw _).setCell (p := ⟨B, O + k * 3 + 1, none⟩) hnw _).setCell (p := ⟨B, O + k * 3 + 2, none⟩) hnw _
            · have q3 : ¬ (k : Int) < (p.ks.length : Int) := by omega
              go_wp2_with fail
              exact ⟨⟨i + 1, by simp, by omega, hR2, hT2, hb2⟩, by simp [intOf]; omega⟩
        · have q1 : ¬ (i : Int) < (zs.length : Int) := by omega
          go_wp2_with fail
          go_end0
          exact ⟨rfl, hb⟩

end Go.Proofs.Ytdlhleblolcjpaa
