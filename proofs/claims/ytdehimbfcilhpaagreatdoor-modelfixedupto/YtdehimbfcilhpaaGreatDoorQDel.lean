/-
  slices.DeleteFunc over a row of facts; Minus.
-/
import Derived.Test.YtdehimbfcilhpaaGreatDoorQBin
import Derived.Test.YtdehimbfcilhpaaGreatDoorQSorted
import Derived.Shelf.SlicesQ.IndexFunc
namespace Go.Proofs.YtdehimbfcilhpaaGreatDoor
open Go.RowKit Go.Sort

/-- what the closure of Minus has captured: a list in order, in the world w -/
structure Cap (w : World) (B : Nat) (a : Option Addr) (c : Nat) (ys : List Fv) : Prop where
  cell : w.cell? ⟨B, 0, none⟩ = some (.slice a ys.length c)
  lies : Lies w a c ys
  each : ∀ y ∈ ys, Fv.At w y
  ord : SS (ys.map Fv.f)
theorem Cap.below {w w' : World} {B : Nat} {a : Option Addr} {c : Nat} {ys : List Fv} (h : Cap w B a c ys) (hb : Below w.heap.size w w') : Cap w' B a c ys :=
  ⟨(hb.cell (p := ⟨B, 0, none⟩) (cell_block h.cell)).trans h.cell, h.lies.below hb (Nat.le_refl _), fun y hy => (h.each y hy).below hb (Nat.le_refl _), h.ord⟩

theorem minus1_at (x : Fv) (B : Nat) (a : Option Addr) (c : Nat) (ys : List Fv) (w : World) (hc : Cap w B a c ys) (hx : Fv.At w x) :
    Calls Tryz.prog 40 #[x.val, .pointer (some ⟨B, 0, none⟩)] w fun e w' => e = .returned (.bool (hasF (ys.map Fv.f) x.f)) ∧ Grew w w' := by
  have hg2 : ∀ o : Obj, Grew w (w.alloc o) := fun o => (Grew.refl w).allocs o
  have hS := fun (o : Obj) => search_at a c ys x (w.alloc o) (hc.lies.below (below_alloc w o) (Nat.le_refl _)) (fun y hy => (hc.each y hy).below (below_alloc w o) (Nat.le_refl _)) (hx.grew (hg2 o)) hc.ord
  have c0 := fun o : Obj => Lib.cell?_alloc_some o hc.cell
  clear hc
  generalize hasF (ys.map Fv.f) x.f = R at *
  obtain ⟨x1, x2, x3, xa, xc, xk⟩ := x
  go_enter Tryz.func40, Tryz.ntmps40
  go_wp2_with fail
  refine (hS _).mono ?_; rintro e w1 ⟨⟨i, rfl⟩, hg⟩
  go_wp2_with fail
  go_ret
  exact ⟨rfl, (hg2 _).trans hg⟩

theorem indexF_none (a : Option Addr) (c : Nat) (f : Value) (w : World) : Calls Tryz.prog 68 #[.slice a 0 c, f] w fun e w' => e = .returned (.int .i64 (-1)) ∧ w = w' := by
  go_enter Tryz.func68, Tryz.ntmps68
  go_wp2
  go_loopw [5, 8] (fun _ v wr => v = .int .i64 0 ∧ w = wr) (fun _ _ _ => 0)
  case atStart => exact ⟨rfl, rfl⟩
  case round =>
    obtain ⟨rfl, rfl⟩ := hrel
    go_wp2
    go_ret
    exact ⟨rfl, rfl⟩

theorem indexF_at (g c : Nat) (zs : List Fv) (B : Nat) (a' : Option Addr) (c' : Nat) (ys : List Fv) (w : World) (hrow : RowF w g zs) (hg : g < w.heap.size) (hz : ∀ z ∈ zs, Fv.At w z) (hc : Cap w B a' c' ys) (hlen : zs.length ≤ 1954687338211) :
    Calls Tryz.prog 68 #[.slice (some ⟨g, 0, none⟩) zs.length c, .func (.func 40) #[] #[.pointer (some ⟨B, 0, none⟩)]] w
      fun e w' => ((e = .returned (.int .i64 (-1)) ∧ ∀ z ∈ zs, hasF (ys.map Fv.f) z.f = false) ∨ ∃ i : Nat, ∃ hi : i < zs.length, e = .returned (.int .i64 (i : Int)) ∧ hasF (ys.map Fv.f) zs[i].f = true ∧ ∀ j (hj : j < zs.length), j < i → hasF (ys.map Fv.f) zs[j].f = false) ∧ Below w.heap.size w w' := by
  have eg : ∀ args w, (callFunc 40 args).run Tryz.prog w = .ok (.enter 40 args) w := enters_of Tryz.func40 (by kernel_rfl) rfl
  haveI : Inhabited (In w) := ⟨noIn w⟩
  have hd : (allIn w zs hz).length = zs.length := by rw [← List.length_map (f := fun x : In w => x.1), allIn_val]
  have hv : ∀ j (hj : j < zs.length), ((allIn w zs hz)[j]!).1 = zs[j] := fun j hj => by
    rw [getElem!_pos (allIn w zs hz) j (by omega)]
    have h1 : ((allIn w zs hz).map (·.1))[j]'(by simp; omega) = zs[j] := by simp only [allIn_val]
    simpa using h1
  have := AnyQ.slices_IndexFunc Tryz.idxF 4 Tryz.isAgg36 Tryz.sizeOf36 (encIn w) (fun x => fv_len x.1) (fun y => hasF (ys.map Fv.f) y.1.f) 40 #[.pointer (some ⟨B, 0, none⟩)] eg g 0 zs.length c (allIn w zs hz) w
    (fun W y hW => (minus1_at y.1 B a' c' ys W (hc.below hW) (y.2.below hW (Nat.le_refl _))).mono fun _ _ ⟨h1, h2⟩ => ⟨h1, hW.trans (h2.below.mono hW.size)⟩) (by omega) (by omega) hg
    (fun j hj i v hv' => by
      have hj' : j < zs.length := by omega
      have hv2 : (fv ((allIn w zs hz)[j]!).1)[i]? = some v := hv'
      have hi : i < 4 := by have := (List.getElem?_eq_some_iff.1 hv2).1; rwa [fv_len] at this
      rw [hv j hj'] at hv2
      rw [Nat.zero_add, (hrow j hj' i hi).1, hv2])
  refine this.mono fun e w' ⟨h1, h2⟩ => ⟨?_, h2⟩
  by_cases hex : ∃ i, ∃ hi : i < zs.length, hasF (ys.map Fv.f) zs[i].f = true
  · right
    have hex' : ∃ i, i < zs.length ∧ ∃ hi : i < zs.length, hasF (ys.map Fv.f) zs[i].f = true := by obtain ⟨i, hi, h⟩ := hex; exact ⟨i, hi, hi, h⟩
    obtain ⟨i, ⟨hi, _, hp⟩, hmin⟩ : ∃ i, (i < zs.length ∧ ∃ hi : i < zs.length, hasF (ys.map Fv.f) zs[i].f = true) ∧ ∀ j, j < i → ¬ (j < zs.length ∧ ∃ hj : j < zs.length, hasF (ys.map Fv.f) zs[j].f = true) := by
      obtain ⟨i0, h0⟩ := hex'
      induction i0 using Nat.strongRecOn with
      | ind n ih =>
        by_cases hb : ∃ j, j < n ∧ (j < zs.length ∧ ∃ hj : j < zs.length, hasF (ys.map Fv.f) zs[j].f = true)
        · obtain ⟨j, hj, hpj⟩ := hb
          exact ih j hj hpj
        · exact ⟨n, h0, fun j hj hpj => hb ⟨j, hj, hpj⟩⟩
    have hno : ∀ j (hj : j < zs.length), j < i → hasF (ys.map Fv.f) zs[j].f = false := fun j hj hji => by
      rw [Bool.eq_false_iff]; exact fun h => hmin j hji ⟨hj, hj, h⟩
    refine ⟨i, hi, ?_, hp, hno⟩
    rw [h1, Lib.idxBy_hit (fun _ y => hasF (ys.map Fv.f) y.1.f) (allIn w zs hz) zs.length i default hi (by omega) (by show hasF _ ((allIn w zs hz)[i]!).1.f = true; rw [hv i hi]; exact hp) (fun j hj => by show hasF _ ((allIn w zs hz)[j]!).1.f = false; rw [hv j (by omega)]; exact hno j (by omega) hj)]
  · left
    have hno : ∀ j (hj : j < zs.length), hasF (ys.map Fv.f) zs[j].f = false := fun j hj => by
      rw [Bool.eq_false_iff]; exact fun h => hex ⟨j, hj, h⟩
    refine ⟨?_, fun z hz' => by obtain ⟨j, hj, rfl⟩ := List.getElem_of_mem hz'; exact hno j hj⟩
    rw [h1, Lib.idxBy_miss (fun _ y => hasF (ys.map Fv.f) y.1.f) (allIn w zs hz) zs.length default (fun j hj => by show hasF _ ((allIn w zs hz)[j]!).1.f = false; rw [hv j hj]; exact hno j hj)]

end Go.Proofs.YtdehimbfcilhpaaGreatDoor
