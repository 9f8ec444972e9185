/-
  CheckSome: its walk.
-/
import Derived.Test.YtefajadolgmpdaaGreatDoorQLv0
import Derived.Test.YtefajadolgmpdaaGreatDoorQOp0
import Derived.Test.YtefajadolgmpdaaGreatDoorQBs
import Derived.Test.YtefajadolgmpdaaGreatDoorQCp9
namespace Go.Proofs.YtefajadolgmpdaaGreatDoor
open Go.RowKit Go.Lib Go.Shelf

theorem Tryz.iRz : (Tryz.prog.info? 42).map (fun i => (i.zero, i.size, i.bytes)) = some (some (.agg #[.string .empty, .bool false, .int .i64 0, .string .empty, .string .empty, .slice none 0 0, .string .empty, .bool false, .int .i64 0, .string .empty, .slice none 0 0]), 11, 160) := by kernel_rfl
theorem Tryz.iRk : (Tryz.prog.info? 42).map (fun i => (i.zero, i.size, i.bytes)) = some (some (.agg #[.string .empty, .bool false, .int .i64 0, .string .empty, .string .empty, .slice none 0 0, .string .empty, .bool false, .int .i64 0, .string .empty, .slice none 0 0]), rK.k, 160) := by kernel_rfl

set_option maxRecDepth 100000 in
set_option maxHeartbeats 1000000 in
theorem checkSome_walk (a : Option Addr) (c : Nat) (xs : List Rv) (o : Int) (w : World) (hL : Laid w) (hx : Row rK w a c xs) (ax : ∀ x ∈ xs, Rv.Aw w x) (nx : ∀ x ∈ xs, Sh.RIn x.r ∧ TxR x ∧ TxV x.r) (_ : 0 ≤ o) (_ : o ≤ 18446744073709551615) :
    Calls Tryz.prog 6 #[.slice a xs.length c, .int .u64 o] w fun e w' => e = .returned (.bool true) ∧ Below w.heap.size w w' := by
  have LV := hideP live10_at
  have rw0 : Rws w a c xs := ⟨hx, ax⟩
  have hin : ∀ x ∈ xs, Sh.RIn x.r := fun x h => (nx x h).1
  have few := hx.few
  go_enter Tryz.func6, Tryz.ntmps6
  go_wp2_with fail
  refine (rweight_few a c xs w hx ax (fun x h => (nx x h).2.1)).mono ?_
  rintro e w1 ⟨⟨r, rfl, hfew⟩, g1⟩
  have B1 : Below w.heap.size w w1 := g1.below
  have HF := hideP hfew
  clear hfew g1
  by_cases hr : r > 300
  · go_wp2_with fail
    refine (LV.out _ (hL.below B1)).mono ?_
    rintro e w2 ⟨rfl, b2⟩
    go_wp2_with fail
    go_ret
    exact ⟨rfl, Below.then B1 b2⟩
  obtain ⟨hn, _⟩ := HF.out (by omega)
  clear HF
  have T1 := hideP (checkProg_at a c xs w1 (hL.below B1) (rw0.below B1) hin)
  have PS : Hid ((Ck.prog (xs.map Rv.r)).1 = 0 → ∀ Z : List Rv, Z.length ≤ xs.length → (∀ z ∈ Z, z ∈ xs) → Ck.prog (Z.map Rv.r) = (0, -1, -1)) := fun h Z h1 h2 => Ck.prog_some h (by simpa using h1) (fun u hu => by
    obtain ⟨z, hz, rfl⟩ := List.mem_map.1 hu
    exact List.mem_map_of_mem (h2 z hz))
  generalize Ck.prog (xs.map Rv.r) = p at *
  obtain ⟨p1, p2, p3⟩ := p
  simp only [ansV] at T1 PS
  go_wp2_with fail
  refine T1.out.mono ?_
  rintro e w2 ⟨rfl, b2⟩
  have B2 := Below.then B1 b2
  clear T1 b2 B1
  by_cases hp : p1 = 0
  · subst hp
    have PS' := hideP (PS.out rfl)
    clear PS
    go_wp2_with fail
    go_loopw [8, 9] (fun v8 v9 wr => ∃ (j : Nat) (Z : List Rv) (a' : Option Addr) (c' : Nat), v8 = .slice a' (List.length Z) c' ∧ v9 = .int .i64 (j : Int) ∧ j ≤ xs.length ∧ wr.ownsRow w.heap.size 42 rK.k (.slice a' (List.length Z) c') Z.length (Z.flatMap rK.enc) ∧ Hid (∀ z ∈ Z, z ∈ xs) ∧ Z.length ≤ j ∧ Below w.heap.size w wr) (fun _ v9 _ => xs.length - (RowKit.intOf v9).toNat)
    case atStart => exact ⟨0, [], none, 0, rfl, rfl, Nat.zero_le _, World.ownsRow_nil _ _ _ _, fun _ h => by simp at h, Nat.le_refl _, B2⟩
    case round =>
      obtain ⟨j, Z, a', c', rfl, rfl, hj, O, HZ, hzj, B⟩ := hrel
      by_cases hlt : j < xs.length
      · have q2 : (j : Int) < (xs.length : Int) := by omega
        obtain ⟨P1, O1, rfl⟩ := hx.addr (Nat.lt_of_le_of_lt (Nat.zero_le _) hlt)
        have r1 : wr.rangeAt P1 (O1 + j * 11) (rv (xs[j]'hlt)) := (hx.below B (Nat.le_refl _)).range j hlt
        have hm := hideP (List.getElem_mem hlt)
        generalize (xs[j]'hlt) = y at *
        have iP : (Tryz.prog.info? 42).map (·.size) = some (rv y).length := Tryz.iR11
        have A4 := below_alloc wr (.cells (rv y).toArray 42)
        have o4 := ownsRow_keep O (Safe.below A4 : Safe 42 _ _)
        have R4 : Row rK (wr.alloc (.cells (rv y).toArray 42)) (some ⟨wr.heap.size, 0, none⟩) 1 [y] := row_new rK wr _ _ y rfl
        have hb3 : w.heap.size ≤ (wr.alloc (.cells (rv y).toArray 42)).heap.size := by have := A4.size; have := B.size; omega
        have hbB := B.size
        go_wp2_with (first
          | (refine wpList_load_mid rfl 42 _ rfl P1 (O1 + j * 11) rfl (rv y) _ r1 Tryz.underlying42 rfl iP ?_)
          | (refine wpList_build_one rfl 22 42 _ rfl (rv y) _ 11 160 rfl rfl (by decide) (by decide) Tryz.underlying22 Tryz.iRz ?_)
          | (at_builtin; refine wpList_append_rec rK _ rfl _ _ 22 42 rfl _ 160 Tryz.underlying22 Tryz.iRk rfl (by decide) w.heap.size (.slice a' Z.length c') Z [y] (some ⟨wr.heap.size, 0, none⟩) 1 1 rfl o4 rfl rfl R4 hb3 (by simp only [List.length_cons, List.length_nil]; omega) ?_; intro v5 w5 o5 g5; obtain ⟨a5, c5, rfl, _, _⟩ := own_row (D := rK) (xs := Z ++ [y]) o5 (by simp only [List.length_append, List.length_cons, List.length_nil]; omega)))
        all_goals first
          | exact ⟨⟨j + 1, Z, a', c', rfl, by go_num, by omega, O, HZ, by omega, B⟩, by simp [RowKit.intOf]; omega⟩
          | exact ⟨⟨j + 1, Z ++ [y], a5, c5, rfl, by go_num, by omega, o5, fun z hz => (List.mem_append.1 hz).elim (HZ.out z) (fun h => by rw [List.mem_singleton] at h; subst h; exact hm.out), by simp; omega, B.trans ((A4.mono hbB).trans (own_below o4 g5 hb3))⟩, by simp [RowKit.intOf]; omega⟩
          | exact ⟨⟨j + 1, Z ++ [y], a5, c5, by simp, by go_num, by omega, o5, fun z hz => (List.mem_append.1 hz).elim (HZ.out z) (fun h => by rw [List.mem_singleton] at h; subst h; exact hm.out), by simp; omega, B.trans ((A4.mono hbB).trans (own_below o4 g5 hb3))⟩, by simp [RowKit.intOf]; omega⟩
      · have q2 : ¬ (j : Int) < (xs.length : Int) := by omega
        obtain ⟨a9, c9, e9, R9, _⟩ := own_row (D := rK) O (by omega)
        cases e9
        have T3 := hideP (checkProg_at a' c' Z wr (hL.below B) ⟨R9.row, fun z hz => (ax z (HZ.out z hz)).below B (Nat.le_refl _)⟩ (fun z hz => hin z (HZ.out z hz)))
        rw [PS'.out Z (by omega) HZ.out] at T3
        simp only [ansV] at T3
        go_wp2_with fail
        refine T3.out.mono ?_
        rintro e w3 ⟨rfl, b3⟩
        have B3 := B.trans (b3.mono B.size)
        go_wp2_with fail
        refine (LV.out w3 (hL.below B3)).mono ?_
        rintro e w4 ⟨rfl, b4⟩
        go_wp2_with fail
        go_ret
        exact ⟨rfl, Below.then B3 b4⟩
  · have q1 : (p1 != 0) = true := by simpa using hp
    clear PS hp
    go_wp2_with fail
    refine (LV.out w2 (hL.below B2)).mono ?_
    rintro e w3 ⟨rfl, b3⟩
    go_wp2_with fail
    go_ret
    exact ⟨rfl, Below.then B2 b3⟩
end Go.Proofs.YtefajadolgmpdaaGreatDoor
