/-
  The reference's Remote and variables.
-/
import Derived.Test.YtpdmmmdkpipmkaaGreatDoorQOt1
import Derived.Test.YtpdmmmdkpipmkaaGreatDoorQOp1
namespace Go.Proofs.YtpdmmmdkpipmkaaGreatDoor
open Go.RowKit Go.Lib Go.Shelf

set_option maxRecDepth 100000 in
set_option maxHeartbeats 1000000 in
theorem remote_at (x : Rv) (k : Nat) (w : World) (hx : Rv.Aw w x) (hk : k < x.body.length) :
    Calls Tryz.prog 21 #[rval x, .int .i64 (k : Int)] w fun e w' => e = .returned (.bool (Lc.rem x.r (x.body[k]'hk).l)) ∧ Below w.heap.size w w' := by
  have mixed : Tryz.prog.follows .mixedOrders = true := by kernel_rfl
  have few := hx.body.few
  have A0 := below_alloc w (.cells (rv x).toArray 48)
  have H0 := heap_alloc_new w (.cells (rv x).toArray 48)
  obtain ⟨P1, O1, hP⟩ := hx.body.addr (Nat.lt_of_le_of_lt (Nat.zero_le _) hk)
  have r1 : (w.alloc (.cells (rv x).toArray 48)).rangeAt P1 (O1 + k * 10) (lv (x.body[k]'hk)) := by
    have := hx.body.below A0 (Nat.le_refl _)
    rw [hP] at this
    exact this.range k hk
  have HRM : Hid (Lc.rem x.r (x.body[k]'hk).l = (!Lc.eqT (x.body[k]'hk).at_ t0 && !Lc.eqT (x.body[k]'hk).at_ x.home)) := rfl
  generalize (x.body[k]'hk) = y at *
  have E1 := fun W => eqTerm y.at_ ⟨[], ⟨false, 0, []⟩⟩ W
  have E2 := fun W => eqTerm y.at_ x.home W
  have e1 : sameT y.at_ ⟨[], ⟨false, 0, []⟩⟩ = Lc.eqT y.at_ t0 := eqT_same _ _
  have e2 := eqT_same y.at_ x.home
  simp only [e1] at E1
  simp only [e2] at E2
  clear e1 e2
  generalize Lc.eqT y.at_ t0 = q1 at *
  generalize Lc.eqT y.at_ x.home = q2 at *
  have a6 := r1 6 _ rfl; have a7 := r1 7 _ rfl; have a8 := r1 8 _ rfl; have a9 := r1 9 _ rfl
  have c0 : (w.alloc (.cells (rv x).toArray 48)).cell? ⟨w.heap.size, 0, none⟩ = some (str x.home.v) := by rw [heap_cell H0]; rfl
  have c1 : (w.alloc (.cells (rv x).toArray 48)).cell? ⟨w.heap.size, 1, none⟩ = some (.bool x.home.k.num) := by rw [heap_cell H0]; rfl
  have c2 : (w.alloc (.cells (rv x).toArray 48)).cell? ⟨w.heap.size, 2, none⟩ = some (.int .i64 x.home.k.n) := by rw [heap_cell H0]; rfl
  have c3 : (w.alloc (.cells (rv x).toArray 48)).cell? ⟨w.heap.size, 3, none⟩ = some (str x.home.k.s) := by rw [heap_cell H0]; rfl
  have c10 := (rule_parts10 H0).2.2.2.2.2.2
  rw [hP] at c10
  have q : (k : Int) < (x.body.length : Int) := by omega
  have HP := hideP hP
  have eW : w.alloc (.cells #[str x.home.v, .bool x.home.k.num, .int .i64 x.home.k.n, str x.home.k.s, str x.pred, .slice x.a x.args.length x.cap, str x.to_.v, .bool x.to_.k.num, .int .i64 x.to_.k.n, str x.to_.k.s, .slice x.ba x.body.length x.bcap] 48) = w.alloc (.cells (rv x).toArray 48) := rfl
  clear hP r1 hx H0
  go_enter Tryz.func21, Tryz.ntmps21
  go_wp2_with fail
  generalize w.alloc (.cells (rv x).toArray 48) = W at *
  clear eW
  cases q1 with
  | true =>
    go_quiet (fail)
    go_wp2_with fail
    go_ret
    exact ⟨ret_bool HRM.out.symm, Below.then A0 (Grew.drewN W nq).below⟩
  | false =>
    go_quiet (fail)
    go_wp2_with fail
    go_ret
    exact ⟨ret_bool HRM.out.symm, Below.then A0 (Grew.drewN W nq).below⟩

set_option maxRecDepth 100000 in
set_option maxHeartbeats 800000 in
theorem rvarts_at (a1 : Option Addr) (c1 : Nat) (B : List (List UInt8)) (w1 : World) (r1 : Row sK w1 a1 c1 B) (few : B.length ≤ 1000000) :
    Calls Tryz.prog 54 #[.slice a1 B.length c1] w1 fun e w' => (∃ a c, e = .returned (.slice a (Lc.vts B).length c) ∧ RowT tK 44 w' a c (Lc.vts B)) ∧ Below w1.heap.size w1 w' := by
  go_enter Tryz.func54, Tryz.ntmps54
  go_wp2_with fail
  go_loopw [3, 4] (fun v3 v4 wr => ∃ j : Nat, v4 = .int .i64 (j : Int) ∧ j ≤ B.length ∧ wr.ownsRow w1.heap.size 44 tK.k v3 (Lc.vts (B.take j)).length ((Lc.vts (B.take j)).flatMap tK.enc) ∧ Below w1.heap.size w1 wr) (fun _ v4 _ => B.length - (RowKit.intOf v4).toNat)
  case atStart => exact ⟨0, rfl, Nat.zero_le _, World.ownsRow_nil _ _ _ _, Below.refl _ _⟩
  case round =>
    obtain ⟨j, rfl, hj, O, D⟩ := hrel
    have lj : (Lc.vts (B.take j)).length = j := by simp [Lc.vts]; omega
    obtain ⟨a2, c2, rfl, R2⟩ := own_rowO (D := tK) O (by omega)
    by_cases hlt : j < B.length
    · have q : (j : Int) < (B.length : Int) := by omega
      obtain ⟨P1, O1, rfl⟩ := r1.addr (Nat.lt_of_le_of_lt (Nat.zero_le _) hlt)
      have r2 : wr.cell? ⟨P1, O1 + j * 1, none⟩ = some (str (B[j]'hlt)) := (r1.below D (Nat.le_refl _)).range j hlt 0 _ rfl
      rw [Nat.mul_one] at r2
      have ST : Lc.vts (B.take (j + 1)) = Lc.vts (B.take j) ++ [⟨B[j]'hlt, k0⟩] := by
        show (B.take (j + 1)).map _ = (B.take j).map _ ++ [_]
        rw [List.take_succ_eq_append_getElem hlt, List.map_append]; rfl
      have HST := hideP ST
      clear ST
      generalize (B[j]'hlt) = s at *
      have A3 := below_alloc wr (.cells (tv ⟨s, k0⟩).toArray 44)
      have O3 := ownsRow_keep O (Safe.below A3 : Safe 44 _ _)
      have R3 : Row tK (wr.alloc (.cells (tv ⟨s, k0⟩).toArray 44)) (some ⟨wr.heap.size, 0, none⟩) 1 [⟨s, k0⟩] := row_new tK wr _ _ ⟨s, k0⟩ rfl
      have hb3 := Nat.le_trans D.size A3.size
      go_wp2_with (first | (refine wpList_build_one rfl 45 44 _ rfl (tv ⟨s, k0⟩) _ 4 48 rfl rfl (by decide) (by decide) Tryz.underlying45 Tryz.iTk13 ?_) | (at_builtin; refine wpList_append_rec tK _ rfl _ _ 45 44 rfl _ 48 Tryz.underlying45 Tryz.iTk13 rfl (by decide) w1.heap.size _ (Lc.vts (B.take j)) [⟨s, k0⟩] (some ⟨wr.heap.size, 0, none⟩) 1 1 rfl O3 rfl rfl R3 hb3 (by simp only [List.length_cons, List.length_nil]; omega) ?_; intro v4 w4 O4 g4))
      exact ⟨⟨j + 1, by go_num, by omega, by rw [HST.out]; exact O4, (D.trans (A3.mono D.size)).trans (own_below O3 g4 hb3)⟩, by simp [RowKit.intOf]; omega⟩
    · have q : ¬ (j : Int) < (B.length : Int) := by omega
      obtain rfl : j = B.length := by omega
      rw [List.take_length] at R2
      go_wp2_with fail
      go_ret
      exact ⟨⟨a2, c2, rfl, R2⟩, D⟩
end Go.Proofs.YtpdmmmdkpipmkaaGreatDoor
