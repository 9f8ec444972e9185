/-
  The program's Value.
-/
import Derived.Deep.RegionHeld3
import Derived.Test.YtdehimbfcilhpaaGreatDoorQE2
namespace Go.Proofs.YtdehimbfcilhpaaGreatDoor
open Go.RowKit Go.Lib Go.Shelf

/-- what Value hands back -/
def valK (t : Tm) (L : Mt.Env) : K := (Mt.val t L).getD k0
def valB (t : Tm) (L : Mt.Env) : Bool := (Mt.val t L).isSome
theorem nul_k {t : Tm} (h : Mt.nul t = true) : t.k = k0 := by
  obtain ⟨v, ⟨a, n, s⟩⟩ := t
  unfold Mt.nul at h
  simp at h
  obtain ⟨_, ⟨rfl, rfl⟩, rfl⟩ := h
  rfl
theorem val_const {t : Tm} (L : Mt.Env) (h : t.v = []) : valK t L = t.k ∧ valB t L = !Mt.nul t := by
  unfold valK valB Mt.val
  rw [if_pos h]
  cases hq : Mt.nul t with
  | true => simp; exact (nul_k hq).symm
  | false => simp
theorem val_var {t : Tm} (L : Mt.Env) (h : t.v ≠ []) : valK t L = (Mt.get t.v L).getD k0 ∧ valB t L = (Mt.get t.v L).isSome := by
  unfold valK valB Mt.val
  rw [if_neg (by rw [Mt.nul_v h]; decide), if_neg h]
  exact ⟨rfl, rfl⟩

theorem set3_heap {w : World} {b k : Nat} {x y z : Value} {o : Obj} (h : w.heap[k]? = some o) (hn : k ≠ b) : (((w.setCell ⟨b, 0, none⟩ x).setCell ⟨b, 1, none⟩ y).setCell ⟨b, 2, none⟩ z).heap[k]? = some o := by
  rw [Below.heap_setCell _ _ _ _ hn, Below.heap_setCell _ _ _ _ hn, Below.heap_setCell _ _ _ _ hn]; exact h
theorem set3_same {w : World} {b : Nat} {x y z x' y' z' : Value} {T : TypeId} (h : w.heap[b]? = some (.cells #[x', y', z'] T)) : (((w.setCell ⟨b, 0, none⟩ x).setCell ⟨b, 1, none⟩ y).setCell ⟨b, 2, none⟩ z).heap[b]? = some (.cells #[x, y, z] T) := by
  have h1 := heap_setCell_same w b 0 _ T x h
  have h2 := heap_setCell_same _ b 1 _ T y h1
  have h3 := heap_setCell_same _ b 2 _ T z h2
  simpa using h3
theorem set3_below {w w' : World} {B b : Nat} {x y z : Value} (h : Below B w w') (hb : B ≤ b) : Below B w (((w'.setCell ⟨b, 0, none⟩ x).setCell ⟨b, 1, none⟩ y).setCell ⟨b, 2, none⟩ z) := ((h.setCell (p := ⟨b, 0, none⟩) hb x).setCell (p := ⟨b, 1, none⟩) hb y).setCell (p := ⟨b, 2, none⟩) hb z

set_option maxRecDepth 100000 in
set_option maxHeartbeats 1000000 in
theorem mvalue_at (t : Tm) (a : Option Addr) (c : Nat) (L : List Bd) (w : World) (h : Row bK w a c L) :
    Calls Tryz.prog 117 #[tval t, .slice a L.length c] w fun e w' => e = .returned (.tuple #[kval (valK t L), .bool (valB t L)]) ∧ Below w.heap.size w w' := by
  have iK : (Tryz.prog.info? 56).map (·.size) = some 3 := by kernel_rfl
  have few := h.few
  have N := hideP (fun W => mnone_at t W)
  by_cases hv : t.v = []
  · have V := hideP (val_const L hv)
    generalize hkk : valK t L = kk at *
    generalize hbb : valB t L = bb at *
    clear hkk hbb
    obtain ⟨v, ⟨x, n, s⟩⟩ := t
    simp only at hv V
    subst hv
    generalize Mt.nul ⟨[], ⟨x, n, s⟩⟩ = q at *
    have BX := boxes2 w (.cells #[str [], .bool x, .int .i64 n, str s] 58) (.cells #[.bool false, .int .i64 0, .string { data := #[] }] 56)
    generalize hW : (w.alloc (.cells #[str [], .bool x, .int .i64 n, str s] 58)).alloc (.cells #[.bool false, .int .i64 0, .string { data := #[] }] 56) = W at *
    have HB := hideP BX
    clear BX
    go_enter Tryz.func117, Tryz.ntmps117
    subst hW
    go_wp2_with fail
    generalize hW : (w.alloc (.cells #[str [], .bool x, .int .i64 n, str s] 58)).alloc (.cells #[.bool false, .int .i64 0, .string { data := #[] }] 56) = W at *
    clear hW
    obtain ⟨h1, h2, h3⟩ := HB.out
    have gD := (Below.refl W.heap.size W).drew
    have H1 := below_heap gD h1
    have H2 := below_heap gD h2
    have d0 : W.drew.cell? ⟨w.heap.size + 1, 0, none⟩ = some (.bool false) := by rw [heap_cell H2]; rfl
    have d1 : W.drew.cell? ⟨w.heap.size + 1, 1, none⟩ = some (.int .i64 0) := by rw [heap_cell H2]; rfl
    have d2 : W.drew.cell? ⟨w.heap.size + 1, 2, none⟩ = some (.string { data := #[] }) := by rw [heap_cell H2]; rfl
    have f0 : ∀ j, W.drew.frozen? ⟨w.heap.size + 1, j, none⟩ = false := heap_frozen H2
    have K : ∀ W' : World, W'.heap[w.heap.size]? = some (.cells #[str [], .bool x, .int .i64 n, str s] 58) → (W'.cell? ⟨w.heap.size, 0, none⟩ = some (str []) ∧ W'.cell? ⟨w.heap.size, 1, none⟩ = some (.bool x) ∧ W'.cell? ⟨w.heap.size, 2, none⟩ = some (.int .i64 n) ∧ W'.cell? ⟨w.heap.size, 3, none⟩ = some (str s)) := fun W' hh => by
      refine ⟨?_, ?_, ?_, ?_⟩ <;> (rw [heap_cell hh]; rfl)
    have HK := hideP K
    clear K h1 h2 HB
    go_region_held3 (fun W => W.cell? ⟨w.heap.size, 0, none⟩ = some (str []) ∧ W.cell? ⟨w.heap.size, 1, none⟩ = some (.bool x) ∧ W.cell? ⟨w.heap.size, 2, none⟩ = some (.int .i64 n) ∧ W.cell? ⟨w.heap.size, 3, none⟩ = some (str s)) (first | exact HK.out _ H1 | exact HK.out _ G1 | exact HK.out _ (set3_heap G1 (by simp))) (first
      | (go_at_call 118; refine (N.out _).mono ?_; rintro e w1 ⟨rfl, b1⟩; have G1 := below_heap b1 H1; have G2 := below_heap b1 H2; have e0 : w1.cell? ⟨w.heap.size + 1, 0, none⟩ = some (.bool false) := (by rw [heap_cell G2]; rfl); have e1 : w1.cell? ⟨w.heap.size + 1, 1, none⟩ = some (.int .i64 0) := (by rw [heap_cell G2]; rfl); have e2 : w1.cell? ⟨w.heap.size + 1, 2, none⟩ = some (.string { data := #[] }) := (by rw [heap_cell G2]; rfl); have f1 : ∀ j, w1.frozen? ⟨w.heap.size + 1, j, none⟩ = false := heap_frozen G2))
    obtain ⟨V1, V2⟩ := V.out
    subst V1 V2
    go_wp2_with fail
    exact bodyPost_ret (results_c1 rfl rfl (set3_same G2) Tryz.underlying56 rfl iK) rfl ⟨rfl, set3_below (h3.trans ((gD.trans b1).mono h3.size)) (by omega)⟩
  · have V := hideP (val_var L hv)
    have q0 : t.v.isEmpty = false := by simpa using hv
    generalize hkk : valK t L = kk at *
    generalize hbb : valB t L = bb at *
    clear hkk hbb N
    obtain ⟨v, ⟨x, n, s⟩⟩ := t
    simp only at hv V q0
    have BX := boxes2 w (.cells #[str v, .bool x, .int .i64 n, str s] 58) (.cells #[.bool false, .int .i64 0, .string { data := #[] }] 56)
    have T := hideP (mindex_at w.heap.size v a c L _ (by rw [heap_cell BX.1]; rfl) (h.below BX.2.2 (Nat.le_refl _)))
    have HB := hideP BX
    clear BX hv
    go_enter Tryz.func117, Tryz.ntmps117
    go_wp2_with fail
    refine T.out.mono ?_
    obtain ⟨h1, h2, h3⟩ := HB.out
    rintro e w1 ⟨(⟨k, hk, rfl, hg⟩ | ⟨rfl, hg⟩), b1⟩
    · have g2 := below_heap b1 h2
      have B := Below.then h3 b1
      have q1 : ¬ (k : Int) < 0 := by omega
      have q2 : (k : Int) < (L.length : Int) := by omega
      obtain ⟨P1, O1, rfl⟩ := h.addr (by omega)
      have r1 := (h.below B (Nat.le_refl _)).range k hk
      have r2 : w1.rangeAt P1 (O1 + k * 4 + 1) (kv (L[k]'hk).2) := fun j u hu => by
        have hj : j < 3 := (List.getElem?_eq_some_iff.1 hu).1
        rw [Nat.add_assoc]
        refine r1 (1 + j) u ?_
        match j, hj with
        | 0, _ => exact hu
        | 1, _ => exact hu
        | 2, _ => exact hu
      obtain ⟨V1, V2⟩ := V.out
      rw [hg] at V1 V2
      generalize (L[k]'hk).2 = kc at *
      simp only [Option.getD_some, Option.isSome_some] at V1 V2
      subst V1 V2
      have iQ : (Tryz.prog.info? 56).map (·.size) = some (kv kk).length := iK
      have hs2 := heap_lt g2
      clear V hg r1 h1 h2 h3 HB T b1
      go_wp2_with (first | (refine wpList_load_mid rfl 56 _ rfl P1 (O1 + k * 4 + 1) rfl (kv kk) _ r2 Tryz.underlying56 rfl iQ ?_) | (refine wpList_store_all rfl 56 _ _ rfl (w.heap.size + 1) 3 _ 56 (kv kk) rfl rfl g2 rfl rfl iK rfl ?_; intro w2 H2 b2))
      exact bodyPost_ret (results_c1 rfl rfl H2 Tryz.underlying56 rfl iK) rfl ⟨rfl, B.trans (b2.lower (by omega) (by omega))⟩
    · have g2 := below_heap b1 h2
      have B := Below.then h3 b1
      obtain ⟨V1, V2⟩ := V.out
      rw [hg] at V1 V2
      simp only [Option.getD_none, Option.isSome_none] at V1 V2
      subst V1 V2
      have hs2 := heap_lt g2
      clear V hg h1 h2 h3 HB T b1
      go_wp2_with (refine wpList_store_all rfl 56 _ _ rfl (w.heap.size + 1) 3 _ 56 (kv k0) rfl rfl g2 rfl rfl iK rfl ?_; intro w2 H2 b2)
      exact bodyPost_ret (results_c1 rfl rfl H2 Tryz.underlying56 rfl iK) rfl ⟨rfl, B.trans (b2.lower (by omega) (by omega))⟩
end Go.Proofs.YtdehimbfcilhpaaGreatDoor

/-
  The reference's none, Name, Value, Like of bindings that are the same.
-/
namespace Go.Proofs.YtdehimbfcilhpaaGreatDoor
open Go.RowKit Go.Lib Go.Shelf

set_option maxRecDepth 100000 in
set_option maxHeartbeats 400000 in
theorem rnone11_at (t : Tm) (w : World) : Calls Tryz.prog 51 #[tval t] w fun e w' => e = .returned (.bool (Mt.nul t)) ∧ Below w.heap.size w w' := by
  have E := fun W => eqTerm t ⟨[], ⟨false, 0, []⟩⟩ W
  simp only [same_nul] at E
  generalize Mt.nul t = r at *
  obtain ⟨v, ⟨a, b, c⟩⟩ := t
  go_enter Tryz.func51, Tryz.ntmps51
  go_wp2_with fail
  go_ret
  exact ⟨rfl, below_alloc _ _⟩
set_option maxRecDepth 100000 in
set_option maxHeartbeats 400000 in
theorem rName_at (s : List UInt8) (w : World) : Calls Tryz.prog 28 #[str s] w fun e w' => e = .returned (kval (Mt.nm s)) ∧ Below w.heap.size w w' := by
  have H0 := heap_alloc_new w (.cells #[.bool false, .int .i64 0, .string { data := #[] }] 56)
  have iK : (Tryz.prog.info? 56).map (·.size) = some 3 := by kernel_rfl
  go_enter Tryz.func28, Tryz.ntmps28
  go_wp2_with (refine wpList_store_all rfl 56 _ _ rfl w.heap.size 3 _ 56 (kv (Mt.nm s)) rfl rfl H0 rfl rfl iK rfl ?_; intro w1 H1 b1)
  exact bodyPost_ret (results_cell rfl rfl H1 Tryz.underlying56 rfl iK) rfl ⟨rfl, below_tok b1⟩

theorem val_nul {t : Tm} (L : Mt.Env) (h : Mt.nul t = true) : valK t L = k0 ∧ valB t L = false := by
  unfold valK valB Mt.val
  rw [if_pos h]
  exact ⟨rfl, rfl⟩

set_option maxRecDepth 100000 in
set_option maxHeartbeats 1000000 in
theorem rvalue_at (t : Tm) (a : Option Addr) (c : Nat) (L : List Bd) (w : World) (h : Row bK w a c L) :
    Calls Tryz.prog 50 #[tval t, .slice a L.length c] w fun e w' => e = .returned (.tuple #[kval (valK t L), .bool (valB t L)]) ∧ Below w.heap.size w w' := by
  have iK : (Tryz.prog.info? 56).map (·.size) = some 3 := by kernel_rfl
  have few := h.few
  have N := hideP (fun W => rnone11_at t W)
  have V1 := hideP (fun h1 => val_nul (t := t) L h1)
  have V2 := hideP (fun h1 => val_const (t := t) L h1)
  have V3 := hideP (fun h1 => val_var (t := t) L h1)
  generalize valK t L = kk at *
  generalize valB t L = bb at *
  generalize hn : Mt.nul t = q at *
  clear hn
  obtain ⟨v, ⟨x, n, s⟩⟩ := t
  simp only at V2 V3
  obtain ⟨h0, h1, A0⟩ := boxes2 w (.cells #[str v, .bool x, .int .i64 n, str s] 58) (.cells #[.bool false, .int .i64 0, .string { data := #[] }] 56)
  go_enter Tryz.func50, Tryz.ntmps50
  go_wp2_with fail
  refine (N.out _).mono ?_
  rintro e w1 ⟨rfl, b1⟩
  have g0 := below_heap b1 h0
  have g1 := below_heap b1 h1
  have B := Below.then A0 b1
  have hs2 := heap_lt g1
  clear h0 h1 A0 b1 N
  cases q with
  | true =>
    obtain ⟨rfl, rfl⟩ := V1.out rfl
    go_wp2_with (refine wpList_store_all rfl 56 _ _ rfl (w.heap.size + 1) 3 _ 56 (kv k0) rfl rfl g1 rfl rfl iK rfl ?_; intro w2 H2 b2)
    exact bodyPost_ret (results_c1 rfl rfl H2 Tryz.underlying56 rfl iK) rfl ⟨rfl, B.trans (b2.lower (by omega) (by omega))⟩
  | false =>
    have c0 : w1.cell? ⟨w.heap.size, 0, none⟩ = some (str v) := by rw [heap_cell g0]; rfl
    by_cases hv : v = []
    · obtain ⟨rfl, rfl⟩ := V2.out hv
      have q0 : v.isEmpty = true := by simpa using hv
      have r2 : w1.rangeAt w.heap.size 1 (kv ⟨x, n, s⟩) := World.rangeAt_of_block g0 1 3
      clear V1 V2 V3 hv
      go_wp2_with (first | (refine wpList_load_mid rfl 56 _ rfl w.heap.size 1 rfl (kv ⟨x, n, s⟩) _ r2 Tryz.underlying56 rfl iK ?_) | (refine wpList_store_all rfl 56 _ _ rfl (w.heap.size + 1) 3 _ 56 (kv ⟨x, n, s⟩) rfl rfl g1 rfl rfl iK rfl ?_; intro w2 H2 b2))
      exact bodyPost_ret (results_c1 rfl rfl H2 Tryz.underlying56 rfl iK) rfl ⟨rfl, B.trans (b2.lower (by omega) (by omega))⟩
    · have VV := hideP (V3.out hv)
      have q0 : v.isEmpty = false := by simpa using hv
      clear V1 V2 V3 hv
      go_wp2_with fail
      go_loopw [6] (fun u wr => ∃ k : Nat, u = .int .i64 (k : Int) ∧ k ≤ L.length ∧ Hid (Mt.get v (L.take k) = none) ∧ Below w1.heap.size w1 wr) (fun u _ => L.length - (intOf u).toNat)
      case atStart => exact ⟨0, rfl, by omega, hideP (by simp [Mt.get]), Below.refl _ _⟩
      case round =>
        obtain ⟨k, rfl, hk, hno, B1⟩ := hrel
        have d0 : wr.cell? ⟨w.heap.size, 0, none⟩ = some (str v) := by rw [B1.cell (cell_block c0)]; exact c0
        have G1 := below_heap B1 g1
        have BB := Below.then B B1
        by_cases hlt : k < L.length
        · have q1 : (k : Int) < (L.length : Int) := by omega
          obtain ⟨P1, O1, rfl⟩ := h.addr (by omega)
          have r1 := (h.below BB (Nat.le_refl _)).range k hlt
          have e0 : wr.cell? ⟨P1, O1 + k * 4, none⟩ = some (str (L[k]'hlt).1) := r1 0 _ rfl
          have YE : Hid ((L[k]'hlt).1 = v → Mt.get v L = some (L[k]'hlt).2) := fun h1 => get_hit hlt hno.out h1
          have NO : Hid ((L[k]'hlt).1 ≠ v → Mt.get v (L.take (k + 1)) = none) := fun h1 => get_miss hlt hno.out h1
          have r2 : wr.rangeAt P1 (O1 + k * 4 + 1) (kv (L[k]'hlt).2) := fun j u hu => by
            have hj : j < 3 := (List.getElem?_eq_some_iff.1 hu).1
            rw [Nat.add_assoc]
            refine r1 (1 + j) u ?_
            match j, hj with
            | 0, _ => exact hu
            | 1, _ => exact hu
            | 2, _ => exact hu
          clear r1
          generalize (L[k]'hlt) = b at *
          obtain ⟨b1, b2⟩ := b
          simp only at e0 YE NO r2
          by_cases he : b1 = v
          · have q2 : (b1 == v) = true := by simpa using he
            have Y := YE.out he
            obtain ⟨z1, z2⟩ := VV.out
            rw [Y] at z1 z2
            simp only [Option.getD_some, Option.isSome_some] at z1 z2
            subst z1 z2
            clear he YE NO VV Y hno
            go_wp2_with fail
            go_quiet (fail)
            have D := below_drewN (Below.refl wr.heap.size wr) nq
            have r3 : (wr.drewN nq).rangeAt P1 (O1 + k * 4 + 1) (kv kk) := fun j u hu => by
              have := r2 j u hu
              rw [D.cell (cell_block this)]; exact this
            have G2 := below_heap D G1
            have hz := heap_lt G2
            have BD := Below.then BB D
            generalize wr.drewN nq = w5 at *
            have iQ : (Tryz.prog.info? 56).map (·.size) = some (kv kk).length := iK
            clear r2 G1 D BB d0 e0
            go_wp2_with (first | (refine wpList_load_mid rfl 56 _ rfl P1 (O1 + k * 4 + 1) rfl (kv kk) _ r3 Tryz.underlying56 rfl iQ ?_) | (refine wpList_store_all rfl 56 _ _ rfl (w.heap.size + 1) 3 _ 56 (kv kk) rfl rfl G2 rfl rfl iK rfl ?_; intro w6 H6 b6))
            exact bodyPost_ret (results_c1 rfl rfl H6 Tryz.underlying56 rfl iK) rfl ⟨rfl, BD.trans (b6.lower (by omega) (by omega))⟩
          · have q2 : (b1 == v) = false := by simpa using he
            have Y := hideP (NO.out he)
            clear he YE NO hno
            go_wp2_with fail
            go_quiet (fail)
            go_wp2_with fail
            exact ⟨⟨k + 1, by go_num, by omega, Y, Below.then B1 (below_drewN (Below.refl _ _) nq)⟩, by simp [intOf]; omega⟩
        · have q1 : ¬ (k : Int) < (L.length : Int) := by omega
          rw [List.take_of_length_le (by omega)] at hno
          obtain ⟨z1, z2⟩ := VV.out
          rw [hno.out] at z1 z2
          simp only [Option.getD_none, Option.isSome_none] at z1 z2
          subst z1 z2
          have hz := heap_lt G1
          clear VV hno
          go_wp2_with (refine wpList_store_all rfl 56 _ _ rfl (w.heap.size + 1) 3 _ 56 (kv k0) rfl rfl G1 rfl rfl iK rfl ?_; intro w6 H6 b6)
          exact bodyPost_ret (results_c1 rfl rfl H6 Tryz.underlying56 rfl iK) rfl ⟨rfl, BB.trans (b6.lower (by omega) (by omega))⟩

theorem eqBind (t u : Bd) (w : World) : (Op.equalIn 10000 99 (bval t) (bval u)).run Tryz.prog w = .ok ((t.1 == u.1) && sameK t.2 u.2) w := by
  rw [run_equalIn_struct w 9999 99 _ _ (by kernel_rfl) (by kernel_rfl)]
  simp only [Program.fieldsOf, Tryz.underlying99, Op.eqFields]
  have hc := eqConst t.2 u.2 9997 w
  simp [part, Tryz.isAgg9, Tryz.isAgg56, Tryz.sizeOf56, run_equalIn_string w 9998 _ _ _ Tryz.underlying9, hc]
  by_cases h1 : t.1 = u.1 <;> cases h2 : sameK t.2 u.2 <;> simp [h1]
theorem sameK_self (k : K) : sameK k k = true := by simp [sameK]

end Go.Proofs.YtdehimbfcilhpaaGreatDoor
