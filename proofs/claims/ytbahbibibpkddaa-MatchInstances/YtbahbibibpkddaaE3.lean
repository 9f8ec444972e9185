/-
  The program's Value.
-/
import Derived.Test.YtbahbibibpkddaaE2
import Derived.Deep.RegionHeld3
namespace Go.Proofs.Ytbahbibibpkddaa
open Go.RowKit Go.Lib Go.Shelf

/-- what Value hands back -/
def valK (t : Tm) (L : Mt.Env) : K := (Mt.val t L).getD k0
def valB (t : Tm) (L : Mt.Env) : Bool := (Mt.val t L).isSome
theorem nul_k {t : Tm} (h : Mt.nul t = true) : t.k = k0 := by
  obtain ⟨v, ⟨a, n, s⟩⟩ := t
  unfold Mt.nul at h
  simp at h
  obtain ⟨_, ⟨rfl, rfl⟩, rfl⟩ := h
  rfl
theorem val_const {t : Tm} (L : Mt.Env) (h : t.v = []) : valK t L = t.k ∧ valB t L = !Mt.nul t := by
  unfold valK valB Mt.val
  rw [if_pos h]
  cases hq : Mt.nul t with
  | true => simp; exact (nul_k hq).symm
  | false => simp
theorem val_var {t : Tm} (L : Mt.Env) (h : t.v ≠ []) : valK t L = (Mt.get t.v L).getD k0 ∧ valB t L = (Mt.get t.v L).isSome := by
  unfold valK valB Mt.val
  rw [if_neg (by rw [Mt.nul_v h]; decide), if_neg h]
  exact ⟨rfl, rfl⟩

theorem set3_heap {w : World} {b k : Nat} {x y z : Value} {o : Obj} (h : w.heap[k]? = some o) (hn : k ≠ b) : (((w.setCell ⟨b, 0, none⟩ x).setCell ⟨b, 1, none⟩ y).setCell ⟨b, 2, none⟩ z).heap[k]? = some o := by
  rw [Below.heap_setCell _ _ _ _ hn, Below.heap_setCell _ _ _ _ hn, Below.heap_setCell _ _ _ _ hn]; exact h
theorem set3_same {w : World} {b : Nat} {x y z x' y' z' : Value} {T : TypeId} (h : w.heap[b]? = some (.cells #[x', y', z'] T)) : (((w.setCell ⟨b, 0, none⟩ x).setCell ⟨b, 1, none⟩ y).setCell ⟨b, 2, none⟩ z).heap[b]? = some (.cells #[x, y, z] T) := by
  have h1 := heap_setCell_same w b 0 _ T x h
  have h2 := heap_setCell_same _ b 1 _ T y h1
  have h3 := heap_setCell_same _ b 2 _ T z h2
  simpa using h3
theorem set3_below {w w' : World} {B b : Nat} {x y z : Value} (h : Below B w w') (hb : B ≤ b) : Below B w (((w'.setCell ⟨b, 0, none⟩ x).setCell ⟨b, 1, none⟩ y).setCell ⟨b, 2, none⟩ z) := ((h.setCell (p := ⟨b, 0, none⟩) hb x).setCell (p := ⟨b, 1, none⟩) hb y).setCell (p := ⟨b, 2, none⟩) hb z

set_option maxRecDepth 100000 in
set_option maxHeartbeats 1000000 in
theorem mvalue_at (t : Tm) (a : Option Addr) (c : Nat) (L : List Bd) (w : World) (h : Row bK w a c L) :
    Calls Try.prog 10 #[tval t, .slice a L.length c] w fun e w' => e = .returned (.tuple #[kval (valK t L), .bool (valB t L)]) ∧ Below w.heap.size w w' := by
  have iK : (Try.prog.info? 23).map (·.size) = some 3 := by kernel_rfl
  have few := h.few
  have N := hideP (fun W => mnone_at t W)
  by_cases hv : t.v = []
  · have V := hideP (val_const L hv)
    generalize hkk : valK t L = kk at *
    generalize hbb : valB t L = bb at *
    clear hkk hbb
    obtain ⟨v, ⟨x, n, s⟩⟩ := t
    simp only at hv V
    subst hv
    generalize Mt.nul ⟨[], ⟨x, n, s⟩⟩ = q at *
    have BX := boxes2 w (.cells #[str [], .bool x, .int .i64 n, str s] 25) (.cells #[.bool false, .int .i64 0, .string { data := #[] }] 23)
    generalize hW : (w.alloc (.cells #[str [], .bool x, .int .i64 n, str s] 25)).alloc (.cells #[.bool false, .int .i64 0, .string { data := #[] }] 23) = W at *
    have HB := hideP BX
    clear BX
    go_enter Try.func10, Try.ntmps10
    subst hW
    go_wp2_with fail
    generalize hW : (w.alloc (.cells #[str [], .bool x, .int .i64 n, str s] 25)).alloc (.cells #[.bool false, .int .i64 0, .string { data := #[] }] 23) = W at *
    clear hW
    obtain ⟨h1, h2, h3⟩ := HB.out
    have gD := (Below.refl W.heap.size W).drew
    have H1 := below_heap gD h1
    have H2 := below_heap gD h2
    have d0 : W.drew.cell? ⟨w.heap.size + 1, 0, none⟩ = some (.bool false) := by rw [heap_cell H2]; rfl
    have d1 : W.drew.cell? ⟨w.heap.size + 1, 1, none⟩ = some (.int .i64 0) := by rw [heap_cell H2]; rfl
    have d2 : W.drew.cell? ⟨w.heap.size + 1, 2, none⟩ = some (.string { data := #[] }) := by rw [heap_cell H2]; rfl
    have f0 : ∀ j, W.drew.frozen? ⟨w.heap.size + 1, j, none⟩ = false := heap_frozen H2
    have K : ∀ W' : World, W'.heap[w.heap.size]? = some (.cells #[str [], .bool x, .int .i64 n, str s] 25) → (W'.cell? ⟨w.heap.size, 0, none⟩ = some (str []) ∧ W'.cell? ⟨w.heap.size, 1, none⟩ = some (.bool x) ∧ W'.cell? ⟨w.heap.size, 2, none⟩ = some (.int .i64 n) ∧ W'.cell? ⟨w.heap.size, 3, none⟩ = some (str s)) := fun W' hh => by
      refine ⟨?_, ?_, ?_, ?_⟩ <;> (rw [heap_cell hh]; rfl)
    have HK := hideP K
    clear K h1 h2 HB
    go_region_held3 (fun W => W.cell? ⟨w.heap.size, 0, none⟩ = some (str []) ∧ W.cell? ⟨w.heap.size, 1, none⟩ = some (.bool x) ∧ W.cell? ⟨w.heap.size, 2, none⟩ = some (.int .i64 n) ∧ W.cell? ⟨w.heap.size, 3, none⟩ = some (str s)) (first | exact HK.out _ H1 | exact HK.out _ G1 | exact HK.out _ (set3_heap G1 (by simp))) (first
      | (go_at_call 28; refine (N.out _).mono ?_; rintro e w1 ⟨rfl, b1⟩; have G1 := below_heap b1 H1; have G2 := below_heap b1 H2; have e0 : w1.cell? ⟨w.heap.size + 1, 0, none⟩ = some (.bool false) := (by rw [heap_cell G2]; rfl); have e1 : w1.cell? ⟨w.heap.size + 1, 1, none⟩ = some (.int .i64 0) := (by rw [heap_cell G2]; rfl); have e2 : w1.cell? ⟨w.heap.size + 1, 2, none⟩ = some (.string { data := #[] }) := (by rw [heap_cell G2]; rfl); have f1 : ∀ j, w1.frozen? ⟨w.heap.size + 1, j, none⟩ = false := heap_frozen G2))
    obtain ⟨V1, V2⟩ := V.out
    subst V1 V2
    go_wp2_with fail
    exact bodyPost_ret (results_c1 rfl rfl (set3_same G2) Try.underlying23 rfl iK) rfl ⟨rfl, set3_below (h3.trans ((gD.trans b1).mono h3.size)) (by omega)⟩
  · have V := hideP (val_var L hv)
    have q0 : t.v.isEmpty = false := by simpa using hv
    generalize hkk : valK t L = kk at *
    generalize hbb : valB t L = bb at *
    clear hkk hbb N
    obtain ⟨v, ⟨x, n, s⟩⟩ := t
    simp only at hv V q0
    have BX := boxes2 w (.cells #[str v, .bool x, .int .i64 n, str s] 25) (.cells #[.bool false, .int .i64 0, .string { data := #[] }] 23)
    have T := hideP (mindex_at w.heap.size v a c L _ (by rw [heap_cell BX.1]; rfl) (h.below BX.2.2 (Nat.le_refl _)))
    have HB := hideP BX
    clear BX hv
    go_enter Try.func10, Try.ntmps10
    go_wp2_with fail
    refine T.out.mono ?_
    obtain ⟨h1, h2, h3⟩ := HB.out
    rintro e w1 ⟨(⟨k, hk, rfl, hg⟩ | ⟨rfl, hg⟩), b1⟩
    · have g2 := below_heap b1 h2
      have B := Below.then h3 b1
      have q1 : ¬ (k : Int) < 0 := by omega
      have q2 : (k : Int) < (L.length : Int) := by omega
      obtain ⟨P1, O1, rfl⟩ := h.addr (by omega)
      have r1 := (h.below B (Nat.le_refl _)).range k hk
      have r2 : w1.rangeAt P1 (O1 + k * 4 + 1) (kv (L[k]'hk).2) := fun j u hu => by
        have hj : j < 3 := (List.getElem?_eq_some_iff.1 hu).1
        rw [Nat.add_assoc]
        refine r1 (1 + j) u ?_
        match j, hj with
        | 0, _ => exact hu
        | 1, _ => exact hu
        | 2, _ => exact hu
      obtain ⟨V1, V2⟩ := V.out
      rw [hg] at V1 V2
      generalize (L[k]'hk).2 = kc at *
      simp only [Option.getD_some, Option.isSome_some] at V1 V2
      subst V1 V2
      have iQ : (Try.prog.info? 23).map (·.size) = some (kv kk).length := iK
      have hs2 := heap_lt g2
      clear V hg r1 h1 h2 h3 HB T b1
      go_wp2_with (first | (refine wpList_load_mid rfl 23 _ rfl P1 (O1 + k * 4 + 1) rfl (kv kk) _ r2 Try.underlying23 rfl iQ ?_) | (refine wpList_store_all rfl 23 _ _ rfl (w.heap.size + 1) 3 _ 23 (kv kk) rfl rfl g2 rfl rfl iK rfl ?_; intro w2 H2 b2))
      exact bodyPost_ret (results_c1 rfl rfl H2 Try.underlying23 rfl iK) rfl ⟨rfl, B.trans (b2.lower (by omega) (by omega))⟩
    · have g2 := below_heap b1 h2
      have B := Below.then h3 b1
      obtain ⟨V1, V2⟩ := V.out
      rw [hg] at V1 V2
      simp only [Option.getD_none, Option.isSome_none] at V1 V2
      subst V1 V2
      have hs2 := heap_lt g2
      clear V hg h1 h2 h3 HB T b1
      go_wp2_with (refine wpList_store_all rfl 23 _ _ rfl (w.heap.size + 1) 3 _ 23 (kv k0) rfl rfl g2 rfl rfl iK rfl ?_; intro w2 H2 b2)
      exact bodyPost_ret (results_c1 rfl rfl H2 Try.underlying23 rfl iK) rfl ⟨rfl, B.trans (b2.lower (by omega) (by omega))⟩
end Go.Proofs.Ytbahbibibpkddaa
