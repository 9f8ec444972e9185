/-
  The reference's none, Name, Value, Like of bindings that are the same.
-/
import Derived.Test.YtbahbibibpkddaaE3
namespace Go.Proofs.Ytbahbibibpkddaa
open Go.RowKit Go.Lib Go.Shelf

set_option maxRecDepth 100000 in
set_option maxHeartbeats 400000 in
theorem rnone11_at (t : Tm) (w : World) : Calls Try.prog 31 #[tval t] w fun e w' => e = .returned (.bool (Mt.nul t)) ∧ Below w.heap.size w w' := by
  have E := fun W => eqTerm t ⟨[], ⟨false, 0, []⟩⟩ W
  simp only [same_nul] at E
  generalize Mt.nul t = r at *
  obtain ⟨v, ⟨a, b, c⟩⟩ := t
  go_enter Try.func31, Try.ntmps31
  go_wp2_with fail
  go_ret
  exact ⟨rfl, below_alloc _ _⟩
set_option maxRecDepth 100000 in
set_option maxHeartbeats 400000 in
theorem rName_at (s : List UInt8) (w : World) : Calls Try.prog 38 #[str s] w fun e w' => e = .returned (kval (Mt.nm s)) ∧ Below w.heap.size w w' := by
  have H0 := heap_alloc_new w (.cells #[.bool false, .int .i64 0, .string { data := #[] }] 23)
  have iK : (Try.prog.info? 23).map (·.size) = some 3 := by kernel_rfl
  go_enter Try.func38, Try.ntmps38
  go_wp2_with (refine wpList_store_all rfl 23 _ _ rfl w.heap.size 3 _ 23 (kv (Mt.nm s)) rfl rfl H0 rfl rfl iK rfl ?_; intro w1 H1 b1)
  exact bodyPost_ret (results_cell rfl rfl H1 Try.underlying23 rfl iK) rfl ⟨rfl, below_tok b1⟩

theorem val_nul {t : Tm} (L : Mt.Env) (h : Mt.nul t = true) : valK t L = k0 ∧ valB t L = false := by
  unfold valK valB Mt.val
  rw [if_pos h]
  exact ⟨rfl, rfl⟩

set_option maxRecDepth 100000 in
set_option maxHeartbeats 1000000 in
theorem rvalue_at (t : Tm) (a : Option Addr) (c : Nat) (L : List Bd) (w : World) (h : Row bK w a c L) :
    Calls Try.prog 11 #[tval t, .slice a L.length c] w fun e w' => e = .returned (.tuple #[kval (valK t L), .bool (valB t L)]) ∧ Below w.heap.size w w' := by
  have iK : (Try.prog.info? 23).map (·.size) = some 3 := by kernel_rfl
  have few := h.few
  have N := hideP (fun W => rnone11_at t W)
  have V1 := hideP (fun h1 => val_nul (t := t) L h1)
  have V2 := hideP (fun h1 => val_const (t := t) L h1)
  have V3 := hideP (fun h1 => val_var (t := t) L h1)
  generalize valK t L = kk at *
  generalize valB t L = bb at *
  generalize hn : Mt.nul t = q at *
  clear hn
  obtain ⟨v, ⟨x, n, s⟩⟩ := t
  simp only at V2 V3
  obtain ⟨h0, h1, A0⟩ := boxes2 w (.cells #[str v, .bool x, .int .i64 n, str s] 25) (.cells #[.bool false, .int .i64 0, .string { data := #[] }] 23)
  go_enter Try.func11, Try.ntmps11
  go_wp2_with fail
  refine (N.out _).mono ?_
  rintro e w1 ⟨rfl, b1⟩
  have g0 := below_heap b1 h0
  have g1 := below_heap b1 h1
  have B := Below.then A0 b1
  have hs2 := heap_lt g1
  clear h0 h1 A0 b1 N
  cases q with
  | true =>
    obtain ⟨rfl, rfl⟩ := V1.out rfl
    go_wp2_with (refine wpList_store_all rfl 23 _ _ rfl (w.heap.size + 1) 3 _ 23 (kv k0) rfl rfl g1 rfl rfl iK rfl ?_; intro w2 H2 b2)
    exact bodyPost_ret (results_c1 rfl rfl H2 Try.underlying23 rfl iK) rfl ⟨rfl, B.trans (b2.lower (by omega) (by omega))⟩
  | false =>
    have c0 : w1.cell? ⟨w.heap.size, 0, none⟩ = some (str v) := by rw [heap_cell g0]; rfl
    by_cases hv : v = []
    · obtain ⟨rfl, rfl⟩ := V2.out hv
      have q0 : v.isEmpty = true := by simpa using hv
      have r2 : w1.rangeAt w.heap.size 1 (kv ⟨x, n, s⟩) := World.rangeAt_of_block g0 1 3
      clear V1 V2 V3 hv
      go_wp2_with (first | (refine wpList_load_mid rfl 23 _ rfl w.heap.size 1 rfl (kv ⟨x, n, s⟩) _ r2 Try.underlying23 rfl iK ?_) | (refine wpList_store_all rfl 23 _ _ rfl (w.heap.size + 1) 3 _ 23 (kv ⟨x, n, s⟩) rfl rfl g1 rfl rfl iK rfl ?_; intro w2 H2 b2))
      exact bodyPost_ret (results_c1 rfl rfl H2 Try.underlying23 rfl iK) rfl ⟨rfl, B.trans (b2.lower (by omega) (by omega))⟩
    · have VV := hideP (V3.out hv)
      have q0 : v.isEmpty = false := by simpa using hv
      clear V1 V2 V3 hv
      go_wp2_with fail
      go_loopw [6] (fun u wr => ∃ k : Nat, u = .int .i64 (k : Int) ∧ k ≤ L.length ∧ Hid (Mt.get v (L.take k) = none) ∧ Below w1.heap.size w1 wr) (fun u _ => L.length - (intOf u).toNat)
      case atStart => exact ⟨0, rfl, by omega, hideP (by simp [Mt.get]), Below.refl _ _⟩
      case round =>
        obtain ⟨k, rfl, hk, hno, B1⟩ := hrel
        have d0 : wr.cell? ⟨w.heap.size, 0, none⟩ = some (str v) := by rw [B1.cell (cell_block c0)]; exact c0
        have G1 := below_heap B1 g1
        have BB := Below.then B B1
        by_cases hlt : k < L.length
        · have q1 : (k : Int) < (L.length : Int) := by omega
          obtain ⟨P1, O1, rfl⟩ := h.addr (by omega)
          have r1 := (h.below BB (Nat.le_refl _)).range k hlt
          have e0 : wr.cell? ⟨P1, O1 + k * 4, none⟩ = some (str (L[k]'hlt).1) := r1 0 _ rfl
          have YE : Hid ((L[k]'hlt).1 = v → Mt.get v L = some (L[k]'hlt).2) := fun h1 => get_hit hlt hno.out h1
          have NO : Hid ((L[k]'hlt).1 ≠ v → Mt.get v (L.take (k + 1)) = none) := fun h1 => get_miss hlt hno.out h1
          have r2 : wr.rangeAt P1 (O1 + k * 4 + 1) (kv (L[k]'hlt).2) := fun j u hu => by
            have hj : j < 3 := (List.getElem?_eq_some_iff.1 hu).1
            rw [Nat.add_assoc]
            refine r1 (1 + j) u ?_
            match j, hj with
            | 0, _ => exact hu
            | 1, _ => exact hu
            | 2, _ => exact hu
          clear r1
          generalize (L[k]'hlt) = b at *
          obtain ⟨b1, b2⟩ := b
          simp only at e0 YE NO r2
          by_cases he : b1 = v
          · have q2 : (b1 == v) = true := by simpa using he
            have Y := YE.out he
            obtain ⟨z1, z2⟩ := VV.out
            rw [Y] at z1 z2
            simp only [Option.getD_some, Option.isSome_some] at z1 z2
            subst z1 z2
            clear he YE NO VV Y hno
            go_wp2_with fail
            go_quiet (fail)
            have D := below_drewN (Below.refl wr.heap.size wr) nq
            have r3 : (wr.drewN nq).rangeAt P1 (O1 + k * 4 + 1) (kv kk) := fun j u hu => by
              have := r2 j u hu
              rw [D.cell (cell_block this)]; exact this
            have G2 := below_heap D G1
            have hz := heap_lt G2
            have BD := Below.then BB D
            generalize wr.drewN nq = w5 at *
            have iQ : (Try.prog.info? 23).map (·.size) = some (kv kk).length := iK
            clear r2 G1 D BB d0 e0
            go_wp2_with (first | (refine wpList_load_mid rfl 23 _ rfl P1 (O1 + k * 4 + 1) rfl (kv kk) _ r3 Try.underlying23 rfl iQ ?_) | (refine wpList_store_all rfl 23 _ _ rfl (w.heap.size + 1) 3 _ 23 (kv kk) rfl rfl G2 rfl rfl iK rfl ?_; intro w6 H6 b6))
            exact bodyPost_ret (results_c1 rfl rfl H6 Try.underlying23 rfl iK) rfl ⟨rfl, BD.trans (b6.lower (by omega) (by omega))⟩
          · have q2 : (b1 == v) = false := by simpa using he
            have Y := hideP (NO.out he)
            clear he YE NO hno
            go_wp2_with fail
            go_quiet (fail)
            go_wp2_with fail
            exact ⟨⟨k + 1, by go_num, by omega, Y, Below.then B1 (below_drewN (Below.refl _ _) nq)⟩, by simp [intOf]; omega⟩
        · have q1 : ¬ (k : Int) < (L.length : Int) := by omega
          rw [List.take_of_length_le (by omega)] at hno
          obtain ⟨z1, z2⟩ := VV.out
          rw [hno.out] at z1 z2
          simp only [Option.getD_none, Option.isSome_none] at z1 z2
          subst z1 z2
          have hz := heap_lt G1
          clear VV hno
          go_wp2_with (refine wpList_store_all rfl 23 _ _ rfl (w.heap.size + 1) 3 _ 23 (kv k0) rfl rfl G1 rfl rfl iK rfl ?_; intro w6 H6 b6)
          exact bodyPost_ret (results_c1 rfl rfl H6 Try.underlying23 rfl iK) rfl ⟨rfl, BB.trans (b6.lower (by omega) (by omega))⟩

theorem eqBind (t u : Bd) (w : World) : (Op.equalIn 10000 57 (bval t) (bval u)).run Try.prog w = .ok ((t.1 == u.1) && sameK t.2 u.2) w := by
  rw [run_equalIn_struct w 9999 57 _ _ (by kernel_rfl) (by kernel_rfl)]
  simp only [Program.fieldsOf, Try.underlying57, Op.eqFields]
  have hc := eqConst t.2 u.2 9997 w
  simp [part, Try.isAgg9, Try.isAgg23, Try.sizeOf23, run_equalIn_string w 9998 _ _ _ Try.underlying9, hc]
  by_cases h1 : t.1 = u.1 <;> cases h2 : sameK t.2 u.2 <;> simp [h1]
theorem sameK_self (k : K) : sameK k k = true := by simp [sameK]

set_option maxRecDepth 100000 in
set_option maxHeartbeats 800000 in
theorem rlike11_at (a a' : Option Addr) (c c' : Nat) (L : List Bd) (w : World) (h : Row bK w a c L) (h' : Row bK w a' c' L) :
    Calls Try.prog 14 #[.slice a L.length c, .slice a' L.length c'] w fun e w' => e = .returned (.bool true) ∧ Below w.heap.size w w' := by
  have few := h.few
  go_enter Try.func14, Try.ntmps14
  go_wp2_with fail
  go_loopw [5] (fun u wr => ∃ k : Nat, u = .int .i64 (k : Int) ∧ k ≤ L.length ∧ Below w.heap.size w wr) (fun u _ => L.length - (intOf u).toNat)
  case atStart => exact ⟨0, rfl, by omega, Below.refl _ _⟩
  case round =>
    obtain ⟨k, rfl, hk, B⟩ := hrel
    by_cases hlt : k < L.length
    · have q0 : (k : Int) < (L.length : Int) := by omega
      obtain ⟨P1, O1, rfl⟩ := h.addr (by omega)
      obtain ⟨P2, O2, rfl⟩ := h'.addr (by omega)
      have r1 : wr.rangeAt P1 (O1 + k * 4) (bv (L[k]'hlt)) := (h.below B (Nat.le_refl _)).range k hlt
      have r2 : wr.rangeAt P2 (O2 + k * 4) (bv (L[k]'hlt)) := (h'.below B (Nat.le_refl _)).range k hlt
      have Q := fun W => eqBind (L[k]'hlt) (L[k]'hlt) W
      simp only [beq_self_eq_true, sameK_self, Bool.and_self] at Q
      generalize (L[k]'hlt) = b at *
      have a0 : wr.cell? ⟨P1, O1 + k * 4, none⟩ = some (str b.1) := r1 0 _ rfl
      have a1 : wr.cell? ⟨P1, O1 + k * 4 + 1, none⟩ = some (.bool b.2.num) := r1 1 _ rfl
      have a2 : wr.cell? ⟨P1, O1 + k * 4 + 2, none⟩ = some (.int .i64 b.2.n) := r1 2 _ rfl
      have a3 : wr.cell? ⟨P1, O1 + k * 4 + 3, none⟩ = some (str b.2.s) := r1 3 _ rfl
      have d0 : wr.cell? ⟨P2, O2 + k * 4, none⟩ = some (str b.1) := r2 0 _ rfl
      have d1 : wr.cell? ⟨P2, O2 + k * 4 + 1, none⟩ = some (.bool b.2.num) := r2 1 _ rfl
      have d2 : wr.cell? ⟨P2, O2 + k * 4 + 2, none⟩ = some (.int .i64 b.2.n) := r2 2 _ rfl
      have d3 : wr.cell? ⟨P2, O2 + k * 4 + 3, none⟩ = some (str b.2.s) := r2 3 _ rfl
      clear r1 r2
      go_wp2_with fail
      go_quiet (fail)
      go_wp2_with fail
      exact ⟨⟨k + 1, by go_num, by omega, Below.then B (below_drewN (Below.refl _ _) nq)⟩, by simp [intOf]; omega⟩
    · have q0 : ¬ (k : Int) < (L.length : Int) := by omega
      go_wp2_with fail
      go_ret
      exact ⟨rfl, B⟩
end Go.Proofs.Ytbahbibibpkddaa
