/-
  The program's functions of one token.
-/
import Derived.Test.YtcogjphoceaejaaDoorMm8
namespace Go.Proofs.YtcogjphoceaejaaDoor
open Go.RowKit Go.Lib Go.Shelf

abbrev zT : Obj := .cells #[.int .i64 0, .string { data := #[] }, .int .i64 0, .int .i64 0] 94
abbrev tg (t : Lx.Tok) : Value := .agg #[.int .i64 t.kind, str t.text, .int .i64 t.n, .int .i64 (t.pl : Int)]
theorem tg_eq (t : Lx.Tok) : Value.agg (tokv t).toArray = tg t := rfl

set_option maxRecDepth 100000 in
set_option maxHeartbeats 1000000 in
theorem is_at (t : Lx.Tok) (k : Int) (s : List UInt8) (w : World) :
    Calls Tryd.prog 87 #[tg t, .int .i64 k, str s] w fun e w' => e = .returned (.bool (Ps.isT k s t)) ∧ Below w.heap.size w w' := by
  obtain ⟨kd, tx, n, pl⟩ := t
  simp only [Ps.isT]
  have B := below_alloc w (.cells #[.int .i64 kd, str tx, .int .i64 n, .int .i64 (pl : Int)] 94)
  by_cases h1 : kd = k
  · subst h1
    by_cases h2 : tx = s
    · subst h2
      go_enter Tryd.func87, Tryd.ntmps87
      go_wp2_with fail
      go_ret
      exact ⟨ret_bool (by simp), B⟩
    · have h3 : (tx == s) = false := by simpa using h2
      have HS := hideP h3
      clear h2 h3
      go_enter Tryd.func87, Tryd.ntmps87
      go_wp2_with fail
      go_ret
      exact ⟨ret_bool (by simp), B⟩
  · have h3 : (kd == k) = false := by simpa using h1
    go_enter Tryd.func87, Tryd.ntmps87
    go_wp2_with fail
    go_ret
    exact ⟨ret_bool (by simp [h3]), B⟩

set_option maxRecDepth 100000 in
set_option maxHeartbeats 1000000 in
theorem mayBePred_at (t : Lx.Tok) (w : World) :
    Calls Tryd.prog 84 #[tg t] w fun e w' => e = .returned (.bool (Ps.mayW t)) ∧ Below w.heap.size w w' := by
  obtain ⟨kd, tx, n, pl⟩ := t
  simp only [Ps.mayW, Ps.kept, Ps.says, Ps.to, Ps.at_]
  have B := below_alloc w (.cells #[.int .i64 kd, str tx, .int .i64 n, .int .i64 (pl : Int)] 94)
  go_enter Tryd.func84, Tryd.ntmps84
  go_wp2_with fail
  all_goals go_ret
  all_goals refine ⟨ret_bool ?_, below_alloc w _⟩
  all_goals (clear B; simp_all)

theorem mayT_eq (t : Lx.Tok) : Ps.mayT t = ((t.kind == 2) || (t.kind == 3) || ((t.kind == 4) && !(t.text == [])) || Ps.mayW t) := rfl
theorem mayW_kind {t : Lx.Tok} (h : Ps.mayW t = true) : t.kind = 1 := by
  simp only [Ps.mayW, Bool.and_eq_true, beq_iff_eq] at h; exact h.1
set_option maxRecDepth 100000 in
set_option maxHeartbeats 1000000 in
theorem mayBeTerm_at (t : Lx.Tok) (w : World) :
    Calls Tryd.prog 72 #[tg t] w fun e w' => e = .returned (.bool (Ps.mayT t)) ∧ Below w.heap.size w w' := by
  have HP := hideP (fun w => mayBePred_at t w)
  have HM := hideP (mayT_eq t)
  have HK := hideP (fun h => mayW_kind (t := t) h)
  generalize Ps.mayT t = r at *
  generalize Ps.mayW t = m at *
  obtain ⟨kd, tx, n, pl⟩ := t
  go_enter Tryd.func72, Tryd.ntmps72
  go_wp2_with (first
    | (go_at_call 84; refine (HP.out _).mono ?_; rintro e w1 ⟨rfl, b1⟩))
  all_goals go_ret
  all_goals refine ⟨ret_bool ?_, ?_⟩
  all_goals first
    | exact below_alloc w _
    | exact Below.then (below_alloc w _) b1
    | (rw [HM.out]; simp_all; done)
    | (have hk := HK.out; rw [HM.out]; cases m <;> simp_all; done)

theorem need1_at (t : Lx.Tok) (k : Int) (s : List UInt8) (a b : Nat) (w : World) (ha : w.cell? ⟨a, 0, none⟩ = some (.int .i64 k)) (hb : w.cell? ⟨b, 0, none⟩ = some (str s)) :
    Calls Tryd.prog 86 #[tg t, ptr a, ptr b] w fun e w' => e = .returned (.bool (Ps.isT k s t)) ∧ Below w.heap.size w w' := by
  have HI := hideP (fun w => is_at t k s w)
  generalize Ps.isT k s t = r at *
  have B := below_alloc w (.cells #[.int .i64 t.kind, str t.text, .int .i64 t.n, .int .i64 (t.pl : Int)] 94)
  have ha' := hb
  have ca : (w.alloc (.cells #[.int .i64 t.kind, str t.text, .int .i64 t.n, .int .i64 (t.pl : Int)] 94)).cell? ⟨a, 0, none⟩ = some (.int .i64 k) := by rw [B.cell (cell_block ha)]; exact ha
  have cb : (w.alloc (.cells #[.int .i64 t.kind, str t.text, .int .i64 t.n, .int .i64 (t.pl : Int)] 94)).cell? ⟨b, 0, none⟩ = some (str s) := by rw [B.cell (cell_block hb)]; exact hb
  obtain ⟨kd, tx, n, pl⟩ := t
  go_enter Tryd.func86, Tryd.ntmps86
  go_wp2_with (first
    | (go_at_call 87; refine (HI.out _).mono ?_; rintro e w1 ⟨rfl, b1⟩))
  go_ret
  exact ⟨rfl, Below.then B b1⟩

theorem tok_blk {w : World} {b : Nat} {t : Lx.Tok} (h : w.heap[b]? = some (.cells (tokv t).toArray 94)) :
    w.cell? ⟨b, 0, none⟩ = some (.int .i64 t.kind) ∧ w.cell? ⟨b, 1, none⟩ = some (str t.text) ∧ w.cell? ⟨b, 2, none⟩ = some (.int .i64 t.n) ∧ w.cell? ⟨b, 3, none⟩ = some (.int .i64 (t.pl : Int)) := by
  refine ⟨?_, ?_, ?_, ?_⟩ <;> (rw [heap_cell h]; rfl)
theorem PAt.cells {w : World} {p E : Nat} {L : List Lx.Tok} (h : PAt w p E L) : ∃ a c, w.cell? ⟨p, 0, none⟩ = some (.slice a L.length c) ∧ w.cell? ⟨p, 1, none⟩ = some (.int .i64 (E : Int)) ∧ RowT kT 94 w a c L := by
  obtain ⟨a, c, h1, h2⟩ := h.obj
  exact ⟨a, c, by rw [heap_cell h1]; rfl, by rw [heap_cell h1]; rfl, h2⟩
theorem hd_drop {L : List Lx.Tok} {k : Nat} (h : k < L.length) : Ps.hd (L.drop k) = L[k] := by rw [List.drop_eq_getElem_cons h]; rfl
theorem hd_over {L : List Lx.Tok} {k : Nat} (h : L.length ≤ k) : Ps.hd (L.drop k) = Ps.tz := by rw [List.drop_of_length_le h]; rfl

set_option maxRecDepth 100000 in
set_option maxHeartbeats 1000000 in
theorem ahead_at (p E k : Nat) (L : List Lx.Tok) (w : World) (h : PAt w p E L) :
    Calls Tryd.prog 73 #[ptr p, .int .i64 (k : Int)] w fun e w' => e = .returned (tg (Ps.hd (L.drop k))) ∧ Below w.heap.size w w' := by
  have iN : (Tryd.prog.info? 94).map (·.size) = some 4 := by kernel_rfl
  have B0 := below_alloc w zT
  obtain ⟨a, c, c0, c1, r0⟩ := (h.below B0).cells
  have few := r0.row.few
  have Z0 := heap_alloc_new w zT
  rcases Nat.lt_or_ge k L.length with hk | hk
  · have hk' : (k : Int) < (L.length : Int) := by omega
    have HH := hideP (hd_drop hk)
    obtain ⟨P1, O1, rfl⟩ := r0.row.addr (by omega)
    have RG := r0.row.range k hk
    generalize L[k] = t at *
    go_enter Tryd.func73, Tryd.ntmps73
    go_wp2_with (first
      | (refine wpList_load_mid rfl 94 _ rfl P1 (O1 + k * 4) rfl (tokv t) _ RG Tryd.underlying94 rfl iN ?_)
      | (refine wpList_store_all rfl 94 _ _ rfl w.heap.size 4 _ 94 (tokv t) rfl rfl Z0 rfl rfl iN rfl ?_; intro w3 V3 b3))
    refine bodyPost_ret (results_cell rfl rfl V3 Tryd.underlying94 rfl (by kernel_rfl)) rfl ⟨?_, below_tok b3⟩
    rw [HH.out]; rfl
  · have hk' : ¬ (k : Int) < (L.length : Int) := by omega
    have HH := hideP (hd_over hk)
    go_enter Tryd.func73, Tryd.ntmps73
    go_wp2_with (first
      | (refine wpList_store_all rfl 94 _ _ rfl w.heap.size 4 _ 94 (tokv Ps.tz) rfl rfl Z0 rfl rfl iN rfl ?_; intro w3 V3 b3))
    refine bodyPost_ret (results_cell rfl rfl V3 Tryd.underlying94 rfl (by kernel_rfl)) rfl ⟨?_, below_tok b3⟩
    rw [HH.out]; rfl
theorem ahead0 (p E : Nat) (L : List Lx.Tok) (w : World) (h : PAt w p E L) :
    Calls Tryd.prog 73 #[ptr p, .int .i64 0] w fun e w' => e = .returned (tg (Ps.hd L)) ∧ Below w.heap.size w w' := by
  have := ahead_at p E 0 L w h
  simpa using this
theorem ahead1 (p E : Nat) (L : List Lx.Tok) (w : World) (h : PAt w p E L) :
    Calls Tryd.prog 73 #[ptr p, .int .i64 1] w fun e w' => e = .returned (tg (Ps.hd L.tail)) ∧ Below w.heap.size w w' := by
  have := ahead_at p E 1 L w h
  rw [List.drop_one] at this
  exact this

set_option maxRecDepth 100000 in
set_option maxHeartbeats 1000000 in
theorem giveUp_at (p E : Nat) (er : Int) (L : List Lx.Tok) (w : World) (h : PAt w p E L) :
    Calls Tryd.prog 74 #[ptr p, .int .i64 er] w fun e w' => e = Pan (Ps.pl E L, er) ∧ w = w' := by
  obtain ⟨a, c, c0, c1, r0⟩ := h.cells
  cases L with
  | nil =>
    go_enter Tryd.func74, Tryd.ntmps74
    go_wp2_with fail
    exact ⟨rfl, rfl, rfl⟩
  | cons t L =>
    have few := r0.row.few
    obtain ⟨P1, O1, rfl⟩ := r0.row.addr (by simp)
    have RG := r0.row.range 0 (by simp) 3 _ rfl
    change w.cell? ⟨P1, O1 + 0 * 4 + 3, none⟩ = some (.int .i64 (t.pl : Int)) at RG
    rw [Nat.zero_mul, Nat.add_zero] at RG
    simp only [List.length_cons] at *
    have q1 : ((L.length + 1 : Nat) : Int) > 0 := by omega
    go_enter Tryd.func74, Tryd.ntmps74
    go_wp2_with fail
    exact ⟨rfl, rfl, rfl⟩
end Go.Proofs.YtcogjphoceaejaaDoor
