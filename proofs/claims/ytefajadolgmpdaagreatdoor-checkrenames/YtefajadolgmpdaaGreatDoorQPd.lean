/-
  The program's functions of one token.
-/
import Derived.Test.YtefajadolgmpdaaGreatDoorQMm8
namespace Go.Proofs.YtefajadolgmpdaaGreatDoor
open Go.RowKit Go.Lib Go.Shelf

abbrev zT : Obj := .cells #[.int .i64 0, .string { data := #[] }, .int .i64 0, .int .i64 0] 97
abbrev tg (t : Lx.Tok) : Value := .agg #[.int .i64 t.kind, str t.text, .int .i64 t.n, .int .i64 (t.pl : Int)]
theorem tg_eq (t : Lx.Tok) : Value.agg (tokv t).toArray = tg t := rfl

set_option maxRecDepth 100000 in
set_option maxHeartbeats 1000000 in
theorem is_at (t : Lx.Tok) (k : Int) (s : List UInt8) (w : World) :
    Calls Tryz.prog 104 #[tg t, .int .i64 k, str s] w fun e w' => e = .returned (.bool (Ps.isT k s t)) ∧ Below w.heap.size w w' := by
  obtain ⟨kd, tx, n, pl⟩ := t
  simp only [Ps.isT]
  have B := below_alloc w (.cells #[.int .i64 kd, str tx, .int .i64 n, .int .i64 (pl : Int)] 97)
  by_cases h1 : kd = k
  · subst h1
    by_cases h2 : tx = s
    · subst h2
      go_enter Tryz.func104, Tryz.ntmps104
      go_wp2_with fail
      go_ret
      exact ⟨ret_bool (by simp), B⟩
    · have h3 : (tx == s) = false := by simpa using h2
      have HS := hideP h3
      clear h2 h3
      go_enter Tryz.func104, Tryz.ntmps104
      go_wp2_with fail
      go_ret
      exact ⟨ret_bool (by simp), B⟩
  · have h3 : (kd == k) = false := by simpa using h1
    go_enter Tryz.func104, Tryz.ntmps104
    go_wp2_with fail
    go_ret
    exact ⟨ret_bool (by simp [h3]), B⟩

set_option maxRecDepth 100000 in
set_option maxHeartbeats 1000000 in
theorem mayBePred_at (t : Lx.Tok) (w : World) :
    Calls Tryz.prog 101 #[tg t] w fun e w' => e = .returned (.bool (Ps.mayW t)) ∧ Below w.heap.size w w' := by
  obtain ⟨kd, tx, n, pl⟩ := t
  simp only [Ps.mayW, Ps.kept, Ps.says, Ps.to, Ps.at_]
  have B := below_alloc w (.cells #[.int .i64 kd, str tx, .int .i64 n, .int .i64 (pl : Int)] 97)
  go_enter Tryz.func101, Tryz.ntmps101
  go_wp2_with fail
  all_goals go_ret
  all_goals refine ⟨ret_bool ?_, below_alloc w _⟩
  all_goals (clear B; simp_all)

theorem mayT_eq (t : Lx.Tok) : Ps.mayT t = ((t.kind == 2) || (t.kind == 3) || ((t.kind == 4) && !(t.text == [])) || Ps.mayW t) := rfl
theorem mayW_kind {t : Lx.Tok} (h : Ps.mayW t = true) : t.kind = 1 := by
  simp only [Ps.mayW, Bool.and_eq_true, beq_iff_eq] at h; exact h.1
set_option maxRecDepth 100000 in
set_option maxHeartbeats 1000000 in
theorem mayBeTerm_at (t : Lx.Tok) (w : World) :
    Calls Tryz.prog 75 #[tg t] w fun e w' => e = .returned (.bool (Ps.mayT t)) ∧ Below w.heap.size w w' := by
  have HP := hideP (fun w => mayBePred_at t w)
  have HM := hideP (mayT_eq t)
  have HK := hideP (fun h => mayW_kind (t := t) h)
  generalize Ps.mayT t = r at *
  generalize Ps.mayW t = m at *
  obtain ⟨kd, tx, n, pl⟩ := t
  go_enter Tryz.func75, Tryz.ntmps75
  go_wp2_with (first
    | (go_at_call 101; refine (HP.out _).mono ?_; rintro e w1 ⟨rfl, b1⟩))
  all_goals go_ret
  all_goals refine ⟨ret_bool ?_, ?_⟩
  all_goals first
    | exact below_alloc w _
    | exact Below.then (below_alloc w _) b1
    | (rw [HM.out]; simp_all; done)
    | (have hk := HK.out; rw [HM.out]; cases m <;> simp_all; done)

theorem need1_at (t : Lx.Tok) (k : Int) (s : List UInt8) (a b : Nat) (w : World) (ha : w.cell? ⟨a, 0, none⟩ = some (.int .i64 k)) (hb : w.cell? ⟨b, 0, none⟩ = some (str s)) :
    Calls Tryz.prog 103 #[tg t, ptr a, ptr b] w fun e w' => e = .returned (.bool (Ps.isT k s t)) ∧ Below w.heap.size w w' := by
  have HI := hideP (fun w => is_at t k s w)
  generalize Ps.isT k s t = r at *
  have B := below_alloc w (.cells #[.int .i64 t.kind, str t.text, .int .i64 t.n, .int .i64 (t.pl : Int)] 97)
  have ha' := hb
  have ca : (w.alloc (.cells #[.int .i64 t.kind, str t.text, .int .i64 t.n, .int .i64 (t.pl : Int)] 97)).cell? ⟨a, 0, none⟩ = some (.int .i64 k) := by rw [B.cell (cell_block ha)]; exact ha
  have cb : (w.alloc (.cells #[.int .i64 t.kind, str t.text, .int .i64 t.n, .int .i64 (t.pl : Int)] 97)).cell? ⟨b, 0, none⟩ = some (str s) := by rw [B.cell (cell_block hb)]; exact hb
  obtain ⟨kd, tx, n, pl⟩ := t
  go_enter Tryz.func103, Tryz.ntmps103
  go_wp2_with (first
    | (go_at_call 104; refine (HI.out _).mono ?_; rintro e w1 ⟨rfl, b1⟩))
  go_ret
  exact ⟨rfl, Below.then B b1⟩

theorem tok_blk {w : World} {b : Nat} {t : Lx.Tok} (h : w.heap[b]? = some (.cells (tokv t).toArray 97)) :
    w.cell? ⟨b, 0, none⟩ = some (.int .i64 t.kind) ∧ w.cell? ⟨b, 1, none⟩ = some (str t.text) ∧ w.cell? ⟨b, 2, none⟩ = some (.int .i64 t.n) ∧ w.cell? ⟨b, 3, none⟩ = some (.int .i64 (t.pl : Int)) := by
  refine ⟨?_, ?_, ?_, ?_⟩ <;> (rw [heap_cell h]; rfl)
theorem PAt.cells {w : World} {p E : Nat} {L : List Lx.Tok} (h : PAt w p E L) : ∃ a c, w.cell? ⟨p, 0, none⟩ = some (.slice a L.length c) ∧ w.cell? ⟨p, 1, none⟩ = some (.int .i64 (E : Int)) ∧ RowT kT 97 w a c L := by
  obtain ⟨a, c, h1, h2⟩ := h.obj
  exact ⟨a, c, by rw [heap_cell h1]; rfl, by rw [heap_cell h1]; rfl, h2⟩
theorem hd_drop {L : List Lx.Tok} {k : Nat} (h : k < L.length) : Ps.hd (L.drop k) = L[k] := by rw [List.drop_eq_getElem_cons h]; rfl
theorem hd_over {L : List Lx.Tok} {k : Nat} (h : L.length ≤ k) : Ps.hd (L.drop k) = Ps.tz := by rw [List.drop_of_length_le h]; rfl

set_option maxRecDepth 100000 in
set_option maxHeartbeats 1000000 in
theorem ahead_at (p E k : Nat) (L : List Lx.Tok) (w : World) (h : PAt w p E L) :
    Calls Tryz.prog 76 #[ptr p, .int .i64 (k : Int)] w fun e w' => e = .returned (tg (Ps.hd (L.drop k))) ∧ Below w.heap.size w w' := by
  have iN : (Tryz.prog.info? 97).map (·.size) = some 4 := by kernel_rfl
  have B0 := below_alloc w zT
  obtain ⟨a, c, c0, c1, r0⟩ := (h.below B0).cells
  have few := r0.row.few
  have Z0 := heap_alloc_new w zT
  rcases Nat.lt_or_ge k L.length with hk | hk
  · have hk' : (k : Int) < (L.length : Int) := by omega
    have HH := hideP (hd_drop hk)
    obtain ⟨P1, O1, rfl⟩ := r0.row.addr (by omega)
    have RG := r0.row.range k hk
    generalize L[k] = t at *
    go_enter Tryz.func76, Tryz.ntmps76
    go_wp2_with (first
      | (refine wpList_load_mid rfl 97 _ rfl P1 (O1 + k * 4) rfl (tokv t) _ RG Tryz.underlying97 rfl iN ?_)
      | (refine wpList_store_all rfl 97 _ _ rfl w.heap.size 4 _ 97 (tokv t) rfl rfl Z0 rfl rfl iN rfl ?_; intro w3 V3 b3))
    refine bodyPost_ret (results_cell rfl rfl V3 Tryz.underlying97 rfl (by kernel_rfl)) rfl ⟨?_, below_tok b3⟩
    rw [HH.out]; rfl
  · have hk' : ¬ (k : Int) < (L.length : Int) := by omega
    have HH := hideP (hd_over hk)
    go_enter Tryz.func76, Tryz.ntmps76
    go_wp2_with (first
      | (refine wpList_store_all rfl 97 _ _ rfl w.heap.size 4 _ 97 (tokv Ps.tz) rfl rfl Z0 rfl rfl iN rfl ?_; intro w3 V3 b3))
    refine bodyPost_ret (results_cell rfl rfl V3 Tryz.underlying97 rfl (by kernel_rfl)) rfl ⟨?_, below_tok b3⟩
    rw [HH.out]; rfl
theorem ahead0 (p E : Nat) (L : List Lx.Tok) (w : World) (h : PAt w p E L) :
    Calls Tryz.prog 76 #[ptr p, .int .i64 0] w fun e w' => e = .returned (tg (Ps.hd L)) ∧ Below w.heap.size w w' := by
  have := ahead_at p E 0 L w h
  simpa using this
theorem ahead1 (p E : Nat) (L : List Lx.Tok) (w : World) (h : PAt w p E L) :
    Calls Tryz.prog 76 #[ptr p, .int .i64 1] w fun e w' => e = .returned (tg (Ps.hd L.tail)) ∧ Below w.heap.size w w' := by
  have := ahead_at p E 1 L w h
  rw [List.drop_one] at this
  exact this

set_option maxRecDepth 100000 in
set_option maxHeartbeats 1000000 in
theorem giveUp_at (p E : Nat) (er : Int) (L : List Lx.Tok) (w : World) (h : PAt w p E L) :
    Calls Tryz.prog 77 #[ptr p, .int .i64 er] w fun e w' => e = Pan (Ps.pl E L, er) ∧ w = w' := by
  obtain ⟨a, c, c0, c1, r0⟩ := h.cells
  cases L with
  | nil =>
    go_enter Tryz.func77, Tryz.ntmps77
    go_wp2_with fail
    exact ⟨rfl, rfl, rfl⟩
  | cons t L =>
    have few := r0.row.few
    obtain ⟨P1, O1, rfl⟩ := r0.row.addr (by simp)
    have RG := r0.row.range 0 (by simp) 3 _ rfl
    change w.cell? ⟨P1, O1 + 0 * 4 + 3, none⟩ = some (.int .i64 (t.pl : Int)) at RG
    rw [Nat.zero_mul, Nat.add_zero] at RG
    simp only [List.length_cons] at *
    have q1 : ((L.length + 1 : Nat) : Int) > 0 := by omega
    go_enter Tryz.func77, Tryz.ntmps77
    go_wp2_with fail
    exact ⟨rfl, rfl, rfl⟩
end Go.Proofs.YtefajadolgmpdaaGreatDoor

/-
  The program's parser: one token more, or none; a term.
-/
namespace Go.Proofs.YtefajadolgmpdaaGreatDoor
open Go.RowKit Go.Lib Go.Shelf

theorem enter_pred (args : Array Value) (w : World) : (callFunc 101 args).run Tryz.prog w = .ok (.enter 101 args) w := enters_of Tryz.func101 (by kernel_rfl) rfl args w
theorem enter_term (args : Array Value) (w : World) : (callFunc 75 args).run Tryz.prog w = .ok (.enter 75 args) w := enters_of Tryz.func75 (by kernel_rfl) rfl args w
theorem enter_need (args : Array Value) (w : World) : (callFunc 103 args).run Tryz.prog w = .ok (.enter 103 args) w := enters_of Tryz.func103 (by kernel_rfl) rfl args w

theorem PAt.took {w w' : World} {p E b o c : Nat} {t : Lx.Tok} {L : List Lx.Tok} (hp : w.heap[p]? = some (.cells #[.slice (some ⟨b, o, none⟩) (L.length + 1) c, .int .i64 (E : Int)] 73)) (r : RowT kT 97 w (some ⟨b, o, none⟩) c (t :: L))
    (hb : But p w w') (h' : w'.heap[p]? = some (.cells #[.slice (some (tl b o c)) L.length (c - 1), .int .i64 (E : Int)] 73)) : PAt w' p E L :=
  ⟨_, _, h', (row_tl r).safe (Safe.but hb hp (by decide))⟩

set_option maxRecDepth 100000 in
set_option maxHeartbeats 1000000 in
theorem takeF_yes (F : Nat) (f : Lx.Tok → Bool) (hE : ∀ args w, (callFunc F args).run Tryz.prog w = .ok (.enter F args) w) (hF : ∀ t w, Calls Tryz.prog F #[tg t] w fun e w' => e = .returned (.bool (f t)) ∧ Below w.heap.size w w')
    (p E : Nat) (t : Lx.Tok) (L : List Lx.Tok) (w : World) (h : PAt w p E (t :: L)) (hf : f t = true) :
    Calls Tryz.prog 102 #[ptr p, .func (.func F) #[] #[]] w fun e w' => e = .returned (tg t) ∧ PAt w' p E L ∧ But p w w' := by
  have iN : (Tryz.prog.info? 97).map (·.size) = some 4 := by kernel_rfl
  have hF1 := hF t
  rw [hf] at hF1
  have HF := hideP hF1
  clear hF hF1 hf
  have HA := hideP (fun w h => ahead0 p E (t :: L) w h)
  have hp := h.lt
  obtain ⟨a, c, H0, r0⟩ := h.obj
  obtain ⟨P1, O1, rfl⟩ := r0.row.addr (by simp)
  simp only [List.length_cons] at H0
  have few := r0.row.few
  simp only [List.length_cons] at few
  have HS := fun w => slice1 P1 O1 L.length c w
  have B0 := below_alloc w zT
  have Z0 := heap_alloc_new w zT
  go_enter Tryz.func102, Tryz.ntmps102
  go_wp2_with fail
  refine (HA.out _ (h.below B0)).mono ?_
  rintro e w1 ⟨rfl, b1⟩
  have B1 := Below.then B0 b1
  have Z1 := below_heap b1 Z0
  change w1.heap[w.heap.size]? = some zT at Z1
  have s1 := B1.size
  have s2 := heap_lt Z1
  have V1 := heap_alloc_new w1 zT
  simp only [Ps.hd]
  go_wp2_with (first
    | (refine wpList_store_all rfl 97 _ _ rfl w1.heap.size 4 _ 97 (tokv t) rfl rfl V1 rfl rfl iN rfl ?_; intro w2 V2 b2; have B2 := Below.then B1 (below_tok b2); have Z2 := below_heap (below_tok b2) Z1)
    | (refine wpList_load_all rfl 97 _ rfl w1.heap.size 4 97 (tokv t) _ rfl V2 rfl Tryz.underlying97 rfl iN ?_)
    | (refine (HF.out _).mono ?_; rintro e w3 ⟨rfl, b3⟩; have B3 := Below.then B2 b3; have Z3 := below_heap b3 Z2; have V3 := below_heap b3 V2; have H3 := below_heap B3 H0; have c3 : w3.cell? ⟨p, 0, none⟩ = some (.slice (some ⟨P1, O1, none⟩) (L.length + 1) c) := (by rw [heap_cell H3]; rfl))
    | (refine wpList_store_cel rfl 68 _ _ rfl p 0 2 73 (.slice (some (tl P1 O1 c)) L.length (c - 1)) #[.slice (some (tl P1 O1 c)) L.length (c - 1), .int .i64 (E : Int)] rfl rfl H3 rfl (by decide) (by kernel_rfl) rfl rfl ?_; intro w4 V4 b4; have Z4 := b4.heap (show w.heap.size ≠ p by omega) Z3; have U4 := b4.heap (show w1.heap.size ≠ p by omega) V3)
    | (refine wpList_load_all rfl 97 _ rfl w1.heap.size 4 97 (tokv t) _ rfl U4 rfl Tryz.underlying97 rfl iN ?_)
    | (refine wpList_store_all rfl 97 _ _ rfl w.heap.size 4 _ 97 (tokv t) rfl rfl Z4 rfl rfl iN rfl ?_; intro w5 V5 b5))
  have hb : But p w w5 := ((But.of_below B3).trans b4).fresh b5 (Nat.le_refl _)
  exact bodyPost_ret (results_cell rfl rfl V5 Tryz.underlying97 rfl (by kernel_rfl)) rfl ⟨rfl, PAt.took H0 r0 hb (b5.heap (by omega) V4), hb⟩

set_option maxRecDepth 100000 in
set_option maxHeartbeats 1000000 in
theorem takeF_no (F : Nat) (f : Lx.Tok → Bool) (hE : ∀ args w, (callFunc F args).run Tryz.prog w = .ok (.enter F args) w) (hF : ∀ t w, Calls Tryz.prog F #[tg t] w fun e w' => e = .returned (.bool (f t)) ∧ Below w.heap.size w w')
    (p E : Nat) (L : List Lx.Tok) (w : World) (h : PAt w p E L) (hf : f (Ps.hd L) = false) :
    Calls Tryz.prog 102 #[ptr p, .func (.func F) #[] #[]] w fun e w' => e = Pan (Ps.bad E L) ∧ But p w w' := by
  have iN : (Tryz.prog.info? 97).map (·.size) = some 4 := by kernel_rfl
  have hF1 := hF (Ps.hd L)
  rw [hf] at hF1
  have HF := hideP hF1
  clear hF hF1 hf
  have HA := hideP (fun w h => ahead0 p E L w h)
  have HG := hideP (fun w h => giveUp_at p E 80 L w h)
  generalize Ps.hd L = t at *
  have B0 := below_alloc w zT
  go_enter Tryz.func102, Tryz.ntmps102
  go_wp2_with fail
  refine (HA.out _ (h.below B0)).mono ?_
  rintro e w1 ⟨rfl, b1⟩
  have B1 := Below.then B0 b1
  have V1 := heap_alloc_new w1 zT
  go_wp2_with (first
    | (refine wpList_store_all rfl 97 _ _ rfl w1.heap.size 4 _ 97 (tokv t) rfl rfl V1 rfl rfl iN rfl ?_; intro w2 V2 b2; have B2 := Below.then B1 (below_tok b2))
    | (refine wpList_load_all rfl 97 _ rfl w1.heap.size 4 97 (tokv t) _ rfl V2 rfl Tryz.underlying97 rfl iN ?_)
    | (go_at_call 77; refine (HG.out _ (h.below B3)).mono ?_; rintro e w4 ⟨rfl, rfl⟩; simp only [Pan])
    | (refine (HF.out _).mono ?_; rintro e w3 ⟨rfl, b3⟩; have B3 := Below.then B2 b3))
  exact ⟨rfl, rfl, But.of_below B3⟩

set_option maxRecDepth 100000 in
set_option maxHeartbeats 1000000 in
theorem takeN_yes (k : Int) (s : List UInt8) (ka sa : Nat)
    (p E : Nat) (t : Lx.Tok) (L : List Lx.Tok) (w : World) (h : PAt w p E (t :: L)) (hk : w.cell? ⟨ka, 0, none⟩ = some (.int .i64 k)) (hs : w.cell? ⟨sa, 0, none⟩ = some (str s)) (hf : Ps.isT k s t = true) :
    Calls Tryz.prog 102 #[ptr p, .func (.func 103) #[] #[ptr ka, ptr sa]] w fun e w' => e = .returned (tg t) ∧ PAt w' p E L ∧ But p w w' := by
  have iN : (Tryz.prog.info? 97).map (·.size) = some 4 := by kernel_rfl
  have hE := enter_need
  have HF := hideP (fun W (hB : Below w.heap.size w W) => need1_at t k s ka sa W ((hB.cell (cell_block hk)).trans hk) ((hB.cell (cell_block hs)).trans hs))
  rw [hf] at HF
  clear hf hk hs
  have HA := hideP (fun w h => ahead0 p E (t :: L) w h)
  have hp := h.lt
  obtain ⟨a, c, H0, r0⟩ := h.obj
  obtain ⟨P1, O1, rfl⟩ := r0.row.addr (by simp)
  simp only [List.length_cons] at H0
  have few := r0.row.few
  simp only [List.length_cons] at few
  have HS := fun w => slice1 P1 O1 L.length c w
  have B0 := below_alloc w zT
  have Z0 := heap_alloc_new w zT
  go_enter Tryz.func102, Tryz.ntmps102
  go_wp2_with fail
  refine (HA.out _ (h.below B0)).mono ?_
  rintro e w1 ⟨rfl, b1⟩
  have B1 := Below.then B0 b1
  have Z1 := below_heap b1 Z0
  change w1.heap[w.heap.size]? = some zT at Z1
  have s1 := B1.size
  have s2 := heap_lt Z1
  have V1 := heap_alloc_new w1 zT
  simp only [Ps.hd]
  go_wp2_with (first
    | (refine wpList_store_all rfl 97 _ _ rfl w1.heap.size 4 _ 97 (tokv t) rfl rfl V1 rfl rfl iN rfl ?_; intro w2 V2 b2; have B2 := Below.then B1 (below_tok b2); have Z2 := below_heap (below_tok b2) Z1)
    | (refine wpList_load_all rfl 97 _ rfl w1.heap.size 4 97 (tokv t) _ rfl V2 rfl Tryz.underlying97 rfl iN ?_)
    | (refine (HF.out _ B2).mono ?_; rintro e w3 ⟨rfl, b3⟩; have B3 := Below.then B2 b3; have Z3 := below_heap b3 Z2; have V3 := below_heap b3 V2; have H3 := below_heap B3 H0; have c3 : w3.cell? ⟨p, 0, none⟩ = some (.slice (some ⟨P1, O1, none⟩) (L.length + 1) c) := (by rw [heap_cell H3]; rfl))
    | (refine wpList_store_cel rfl 68 _ _ rfl p 0 2 73 (.slice (some (tl P1 O1 c)) L.length (c - 1)) #[.slice (some (tl P1 O1 c)) L.length (c - 1), .int .i64 (E : Int)] rfl rfl H3 rfl (by decide) (by kernel_rfl) rfl rfl ?_; intro w4 V4 b4; have Z4 := b4.heap (show w.heap.size ≠ p by omega) Z3; have U4 := b4.heap (show w1.heap.size ≠ p by omega) V3)
    | (refine wpList_load_all rfl 97 _ rfl w1.heap.size 4 97 (tokv t) _ rfl U4 rfl Tryz.underlying97 rfl iN ?_)
    | (refine wpList_store_all rfl 97 _ _ rfl w.heap.size 4 _ 97 (tokv t) rfl rfl Z4 rfl rfl iN rfl ?_; intro w5 V5 b5))
  have hb : But p w w5 := ((But.of_below B3).trans b4).fresh b5 (Nat.le_refl _)
  exact bodyPost_ret (results_cell rfl rfl V5 Tryz.underlying97 rfl (by kernel_rfl)) rfl ⟨rfl, PAt.took H0 r0 hb (b5.heap (by omega) V4), hb⟩

set_option maxRecDepth 100000 in
set_option maxHeartbeats 1000000 in
theorem takeN_no (k : Int) (s : List UInt8) (ka sa : Nat)
    (p E : Nat) (L : List Lx.Tok) (w : World) (h : PAt w p E L) (hk : w.cell? ⟨ka, 0, none⟩ = some (.int .i64 k)) (hs : w.cell? ⟨sa, 0, none⟩ = some (str s)) (hf : Ps.isT k s (Ps.hd L) = false) :
    Calls Tryz.prog 102 #[ptr p, .func (.func 103) #[] #[ptr ka, ptr sa]] w fun e w' => e = Pan (Ps.bad E L) ∧ But p w w' := by
  have iN : (Tryz.prog.info? 97).map (·.size) = some 4 := by kernel_rfl
  have hE := enter_need
  have HF := hideP (fun W (hB : Below w.heap.size w W) => need1_at (Ps.hd L) k s ka sa W ((hB.cell (cell_block hk)).trans hk) ((hB.cell (cell_block hs)).trans hs))
  rw [hf] at HF
  clear hf hk hs
  have HA := hideP (fun w h => ahead0 p E L w h)
  have HG := hideP (fun w h => giveUp_at p E 80 L w h)
  generalize Ps.hd L = t at *
  have B0 := below_alloc w zT
  go_enter Tryz.func102, Tryz.ntmps102
  go_wp2_with fail
  refine (HA.out _ (h.below B0)).mono ?_
  rintro e w1 ⟨rfl, b1⟩
  have B1 := Below.then B0 b1
  have V1 := heap_alloc_new w1 zT
  go_wp2_with (first
    | (refine wpList_store_all rfl 97 _ _ rfl w1.heap.size 4 _ 97 (tokv t) rfl rfl V1 rfl rfl iN rfl ?_; intro w2 V2 b2; have B2 := Below.then B1 (below_tok b2))
    | (refine wpList_load_all rfl 97 _ rfl w1.heap.size 4 97 (tokv t) _ rfl V2 rfl Tryz.underlying97 rfl iN ?_)
    | (go_at_call 77; refine (HG.out _ (h.below B3)).mono ?_; rintro e w4 ⟨rfl, rfl⟩; simp only [Pan])
    | (refine (HF.out _ B2).mono ?_; rintro e w3 ⟨rfl, b3⟩; have B3 := Below.then B2 b3))
  exact ⟨rfl, rfl, But.of_below B3⟩

theorem need_split (E : Nat) (k : Int) (s : List UInt8) (L : List Lx.Tok) (hk : k ≠ 0) : (∃ t R, L = t :: R ∧ Ps.isT k s t = true ∧ Ps.need E k s L = .ok ((), R)) ∨ (Ps.isT k s (Ps.hd L) = false ∧ Ps.need E k s L = .error (Ps.bad E L)) := by
  unfold Ps.need
  by_cases h : Ps.isT k s (Ps.hd L) = true
  · rw [if_pos h]
    cases L with
    | nil => exact absurd rfl (Ps.hd_ne hk h)
    | cons t R => exact .inl ⟨t, R, rfl, h, rfl⟩
  · rw [if_neg h]; exact .inr ⟨by simpa using h, rfl⟩
theorem term_split (E : Nat) (L : List Lx.Tok) : (∃ t R, L = t :: R ∧ Ps.mayT t = true ∧ Ps.term E L = .ok (Ps.tm t, R)) ∨ (Ps.mayT (Ps.hd L) = false ∧ Ps.term E L = .error (Ps.bad E L)) := by
  unfold Ps.term
  by_cases h : Ps.mayT (Ps.hd L) = true
  · rw [if_pos h]
    cases L with
    | nil => exact absurd rfl (Ps.mayT_ne h)
    | cons t R => exact .inl ⟨t, R, rfl, h, rfl⟩
  · rw [if_neg h]; exact .inr ⟨by simpa using h, rfl⟩
theorem word_split (E : Nat) (L : List Lx.Tok) : (∃ t R, L = t :: R ∧ Ps.mayW t = true ∧ Ps.word E L = .ok (t.text, R)) ∨ (Ps.mayW (Ps.hd L) = false ∧ Ps.word E L = .error (Ps.bad E L)) := by
  unfold Ps.word
  by_cases h : Ps.mayW (Ps.hd L) = true
  · rw [if_pos h]
    cases L with
    | nil => exact absurd rfl (Ps.mayW_ne h)
    | cons t R => exact .inl ⟨t, R, rfl, h, rfl⟩
  · rw [if_neg h]; exact .inr ⟨by simpa using h, rfl⟩

theorem does_ok {α : Type} {p E : Nat} {w w' : World} {v : α} {L : List Lx.Tok} {V : α → Value → World → Prop} {u : Value} (hb : But p w w') (hv : V v u w') (hp : PAt w' p E L) : Does p E w (.ok (v, L)) V (.returned u) w' := ⟨hb, ⟨u, rfl, hv⟩, hp⟩
theorem does_no {α : Type} {p E : Nat} {w w' : World} {x : Nat × Int} {V : α → Value → World → Prop} (hb : But p w w') : Does p E w (.error x) V (Pan x) w' := ⟨hb, rfl⟩
def vUnit : Unit → Value → World → Prop := fun _ u _ => u = .tuple #[]
def vTerm : Tm → Value → World → Prop := fun t u _ => u = tval t

set_option maxRecDepth 100000 in
set_option maxHeartbeats 1000000 in
theorem need_at (p E : Nat) (k : Int) (s : List UInt8) (L : List Lx.Tok) (w : World) (h : PAt w p E L) (hk : k ≠ 0) :
    Calls Tryz.prog 79 #[ptr p, .int .i64 k, str s] w (Does p E w (Ps.need E k s L) vUnit) := by
  have hmf : ∀ (fn : Fn) (first cap : Array Value) (w : World), (Instr.makeFunc fn first cap).run Tryz.prog w = .ok (.func fn first cap) w := fun _ _ _ _ => rfl
  have B0 := Below.then (below_alloc w (.cells #[.int .i64 k] 3)) (below_alloc _ (.cells #[str s] 9))
  have c0 : ((w.alloc (.cells #[.int .i64 k] 3)).alloc (.cells #[str s] 9)).cell? ⟨w.heap.size, 0, none⟩ = some (.int .i64 k) := by
    rw [heap_cell (below_heap (below_alloc _ (.cells #[str s] 9)) (heap_alloc_new w _))]; rfl
  have c1 : ((w.alloc (.cells #[.int .i64 k] 3)).alloc (.cells #[str s] 9)).cell? ⟨w.heap.size + 1, 0, none⟩ = some (str s) := by
    have := heap_alloc_new (w.alloc (.cells #[.int .i64 k] 3)) (.cells #[str s] 9)
    rw [show (w.alloc (.cells #[.int .i64 k] 3)).heap.size = w.heap.size + 1 by simp] at this
    rw [heap_cell this]; rfl
  rcases need_split E k s L hk with ⟨t, R, rfl, ht, hn⟩ | ⟨ht, hn⟩
  · have T := hideP (takeN_yes k s w.heap.size (w.heap.size + 1) p E t R _ (h.below B0) c0 c1 ht)
    rw [hn]
    clear ht hn hk c0 c1
    go_enter Tryz.func79, Tryz.ntmps79
    go_wp2_with (first
      | (go_at_call 102; refine T.out.mono ?_; rintro e w1 ⟨rfl, p1, b1⟩))
    go_end0
    exact does_ok ((But.of_below B0).trans b1) rfl p1
  · have T := hideP (takeN_no k s w.heap.size (w.heap.size + 1) p E L _ (h.below B0) c0 c1 ht)
    rw [hn]
    clear ht hn hk c0 c1
    go_enter Tryz.func79, Tryz.ntmps79
    go_wp2_with (first
      | (go_at_call 102; refine T.out.mono ?_; rintro e w1 ⟨rfl, b1⟩; simp only [Pan]))
    exact ⟨rfl, does_no ((But.of_below B0).trans b1)⟩

set_option maxRecDepth 100000 in
set_option maxHeartbeats 1000000 in
theorem term_at (p E : Nat) (L : List Lx.Tok) (w : World) (h : PAt w p E L) :
    Calls Tryz.prog 78 #[ptr p] w (Does p E w (Ps.term E L) vTerm) := by
  have iN : (Tryz.prog.info? 97).map (·.size) = some 4 := by kernel_rfl
  have iT : (Tryz.prog.info? 38).map (·.size) = some 4 := by kernel_rfl
  have B0 := below_alloc w (.cells #[.string { data := #[] }, .bool false, .int .i64 0, .string { data := #[] }] 38)
  have Z0 := heap_alloc_new w (.cells #[.string { data := #[] }, .bool false, .int .i64 0, .string { data := #[] }] 38)
  have hp := h.lt
  rcases term_split E L with ⟨t, R, rfl, ht, hn⟩ | ⟨ht, hn⟩
  · have T := hideP (takeF_yes 75 Ps.mayT enter_term mayBeTerm_at p E t R _ (h.below B0) ht)
    rw [hn]
    clear ht hn
    obtain ⟨kd, tx, n, pl⟩ := t
    by_cases k2 : kd = 2
    · subst k2
      have HT := hideP (show vTerm (Ps.tm ⟨2, tx, n, pl⟩) (tval ⟨tx, k0⟩) w from rfl)
      go_enter Tryz.func78, Tryz.ntmps78
      go_wp2_with (first
        | (go_at_call 102; refine T.out.mono ?_; rintro e w1 ⟨rfl, p1, b1⟩; have Z1 := b1.heap (show w.heap.size ≠ p by omega) Z0; have s1 := heap_lt Z1; have V1 := heap_alloc_new w1 zT)
        | (refine wpList_store_all rfl 97 _ _ rfl w1.heap.size 4 _ 97 (tokv ⟨2, tx, n, pl⟩) rfl rfl V1 rfl rfl iN rfl ?_; intro w2 V2 b2; have Z2 := below_heap (below_tok b2) Z1; obtain ⟨x1, x2, x3, x4⟩ := tok_blk V2)
        | (refine wpList_store_all rfl 38 _ _ rfl w.heap.size 4 _ 38 (tv ⟨tx, k0⟩) rfl rfl Z2 rfl rfl iT rfl ?_; intro w5 V5 b5))
      have hb : But p w w5 := ((But.of_below B0).trans (b1.below (below_tok b2))).fresh b5 (Nat.le_refl _)
      exact bodyPost_ret (results_cell rfl rfl V5 Tryz.underlying38 rfl (by kernel_rfl)) rfl (does_ok hb HT.out ((p1.below (below_tok b2)).but b5 Z2 (by decide) (by decide)))
    by_cases k3 : kd = 3
    · subst k3
      have HT := hideP (show vTerm (Ps.tm ⟨3, tx, n, pl⟩) (tval ⟨[], ⟨true, n, []⟩⟩) w from rfl)
      clear k2
      go_enter Tryz.func78, Tryz.ntmps78
      go_wp2_with (first
        | (go_at_call 102; refine T.out.mono ?_; rintro e w1 ⟨rfl, p1, b1⟩; have Z1 := b1.heap (show w.heap.size ≠ p by omega) Z0; have s1 := heap_lt Z1; have V1 := heap_alloc_new w1 zT)
        | (refine wpList_store_all rfl 97 _ _ rfl w1.heap.size 4 _ 97 (tokv ⟨3, tx, n, pl⟩) rfl rfl V1 rfl rfl iN rfl ?_; intro w2 V2 b2; have Z2 := below_heap (below_tok b2) Z1; obtain ⟨x1, x2, x3, x4⟩ := tok_blk V2)
        | (refine wpList_store_all rfl 38 _ _ rfl w.heap.size 4 _ 38 (tv ⟨[], ⟨true, n, []⟩⟩) rfl rfl Z2 rfl rfl iT rfl ?_; intro w5 V5 b5))
      have hb : But p w w5 := ((But.of_below B0).trans (b1.below (below_tok b2))).fresh b5 (Nat.le_refl _)
      exact bodyPost_ret (results_cell rfl rfl V5 Tryz.underlying38 rfl (by kernel_rfl)) rfl (does_ok hb HT.out ((p1.below (below_tok b2)).but b5 Z2 (by decide) (by decide)))
    · have HT := hideP (show vTerm (Ps.tm ⟨kd, tx, n, pl⟩) (tval ⟨[], ⟨false, 0, tx⟩⟩) w by unfold vTerm Ps.tm; rw [if_neg k2, if_neg k3])
      go_enter Tryz.func78, Tryz.ntmps78
      go_wp2_with (first
        | (go_at_call 102; refine T.out.mono ?_; rintro e w1 ⟨rfl, p1, b1⟩; have Z1 := b1.heap (show w.heap.size ≠ p by omega) Z0; have s1 := heap_lt Z1; have V1 := heap_alloc_new w1 zT)
        | (refine wpList_store_all rfl 97 _ _ rfl w1.heap.size 4 _ 97 (tokv ⟨kd, tx, n, pl⟩) rfl rfl V1 rfl rfl iN rfl ?_; intro w2 V2 b2; have Z2 := below_heap (below_tok b2) Z1; obtain ⟨x1, x2, x3, x4⟩ := tok_blk V2)
        | (refine wpList_store_all rfl 38 _ _ rfl w.heap.size 4 _ 38 (tv ⟨[], ⟨false, 0, tx⟩⟩) rfl rfl Z2 rfl rfl iT rfl ?_; intro w5 V5 b5))
      have hb : But p w w5 := ((But.of_below B0).trans (b1.below (below_tok b2))).fresh b5 (Nat.le_refl _)
      exact bodyPost_ret (results_cell rfl rfl V5 Tryz.underlying38 rfl (by kernel_rfl)) rfl (does_ok hb HT.out ((p1.below (below_tok b2)).but b5 Z2 (by decide) (by decide)))
  · have T := hideP (takeF_no 75 Ps.mayT enter_term mayBeTerm_at p E L _ (h.below B0) ht)
    rw [hn]
    clear ht hn
    go_enter Tryz.func78, Tryz.ntmps78
    go_wp2_with (first
      | (go_at_call 102; refine T.out.mono ?_; rintro e w1 ⟨rfl, b1⟩; simp only [Pan]))
    exact ⟨rfl, does_no ((But.of_below B0).trans b1)⟩

/-- one token more, if it is that one -/
def tookR (k : Int) (s : List UInt8) (L : List Lx.Tok) : Bool × List Lx.Tok := if Ps.isT k s (Ps.hd L) = true then (true, L.tail) else (false, L)
set_option maxRecDepth 100000 in
set_option maxHeartbeats 1000000 in
theorem took_yes (p E : Nat) (k : Int) (s : List UInt8) (t : Lx.Tok) (L : List Lx.Tok) (w : World) (h : PAt w p E (t :: L)) (ht : Ps.isT k s t = true) :
    Calls Tryz.prog 81 #[ptr p, .int .i64 k, str s] w fun e w' => e = .returned (.bool true) ∧ PAt w' p E L ∧ But p w w' := by
  have HA := hideP (ahead0 p E (t :: L) w h)
  have HI := hideP (fun w => is_at t k s w)
  rw [ht] at HI
  obtain ⟨a, c, H0, r0⟩ := h.obj
  obtain ⟨P1, O1, rfl⟩ := r0.row.addr (by simp)
  simp only [List.length_cons] at H0
  have few := r0.row.few
  simp only [List.length_cons] at few
  have HS := fun w => slice1 P1 O1 L.length c w
  clear ht
  go_enter Tryz.func81, Tryz.ntmps81
  go_wp2_with fail
  refine HA.out.mono ?_
  rintro e w1 ⟨rfl, b1⟩
  simp only [Ps.hd]
  go_wp2_with (first
    | (go_at_call 104; refine (HI.out _).mono ?_; rintro e w3 ⟨rfl, b3⟩; have B3 := Below.then b1 b3; have H3 := below_heap B3 H0; have c3 : w3.cell? ⟨p, 0, none⟩ = some (.slice (some ⟨P1, O1, none⟩) (L.length + 1) c) := (by rw [heap_cell H3]; rfl))
    | (refine wpList_store_cel rfl 68 _ _ rfl p 0 2 73 (.slice (some (tl P1 O1 c)) L.length (c - 1)) #[.slice (some (tl P1 O1 c)) L.length (c - 1), .int .i64 (E : Int)] rfl rfl H3 rfl (by decide) (by kernel_rfl) rfl rfl ?_; intro w4 V4 b4))
  go_ret
  have hb : But p w w4 := (But.of_below B3).trans b4
  exact ⟨rfl, PAt.took H0 r0 hb V4, hb⟩
set_option maxRecDepth 100000 in
set_option maxHeartbeats 1000000 in
theorem took_no (p E : Nat) (k : Int) (s : List UInt8) (L : List Lx.Tok) (w : World) (h : PAt w p E L) (ht : Ps.isT k s (Ps.hd L) = false) :
    Calls Tryz.prog 81 #[ptr p, .int .i64 k, str s] w fun e w' => e = .returned (.bool false) ∧ Below w.heap.size w w' := by
  have HA := hideP (ahead0 p E L w h)
  have HI := hideP (fun w => is_at (Ps.hd L) k s w)
  rw [ht] at HI
  clear ht
  generalize Ps.hd L = t at *
  go_enter Tryz.func81, Tryz.ntmps81
  go_wp2_with fail
  refine HA.out.mono ?_
  rintro e w1 ⟨rfl, b1⟩
  go_wp2_with (first
    | (go_at_call 104; refine (HI.out _).mono ?_; rintro e w3 ⟨rfl, b3⟩))
  go_ret
  exact ⟨rfl, Below.then b1 b3⟩
theorem took_at (p E : Nat) (k : Int) (s : List UInt8) (L : List Lx.Tok) (w : World) (h : PAt w p E L) (hk : k ≠ 0) :
    Calls Tryz.prog 81 #[ptr p, .int .i64 k, str s] w fun e w' => e = .returned (.bool (tookR k s L).1) ∧ PAt w' p E (tookR k s L).2 ∧ But p w w' := by
  unfold tookR
  by_cases ht : Ps.isT k s (Ps.hd L) = true
  · rw [if_pos ht]
    cases L with
    | nil => exact absurd rfl (Ps.hd_ne hk ht)
    | cons t L => exact took_yes p E k s t L w h ht
  · rw [if_neg ht]
    refine (took_no p E k s L w h (by simpa using ht)).mono ?_
    rintro e w' ⟨rfl, hb⟩
    exact ⟨rfl, h.below hb, But.of_below hb⟩

set_option maxRecDepth 100000 in
set_option maxHeartbeats 1000000 in
theorem allow_few (p : Nat) (n m : Int) (w : World) (hn : ¬ n = m) :
    Calls Tryz.prog 50 #[ptr p, .int .i64 n, .int .i64 m] w fun e w' => e = .returned (.tuple #[]) ∧ w = w' := by
  have hq : (n == m) = false := by simpa using hn
  go_enter Tryz.func50, Tryz.ntmps50
  go_wp2_with fail
  go_end0
  exact ⟨rfl, rfl⟩
set_option maxRecDepth 100000 in
set_option maxHeartbeats 1000000 in
theorem allow_full (p E : Nat) (m : Int) (L : List Lx.Tok) (w : World) (h : PAt w p E L) :
    Calls Tryz.prog 50 #[ptr p, .int .i64 m, .int .i64 m] w fun e w' => Below w.heap.size w w' ∧ if Ps.mayT (Ps.hd L) = true then e = Pan (Ps.many E L) else e = .returned (.tuple #[]) := by
  have HA := hideP (ahead0 p E L w h)
  have HT := hideP (fun w => mayBeTerm_at (Ps.hd L) w)
  have HG := hideP (fun w h => giveUp_at p E 81 L w h)
  have HM := hideP (fun hm : Ps.mayT (Ps.hd L) = true => show (Ps.pl E L, (81 : Int)) = Ps.many E L by unfold Ps.many; rw [if_pos hm])
  generalize Ps.hd L = t at *
  generalize Ps.mayT t = b at *
  go_enter Tryz.func50, Tryz.ntmps50
  go_wp2_with fail
  refine HA.out.mono ?_
  rintro e w1 ⟨rfl, b1⟩
  cases b
  · go_wp2_with (first
      | (go_at_call 75; refine (HT.out _).mono ?_; rintro e w3 ⟨rfl, b3⟩; have B3 := Below.then b1 b3))
    go_end0
    exact ⟨B3, by simp⟩
  · go_wp2_with (first
      | (go_at_call 75; refine (HT.out _).mono ?_; rintro e w3 ⟨rfl, b3⟩; have B3 := Below.then b1 b3)
      | (go_at_call 77; refine (HG.out _ (h.below B3)).mono ?_; rintro e w4 ⟨rfl, rfl⟩; simp only [Pan]))
    refine ⟨rfl, B3, ?_⟩
    rw [← HM.out trivial]; rfl
end Go.Proofs.YtefajadolgmpdaaGreatDoor
